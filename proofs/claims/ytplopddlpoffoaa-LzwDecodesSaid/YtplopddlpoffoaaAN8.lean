/- Layer 60: a writer and the map side by side. -/
import Derived.Test.YtplopddlpoffoaaAN7
import Derived.Test.YtplopddlpoffoaaBwa
namespace Go.Proofs.Ytplopddlpoffoaa
open Go.ChangeShapes Go.WideShapes Go.ChangeAt Go.RowKit Go.Maps Go.Lib Go.WideMaps
set_option linter.unusedVariables false
set_option linter.unusedSimpArgs false
set_option maxRecDepth 100000
open Bits
structure Pen (w0 wr : World) (g b c : Nat) (bs : List Bool) (M : Nat → Nat → Option Nat) : Prop where
  wri : IsWriter wr g w0.heap.size bs
  map : IsN wr b c M
  apart : ¬ foot wr g b
  foot : ∀ k, foot wr g k → w0.heap.size ≤ k
  old : w0.heap.size ≤ b
  lt : b < wr.heap.size
  below : Below w0.heap.size w0 wr
theorem IsN.same {w w' : World} {b c : Nat} {M : Nat → Nat → Option Nat} (h : IsN w b c M) (e : w'.heap[b]? = w.heap[b]?) : IsN w' b c M := by
  obtain ⟨D, ⟨es, clock, hb, F, hs, hD⟩, h2⟩ := h
  exact ⟨D, ⟨es, clock, e.trans hb, F, hs, hD⟩, h2⟩
theorem IsN.made (w : World) : IsN (w.alloc (.map #[] 0)) w.heap.size 0 (fun _ _ => none) :=
  ⟨.map [], World.ownsMap_made w Try.prog 85 _, fun i y _ _ => ⟨rfl, fun v hv => by cases hv⟩⟩
section
variable {w0 wr w1 : World} {g b c c1 : Nat} {bs bs1 : List Bool} {M M1 : Nat → Nat → Option Nat}
theorem Pen.put (h : Pen w0 wr g b c bs M) (hw : IsWriter w1 g w0.heap.size bs1) (hk : Keeps (Go.Proofs.Ytplopddlpoffoaa.foot wr g) wr w1) (hf : ∀ k, Go.Proofs.Ytplopddlpoffoaa.foot w1 g k → Go.Proofs.Ytplopddlpoffoaa.foot wr g k ∨ wr.heap.size ≤ k) : Pen w0 w1 g b c bs1 M := by
  obtain ⟨h1, h2⟩ := put_frame (n := w0.heap.size) h.below h.below.size h.foot hk hf
  refine ⟨hw, h.map.same (hk.block b h.lt h.apart), fun e => ?_, h2, h.old, Nat.lt_of_lt_of_le h.lt hk.size, h1⟩
  rcases hf b e with e | e
  · exact h.apart e
  · have := h.lt; omega
theorem Pen.turn (h : Pen w0 wr g b c bs M) (hM : IsN w1 b c1 M1) (ht : wr.mapTurned w1 b) : Pen w0 w1 g b c1 bs M1 := by
  have hg := ht.grown
  have hk : Keeps (fun k => k = b) wr w1 := (Keeps.refl _ _).grown hg (fun k e => .inr (by cases e; rfl))
  obtain ⟨hw, hf⟩ := h.wri.keep hk (fun k hf e => h.apart (e ▸ hf))
  exact ⟨hw, hM, fun e => h.apart ((hf b).1 e), fun k e => h.foot k ((hf k).1 e), h.old, Nat.lt_of_lt_of_le h.lt hk.size, h.below.trans (hk.below (fun k hk' => ⟨Nat.lt_of_lt_of_le hk' h.below.size, fun e => by have := h.old; omega⟩))⟩
theorem Pen.start {w : World} (hw : IsWriter w1 w.heap.size w.heap.size []) (hb : Below w.heap.size w w1) (hf : ∀ k, Go.Proofs.Ytplopddlpoffoaa.foot w1 w.heap.size k → w.heap.size ≤ k) : Pen w (w1.alloc (.map #[] 0)) w.heap.size w1.heap.size 0 [] (fun _ _ => none) := by
  have hAL : Below w1.heap.size w1 (w1.alloc (.map #[] 0)) := (Below.refl _ _).alloc (Nat.le_refl _) _
  obtain ⟨hwA, hfA⟩ := IsWriter.keep (S := fun _ => False) hw (Keeps.of_below hAL) (fun _ _ h => h)
  refine ⟨hwA, IsN.made w1, fun e => ?_, fun k e => hf k ((hfA k).1 e), hb.size, by simp, hb.trans (hAL.mono hb.size)⟩
  have := foot_lt hw _ ((hfA _).1 e)
  omega
end
end Go.Proofs.Ytplopddlpoffoaa
