/- Layers 1: the writer and the document's row of bits, side by side. -/
import Derived.Test.YtnpbjnhjgoafpaaBwa
import Derived.Test.YtnpbjnhjgoafpaaD1
namespace Go.Proofs.Ytnpbjnhjgoafpaa
open Go.ChangeShapes Go.WideShapes Go.ChangeAt Go.RowKit
set_option linter.unusedVariables false
set_option maxRecDepth 100000
open Bits
/-- A writer with the bits lw, and a row of the call's own with the bits lv, apart from each other. -/
structure Side (w0 wr : World) (g : Nat) (v : Value) (lw lv : List Bool) : Prop where
  wri : IsWriter wr g w0.heap.size lw
  row : OwnB w0.heap.size wr v lv
  base : ∀ k, foot wr g k → w0.heap.size ≤ k
  apart : ∀ k, foot wr g k → v.ownBlock ≠ some k
  below : Below w0.heap.size w0 wr
theorem Side.rowed {w0 wr w1 : World} {g : Nat} {v v1 : Value} {lw lv lv1 : List Bool} (h : Side w0 wr g v lw lv) (ho : OwnB w0.heap.size w1 v1 lv1) (hr : Row1 wr v w1 v1) : Side w0 w1 g v1 lw lv1 := by
  have hk := h.wri.keep hr.1 (fun k hf e => h.apart k hf e)
  refine ⟨hk.1, ho, fun k hf => h.base k ((hk.2 k).1 hf), fun k hf e => ?_, h.below.trans (hr.below h.below.size (fun k e => (h.row.lt k e).1))⟩
  have hf0 := (hk.2 k).1 hf
  rcases hr.2 k e with e | e
  · exact h.apart k hf0 e
  · have := foot_lt h.wri k hf0; omega
theorem Side.wrote {w0 wr w1 : World} {g : Nat} {v : Value} {lw lw1 lv : List Bool} (h : Side w0 wr g v lw lv) (hw : IsWriter w1 g w0.heap.size lw1) (hk : Keeps (foot wr g) wr w1) (hf : ∀ k, foot w1 g k → foot wr g k ∨ wr.heap.size ≤ k) : Side w0 w1 g v lw1 lv := by
  refine ⟨hw, hk.ownsRow h.row (fun k e hs => h.apart k hs e), fun k hk1 => ?_, fun k hk1 e => ?_, h.below.trans (hk.below (fun k hk' => ⟨Nat.lt_of_lt_of_le hk' h.below.size, fun hs => by have := h.base k hs; omega⟩))⟩
  · rcases hf k hk1 with h1 | h1
    · exact h.base k h1
    · have := h.below.size; omega
  · rcases hf k hk1 with h1 | h1
    · exact h.apart k h1 e
    · have := (h.row.lt k e).2; omega
theorem Side.later {w0 wr w1 : World} {g : Nat} {v : Value} {lw lv : List Bool} (h : Side w0 wr g v lw lv) (hb : Below wr.heap.size wr w1) : Side w0 w1 g v lw lv := by
  have hk := h.wri.keep (S := fun _ => False) (Keeps.of_below hb) (fun k hf e => e)
  exact ⟨hk.1, h.row.kept hb, fun k hf => h.base k ((hk.2 k).1 hf), fun k hf => h.apart k ((hk.2 k).1 hf), h.below.trans (hb.mono h.below.size)⟩
theorem Side.drewN {w0 wr : World} {g : Nat} {v : Value} {lw lv : List Bool} (h : Side w0 wr g v lw lv) (n : Nat) : Side w0 (wr.drewN n) g v lw lv := h.later (below_dn (Below.refl _ _) n)
theorem side_new {w0 w1 : World} {g : Nat} (hw : IsWriter w1 g w0.heap.size []) (hb : Below w0.heap.size w0 w1) (hf : ∀ k, foot w1 g k → w0.heap.size ≤ k) : Side w0 w1 g (.slice none 0 0) [] [] :=
  ⟨hw, OwnS.nil, hf, fun k _ e => by simp [Value.ownBlock] at e, hb⟩
end Go.Proofs.Ytnpbjnhjgoafpaa
