/- Layer 1's awake, and writers that are none. -/
import Derived.Test.YtplopddlpoffoaaBz
namespace Go.Proofs.Ytplopddlpoffoaa
open Go.ChangeShapes Go.WideShapes Go.ChangeAt Go.RowKit
set_option linter.unusedVariables false
set_option maxRecDepth 100000
open Bits

theorem foot_lt {w : World} {g B : Nat} {l : List Bool} (h : IsWriter w g B l) : ∀ k, foot w g k → k < w.heap.size := by
  obtain ⟨v, bs, r, n, ⟨hg, hown, hB, hbl⟩, hm, hr, hsp⟩ := h
  intro k hk
  rcases hk with rfl | ⟨v', hv, hb⟩
  · exact block_lt hg
  · rw [cell_in hg 0] at hv
    simp at hv
    subst hv
    exact (hown.lt k hb).2
theorem IsWriter.keep {w w' : World} {g B : Nat} {l : List Bool} {S : Nat → Prop} (h : IsWriter w g B l) (hk : Keeps S w w') (hd : ∀ k, foot w g k → ¬ S k) : IsWriter w' g B l ∧ ∀ k, foot w' g k ↔ foot w g k := by
  have hlt := foot_lt h
  obtain ⟨v, bs, r, n, ⟨hg, hown, hB, hbl⟩, hm, hr, hsp⟩ := h
  have hg' := hk.heap hg (hd g (.inl rfl))
  have c : w.cell? ⟨g, 0, none⟩ = some v := cell_lit hg 0 v rfl
  have c' : w'.cell? ⟨g, 0, none⟩ = some v := cell_lit hg' 0 v rfl
  refine ⟨⟨v, bs, r, n, ⟨hg', hk.ownsRow hown (fun k hb => hd k (.inr ⟨v, c, hb⟩)), Nat.le_trans hB hk.size, hbl⟩, hm, hr, hsp⟩, fun k => ?_⟩
  unfold foot; rw [c, c']
theorem IsWriter.drewN {w : World} {g B : Nat} {l : List Bool} (h : IsWriter w g B l) (k : Nat) : IsWriter (w.drewN k) g B l := h
theorem put_frame {w0 w w' : World} {g n : Nat} (hb : Below n w0 w) (hn : n ≤ w.heap.size) (hf : ∀ k, foot w g k → n ≤ k) (hk : Keeps (foot w g) w w') (hf' : ∀ k, foot w' g k → foot w g k ∨ w.heap.size ≤ k) : Below n w0 w' ∧ ∀ k, foot w' g k → n ≤ k := by
  refine ⟨hb.trans (hk.below (fun k hk' => ⟨Nat.lt_of_lt_of_le hk' hn, fun h => by have := hf k h; omega⟩)), fun k h => ?_⟩
  rcases hf' k h with h | h
  · exact hf k h
  · omega
end Go.Proofs.Ytplopddlpoffoaa
