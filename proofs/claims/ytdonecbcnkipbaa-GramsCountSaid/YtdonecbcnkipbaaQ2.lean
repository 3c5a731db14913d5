/- Layer 42: borders. -/
import Derived.Test.YtdonecbcnkipbaaQ1
import Derived.Deep.RegionHeld3
namespace Go.Proofs.Ytdonecbcnkipbaa
open Go.ChangeShapes Go.WideShapes Go.ChangeAt Go.RowKit
set_option linter.unusedVariables false
set_option maxRecDepth 100000
open RollMath
/-- The borders of the first k. -/
def BorsTo (p : List UInt8) (bl : List Int) (k : Nat) : Prop := bl.length = p.length ∧ ∀ j, 1 ≤ j → j ≤ k → ∃ b : Nat, bl.getD (j - 1) 0 = b ∧ Bor p j b
theorem bors_next {p : List UInt8} {bl : List Int} {k n : Nat} (h : BorsTo p bl k) (hk : k < p.length) (hb : Bor p (k + 1) n) : BorsTo p (bl.set k (n : Int)) (k + 1) := by
  refine ⟨by rw [List.length_set]; exact h.1, fun j h1 h2 => ?_⟩
  by_cases e : j = k + 1
  · subst e
    refine ⟨n, ?_, hb⟩
    rw [Nat.add_sub_cancel]
    simp [List.getD_eq_getElem?_getD, List.getElem?_set, h.1, hk]
  · obtain ⟨b, hb1, hb2⟩ := h.2 j h1 (by omega)
    refine ⟨b, ?_, hb2⟩
    rw [← hb1]
    simp only [List.getD_eq_getElem?_getD, List.getElem?_set]
    rw [if_neg (by omega)]
theorem bor_one (p : List UInt8) : Bor p 1 0 := ⟨by decide, by simp, fun m hm _ => by omega⟩
theorem bors_start (p : List UInt8) (hp : 0 < p.length) : BorsTo p (List.replicate p.length 0) 1 := by
  refine ⟨by simp, fun j h1 h2 => ?_⟩
  obtain rfl : j = 1 := by omega
  exact ⟨0, by simp [List.getD_eq_getElem?_getD, hp], bor_one p⟩
end Go.Proofs.Ytdonecbcnkipbaa
