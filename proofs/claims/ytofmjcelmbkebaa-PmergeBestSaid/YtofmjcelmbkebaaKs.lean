/- Layer 6: Whole and Check. -/
import Derived.Test.YtofmjcelmbkebaaKr
namespace Go.Proofs.Ytofmjcelmbkebaa
open Go.ChangeShapes Go.WideShapes Go.ChangeAt Go.RowKit
set_option linter.unusedVariables false
set_option maxRecDepth 100000
open KraftMath

theorem ksum_lt {w : World} {a : Option Addr} (m : Nat) (zs : List Int) (h : IsInts w a zs) (hm : m ≤ 16) : ksum m zs ≤ 2305843009213693952 := by
  have := ksum_le m zs hm
  have := h.1
  omega
theorem wrap_pow (m : Nat) (h : m ≤ 16) : wrap64 (2 ^ m) = ((2 ^ m : Nat) : Int) := by
  have hp : 2 ^ m ≤ 2 ^ 16 := Nat.pow_le_pow_right (by decide) h
  have e : (2 : Int) ^ m = ((2 ^ m : Nat) : Int) := by simp
  rw [e]
  generalize 2 ^ m = P at *
  unfold wrap64; omega
theorem pow_test (S m : Nat) (h : m ≤ 16) : ((S : Int) == wrap64 (2 ^ m)) = decide (S = 2 ^ m) := by
  rw [wrap_pow m h, Bool.eq_iff_iff, beq_iff_eq, decide_eq_true_iff]
  constructor
  · intro h; exact_mod_cast h
  · intro h; exact_mod_cast h
theorem check_bad (zs : List Int) (m k : Nat) (h1 : 1 ≤ m) (h16 : m ≤ 16) (hl : zs.length ≤ 1024) (hk : k < zs.length) (hb : bad m (zs.getD k 0) = true) : check zs m = 2 := by
  have ha : zs.any (bad m) = true := by
    rw [List.any_eq_true]
    refine ⟨zs.getD k 0, ?_, hb⟩
    rw [List.getD_eq_getElem?_getD, List.getElem?_eq_getElem hk]; exact List.getElem_mem hk
  unfold check
  rw [if_neg (by omega), if_neg (by omega), Int.toNat_natCast, if_pos ha]
theorem check_good (zs : List Int) (m : Nat) (h1 : 1 ≤ m) (h16 : m ≤ 16) (hl : zs.length ≤ 1024) (hg : zs.any (bad m) = false) :
    check zs m = if used zs = 0 then 7 else if used zs = 1 then (if sole 0 zs = 1 then 0 else 6) else if ksum m zs = 2 ^ m then 0 else 6 := by
  unfold check
  rw [if_neg (by omega), if_neg (by omega), Int.toNat_natCast, if_neg (by rw [hg]; decide)]
  by_cases h0 : used zs = 0
  · rw [if_pos h0, if_pos h0]
  · rw [if_neg h0, if_neg h0]
    by_cases hu : used zs = 1
    · rw [if_pos hu, if_pos hu]
      obtain ⟨g1, g2, g3⟩ := ksum_one m 0 zs hu ((any_bad m zs).1 hg)
      rw [g3]
      have := pow_half m (sole 0 zs).toNat (by omega) (by omega)
      by_cases hs : sole 0 zs = 1
      · rw [if_pos hs, if_pos (this.2 (by omega))]
      · rw [if_neg hs, if_neg (fun h => hs (by have := this.1 h; omega))]
    · rw [if_neg hu, if_neg hu]
theorem any_succ (zs : List Int) (m k : Nat) (h : k < zs.length) (ha : (zs.take k).any (bad m) = false) (hb : bad m (zs.getD k 0) = false) : (zs.take (k + 1)).any (bad m) = false := by
  rw [take_succ_getD zs k h, List.any_append, ha, Bool.false_or]; simp only [List.any_cons, List.any_nil, Bool.or_false]; exact hb
theorem sole_append (s : Int) (l : List Int) (x : Int) : sole s (l ++ [x]) = if x = 0 then sole s l else x := by
  induction l generalizing s with
  | nil => rfl
  | cons n l ih => exact ih _
theorem sole_succ (zs : List Int) (k : Nat) (h : k < zs.length) : sole 0 (zs.take (k + 1)) = if zs.getD k 0 = 0 then sole 0 (zs.take k) else zs.getD k 0 := by
  rw [take_succ_getD zs k h, sole_append]
def Soles (zs : List Int) (m k : Nat) (s : Int) : Prop := (zs.take k).any (bad m) = false ∧ s = sole 0 (zs.take k)
theorem check_lim (zs : List Int) (m : Int) (h : m < 1 ∨ 16 < m) : check zs m = 1 := by unfold check; rw [if_pos h]
theorem check_long (zs : List Int) (m : Nat) (h1 : 1 ≤ m) (h16 : m ≤ 16) (hl : 1024 < zs.length) : check zs m = 5 := by unfold check; rw [if_neg (by omega), if_pos hl]
def wholeB (zs : List Int) (m : Int) : Bool := decide (1 ≤ m ∧ m ≤ 16 ∧ ksum m.toNat zs = 2 ^ m.toNat)
end Go.Proofs.Ytofmjcelmbkebaa
