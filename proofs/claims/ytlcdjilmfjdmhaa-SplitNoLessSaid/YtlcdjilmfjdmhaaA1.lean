/- Contracts of layer 52's functions, the program's and the document's. -/
import Derived.Test.YtlcdjilmfjdmhaaBase
import Derived.Test.YtlcdjilmfjdmhaaShelf
import Derived.Lib.ItoaNum
import Derived.Test.YtlcdjilmfjdmhaaLi
import Derived.WalkLawsBesides
namespace Go.Proofs.Ytlcdjilmfjdmhaa
open Go.ChangeShapes Go.WideShapes Go.ChangeAt Go.RowKit
set_option linter.unusedVariables false
set_option maxRecDepth 100000

def stepL (p : Nat × Nat) : Nat × Nat := if 4294967296 ≤ p.2 * p.2 / 2147483648 then (2 * p.1 + 1, p.2 * p.2 / 2147483648 / 2) else (2 * p.1, p.2 * p.2 / 2147483648)
def itL (p : Nat × Nat) : Nat → Nat × Nat
  | 0 => p
  | j + 1 => stepL (itL p j)

theorem bitLen_facts (n : Nat) (h0 : 1 ≤ n) (h : n ≤ 4294967295) : ∃ k, Lib.bitLen n = k + 1 ∧ k ≤ 31 ∧ 2 ^ k ≤ n ∧ n < 2 ^ (k + 1) := by
  have hb := Lib.bitLenAux_bounds 64 n (by omega) (by omega)
  have hl := Lib.bitLen_le n 32 (by decide) (by omega)
  unfold Lib.bitLen at hl ⊢
  refine ⟨Lib.bitLenAux 64 n - 1, by omega, by omega, hb.2.1, ?_⟩
  have e : Lib.bitLenAux 64 n - 1 + 1 = Lib.bitLenAux 64 n := by omega
  rw [e]; exact hb.2.2

theorem pow_split (k : Nat) (hk : k ≤ 31) : 2 ^ k * 2 ^ (31 - k) = 2147483648 := by
  rw [← Nat.pow_add, show k + (31 - k) = 31 by omega]
theorem norm_bd (n k : Nat) (hk : k ≤ 31) (h1 : 2 ^ k ≤ n) (h2 : n < 2 ^ (k + 1)) : 2147483648 ≤ n * 2 ^ (31 - k) ∧ n * 2 ^ (31 - k) < 4294967296 := by
  have hp := pow_split k hk
  have hpos : 0 < 2 ^ (31 - k) := Nat.pow_pos (by decide)
  refine ⟨?_, ?_⟩
  · rw [← hp]; exact Nat.mul_le_mul_right _ h1
  · have := Nat.mul_lt_mul_of_pos_right h2 hpos
    rw [Nat.pow_succ, Nat.mul_right_comm, hp] at this; exact this

theorem sq_bd (b : Nat) (h0 : 2147483648 ≤ b) (h1 : b < 4294967296) : 4611686018427387904 ≤ b * b ∧ b * b ≤ 18446744065119617025 :=
  ⟨Nat.mul_le_mul h0 h0, Nat.mul_le_mul (Nat.le_of_lt_succ h1) (Nat.le_of_lt_succ h1)⟩
theorem stepL_bd (a b : Nat) (h0 : 2147483648 ≤ b) (h1 : b < 4294967296) : 2147483648 ≤ (stepL (a, b)).2 ∧ (stepL (a, b)).2 < 4294967296 ∧ (stepL (a, b)).1 ≤ 2 * a + 1 := by
  have := sq_bd b h0 h1
  unfold stepL
  split <;> simp only at * <;> omega

/-- Where a number's logarithm begins: how many whole bits; the number by 2^31. -/
def lg (n : Nat) : Nat := (itL (Lib.bitLen n - 1, n * 2 ^ (31 - (Lib.bitLen n - 1))) 4).1

set_option maxHeartbeats 800000 in
theorem log_any (n : Nat) (h0 : 1 ≤ n) (h : n ≤ 4294967295) (w : World) :
    Calls Try.prog 93 #[.int .i64 n] w fun e w' => e = .returned (.int .i64 (lg n)) ∧ w = w' := by
  obtain ⟨k, hk, hk1, hlo, hhi⟩ := bitLen_facts n h0 h
  have hx := norm_bd n k hk1 hlo hhi
  have hx0 : 0 ≤ (n : Int) * 2 ^ (31 - k) := by have e : ((n * 2 ^ (31 - k) : Nat) : Int) = (n : Int) * 2 ^ (31 - k) := by simp
                                                rw [← e]; omega
  have hx1 : (n : Int) * 2 ^ (31 - k) ≤ 4294967295 := by
    have e : ((n * 2 ^ (31 - k) : Nat) : Int) = (n : Int) * 2 ^ (31 - k) := by simp
    rw [← e]; omega
  have hg : lg n = (itL (k, n * 2 ^ (31 - k)) 4).1 := by unfold lg; rw [hk]; rfl
  have c1 := fun w => Try.bits_Len n w (by omega) (by omega)
  rw [Int.toNat_natCast, hk] at c1
  have C1 := Lib.hid c1; clear c1
  have HK := Lib.hid hk; have HG := Lib.hid hg; have HX := Lib.hid hx; clear hk hlo hhi hg hx
  go_enter Try.func93, Try.ntmps93
  go_wp2_with fail
  refine (C1.out _).mono ?_; rintro e w' ⟨rfl, rfl⟩
  go_wp2_with fail
  go_loop [4, 5, 16] (fun o x i => ∃ j a b : Nat, j ≤ 4 ∧ i = .int .i64 j ∧ o = .int .i64 a ∧ x = .int .u64 b ∧ itL (k, n * 2 ^ (31 - k)) j = (a, b) ∧ 2147483648 ≤ b ∧ b < 4294967296 ∧ a < 32 * 2 ^ j) (fun _ _ i => 4 - (intOf i).toNat)
  case atStart => exact ⟨0, k, n * 2 ^ (31 - k), by omega, rfl, rfl, by simp, rfl, HX.out.1, HX.out.2, by omega⟩
  case round =>
    clear hx0 hx1
    obtain ⟨j, a, b, hj, rfl, rfl, rfl, hi, hb0, hb1, ha⟩ := hrel
    have hsq := sq_bd b hb0 hb1
    have hbb0 : 0 ≤ (b : Int) * b := by rw [← Int.natCast_mul]; omega
    have hbb1 : (b : Int) * b ≤ 18446744065119617025 := by rw [← Int.natCast_mul]; omega
    have hs := stepL_bd a b hb0 hb1
    have HI := Lib.hid hi; have HS := Lib.hid hs; have HQ := Lib.hid hsq; clear hi hs hsq
    have ha' : a < 1000 := by rcases (show j = 0 ∨ j = 1 ∨ j = 2 ∨ j = 3 ∨ j = 4 by omega) with rfl | rfl | rfl | rfl | rfl <;> omega
    have ha2 : 2 * a + 1 < 32 * 2 ^ (j + 1) := by rw [Nat.pow_succ]; omega
    clear ha
    by_cases hlt : j < 4
    · by_cases hc : (4294967296 : Int) ≤ (b : Int) * b / 2147483648
      · have hst : stepL (a, b) = (2 * a + 1, b * b / 2147483648 / 2) := if_pos (by rw [← Int.natCast_mul] at hc; show 4294967296 ≤ b * b / 2147483648; omega)
        have HT := Lib.hid hst; clear hst
        go_wp2
        go_round
        case rel => exact ⟨j + 1, 2 * a + 1, b * b / 2147483648 / 2, by omega, by go_num, by go_num, by simp, by rw [itL, HI.out, HT.out], by have := HS.out; rw [HT.out] at this; exact this.1, by have := HS.out; rw [HT.out] at this; exact this.2.1, ha2⟩
        case measure => simp [intOf]; omega
      · have hst : stepL (a, b) = (2 * a, b * b / 2147483648) := if_neg (by rw [← Int.natCast_mul] at hc; show ¬ 4294967296 ≤ b * b / 2147483648; omega)
        have HT := Lib.hid hst; clear hst
        go_wp2
        go_round
        case rel => exact ⟨j + 1, 2 * a, b * b / 2147483648, by omega, by go_num, by go_num, by simp, by rw [itL, HI.out, HT.out], by have := HS.out; rw [HT.out] at this; exact this.1, by have := HS.out; rw [HT.out] at this; exact this.2.1, by omega⟩
        case measure => simp [intOf]; omega
    · obtain rfl : j = 4 := by omega
      go_wp2
      go_ret
      exact ⟨ret_i (by rw [HG.out, HI.out]), rfl⟩

theorem refLog_out (n : Int) (h : n < 1 ∨ 4294967295 < n) (w : World) :
    Calls Try.prog 94 #[.int .i64 n] w fun e w' => e = .returned (.tuple #[.int .i64 0, .int .i64 2]) ∧ w = w' := by
  rcases h with h | h
  · go_enter Try.func94, Try.ntmps94
    go_wp2
    go_ret2
    exact ⟨rfl, rfl⟩
  · have h' : ¬ n < 1 := by omega
    go_enter Try.func94, Try.ntmps94
    go_wp2
    go_ret2
    exact ⟨rfl, rfl⟩
theorem Log_out (n : Int) (h : n < 1 ∨ 4294967295 < n) (w : World) :
    Calls Try.prog 92 #[.int .i64 n] w fun e w' => e = .returned (.tuple #[.int .i64 0, .int .i64 2]) ∧ w = w' := by
  rcases h with h | h
  · go_enter Try.func92, Try.ntmps92
    go_wp2
    go_ret2
    exact ⟨rfl, rfl⟩
  · have h' : ¬ n < 1 := by omega
    go_enter Try.func92, Try.ntmps92
    go_wp2
    go_ret2
    exact ⟨rfl, rfl⟩
theorem Log_in (n : Nat) (h0 : 1 ≤ n) (h : n ≤ 4294967295) (w : World) :
    Calls Try.prog 92 #[.int .i64 n] w fun e w' => e = .returned (.tuple #[.int .i64 (lg n), .int .i64 0]) ∧ w = w' := by
  go_enter Try.func92, Try.ntmps92
  go_wp2_with fail
  refine (log_any n h0 h _).mono ?_; rintro e w' ⟨rfl, rfl⟩
  go_wp2_with fail
  go_ret2
  exact ⟨rfl, rfl⟩

theorem div_pos_of (n k : Nat) (h : 2 ^ k ≤ n) : (0 : Int) < (n : Int) / 2 ^ k := by
  have e : (n : Int) / 2 ^ k = ((n / 2 ^ k : Nat) : Int) := by simp
  have : 0 < n / 2 ^ k := Nat.div_pos h (Nat.pow_pos (by decide))
  rw [e]; omega
theorem div_zero_of (n k : Nat) (h : n < 2 ^ k) : (n : Int) / 2 ^ k = 0 := by
  have e : (n : Int) / 2 ^ k = ((n / 2 ^ k : Nat) : Int) := by simp
  rw [e, Nat.div_eq_of_lt h]; rfl
theorem shift_eq (n k : Nat) (hk : k ≤ 31) : ((n : Int) * 2147483648) / 2 ^ k = ((n * 2 ^ (31 - k) : Nat) : Int) := by
  have e : ((n : Int) * 2147483648) / 2 ^ k = ((n * 2147483648 / 2 ^ k : Nat) : Int) := by simp
  rw [e, ← pow_split k hk, Nat.mul_comm (2 ^ k), ← Nat.mul_assoc, Nat.mul_div_cancel _ (Nat.pow_pos (by decide))]

set_option maxHeartbeats 800000 in
theorem refLog_in (n : Nat) (h0 : 1 ≤ n) (h : n ≤ 4294967295) (w : World) :
    Calls Try.prog 94 #[.int .i64 n] w fun e w' => e = .returned (.tuple #[.int .i64 (lg n), .int .i64 0]) ∧ w = w' := by
  obtain ⟨K, hk, hk1, hlo, hhi⟩ := bitLen_facts n h0 h
  have hx := norm_bd n K hk1 hlo hhi
  have hg : lg n = (itL (K, n * 2 ^ (31 - K)) 4).1 := by unfold lg; rw [hk]; rfl
  have HG := Lib.hid hg; have HX := Lib.hid hx; have HL := Lib.hid hlo; have HH := Lib.hid hhi; clear hk hlo hhi hg hx
  go_enter Try.func94, Try.ntmps94
  go_wp2_with fail
  go_loop [4] (fun m => ∃ k : Nat, k ≤ K ∧ m = .int .i64 k) (fun m => K - (intOf m).toNat)
  case atStart => exact ⟨0, Nat.zero_le _, rfl⟩
  case round =>
    obtain ⟨k, hk, rfl⟩ := hrel
    by_cases hlt : k < K
    · have hq : (0 : Int) < (n : Int) / 2 ^ (k + 1) := div_pos_of n (k + 1) (Nat.le_trans (Nat.pow_le_pow_right (by decide) (by omega)) HL.out)
      go_wp2
      go_round
      case rel => exact ⟨k + 1, by omega, by go_num⟩
      case measure => simp [intOf]; omega
    · obtain rfl : k = K := by omega
      have hq : ¬ (0 : Int) < (n : Int) / 2 ^ (k + 1) := by rw [div_zero_of n (k + 1) HH.out]; decide
      have hs : ((n : Int) * 2147483648) / 2 ^ k = ((n * 2 ^ (31 - k) : Nat) : Int) := shift_eq n k hk1
      go_wp2_with fail
      clear hq hs
      go_loop [5, 6, 7] (fun x o i => ∃ j a b : Nat, j ≤ 4 ∧ i = .int .i64 j ∧ o = .int .i64 a ∧ x = .int .u64 b ∧ itL (k, n * 2 ^ (31 - k)) j = (a, b) ∧ 2147483648 ≤ b ∧ b < 4294967296 ∧ a < 32 * 2 ^ j) (fun _ _ i => 4 - (intOf i).toNat)
      case atStart => exact ⟨0, k, n * 2 ^ (31 - k), by omega, rfl, rfl, by simp, rfl, HX.out.1, HX.out.2, by omega⟩
      case round =>
        obtain ⟨j, a, b, hj, rfl, rfl, rfl, hi, hb0, hb1, ha⟩ := hrel
        have hsq := sq_bd b hb0 hb1
        have hbb0 : 0 ≤ (b : Int) * b := by rw [← Int.natCast_mul]; omega
        have hbb1 : (b : Int) * b ≤ 18446744065119617025 := by rw [← Int.natCast_mul]; omega
        have hs := stepL_bd a b hb0 hb1
        have HI := Lib.hid hi; have HS := Lib.hid hs; have HQ := Lib.hid hsq; clear hi hs hsq
        have ha' : a < 1000 := by rcases (show j = 0 ∨ j = 1 ∨ j = 2 ∨ j = 3 ∨ j = 4 by omega) with rfl | rfl | rfl | rfl | rfl <;> omega
        have ha2 : 2 * a + 1 < 32 * 2 ^ (j + 1) := by rw [Nat.pow_succ]; omega
        clear ha
        by_cases hlt : j < 4
        · by_cases hc : (4294967296 : Int) ≤ (b : Int) * b / 2147483648
          · have hst : stepL (a, b) = (2 * a + 1, b * b / 2147483648 / 2) := if_pos (by rw [← Int.natCast_mul] at hc; show 4294967296 ≤ b * b / 2147483648; omega)
            have HT := Lib.hid hst; clear hst
            go_wp2
            go_round
            case rel => exact ⟨j + 1, 2 * a + 1, b * b / 2147483648 / 2, by omega, by go_num, by go_num, by simp, by rw [itL, HI.out, HT.out], by have := HS.out; rw [HT.out] at this; exact this.1, by have := HS.out; rw [HT.out] at this; exact this.2.1, ha2⟩
            case measure => simp [intOf]; omega
          · have hst : stepL (a, b) = (2 * a, b * b / 2147483648) := if_neg (by rw [← Int.natCast_mul] at hc; show ¬ 4294967296 ≤ b * b / 2147483648; omega)
            have HT := Lib.hid hst; clear hst
            go_wp2
            go_round
            case rel => exact ⟨j + 1, 2 * a, b * b / 2147483648, by omega, by go_num, by go_num, by simp, by rw [itL, HI.out, HT.out], by have := HS.out; rw [HT.out] at this; exact this.1, by have := HS.out; rw [HT.out] at this; exact this.2.1, by omega⟩
            case measure => simp [intOf]; omega
        · obtain rfl : j = 4 := by omega
          have hl : a = lg n := by rw [HG.out, HI.out]
          have HL2 := Lib.hid hl; clear hl
          go_wp2
          go_ret2
          exact ⟨by rw [HL2.out]; rfl, rfl⟩
/-- One state of the reckoning lies no higher than another one. -/
def LeL (p q : Nat × Nat) : Prop := p.1 < q.1 ∨ (p.1 = q.1 ∧ p.2 ≤ q.2)
theorem stepL_mono (p q : Nat × Nat) (h : LeL p q) : LeL (stepL p) (stepL q) := by
  rcases h with h | ⟨h, h2⟩
  · left; unfold stepL; split <;> split <;> simp only <;> omega
  · have hm : p.2 * p.2 ≤ q.2 * q.2 := Nat.mul_le_mul h2 h2
    have hq : p.2 * p.2 / 2147483648 ≤ q.2 * q.2 / 2147483648 := Nat.div_le_div_right hm
    unfold stepL LeL
    split <;> split <;> simp only <;> omega
theorem lg_mono (n m : Nat) (h0 : 1 ≤ n) (h : n ≤ m) (h1 : m ≤ 4294967295) : lg n ≤ lg m := by
  obtain ⟨k, hk, hk1, hlo, hhi⟩ := bitLen_facts n h0 (by omega)
  obtain ⟨l, hl, hl1, hlo', hhi'⟩ := bitLen_facts m (by omega) h1
  have hs : LeL (k, n * 2 ^ (31 - k)) (l, m * 2 ^ (31 - l)) := by
    have hkl : k ≤ l := by
      rcases Nat.lt_or_ge l k with hc | hc
      · have : 2 ^ (l + 1) ≤ 2 ^ k := Nat.pow_le_pow_right (by decide) hc
        omega
      · exact hc
    rcases Nat.lt_or_eq_of_le hkl with hc | hc
    · exact .inl hc
    · subst hc; exact .inr ⟨rfl, Nat.mul_le_mul_right _ h⟩
  have h4 := stepL_mono _ _ (stepL_mono _ _ (stepL_mono _ _ (stepL_mono _ _ hs)))
  have e1 : lg n = (stepL (stepL (stepL (stepL (k, n * 2 ^ (31 - k)))))).1 := by unfold lg; rw [hk]; rfl
  have e2 : lg m = (stepL (stepL (stepL (stepL (l, m * 2 ^ (31 - l)))))).1 := by unfold lg; rw [hl]; rfl
  rw [e1, e2]
  rcases h4 with h4 | h4 <;> omega
end Go.Proofs.Ytlcdjilmfjdmhaa
