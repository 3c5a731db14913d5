/- Layer 14: numbers that are not whole: mathematics of their words. -/
import Derived.Laws.FloatArith
namespace Go.Proofs.Ytflggmbgfdglcaa
set_option linter.unusedVariables false
set_option maxRecDepth 100000
open Ieee
theorem dbl_lp : double.leastPlace = -1074 := by decide
theorem dbl_bin : double.binade = 4503599627370496 := by decide
theorem dbl_inf : double.infRung = 9218868437227405312 := by decide
theorem dbl_sw : double.signWeight = 9223372036854775808 := by decide
theorem dbl_fb : double.fractionBits = 52 := rfl
/-- What a word of a sign and a rung reads as. -/
theorem read_word (neg : Bool) (r : Nat) (h : r < 9223372036854775808) : double.read (double.word neg r) = if r < 4503599627370496 then .number neg r (-1074) else if r < 9218868437227405312 then .number neg (4503599627370496 + r % 4503599627370496) (-1074 + (r / 4503599627370496 - 1 : Nat)) else if r = 9218868437227405312 then .infinity neg else .nan neg (r - 9218868437227405312) := by
  have h1 : (double.word neg r / double.signWeight % 2 == 1) = neg := by
    unfold Format.word
    rw [dbl_sw]
    cases neg with
    | true =>
      have : (9223372036854775808 + r) / 9223372036854775808 % 2 = 1 := by omega
      rw [if_pos rfl, this]; rfl
    | false =>
      have : r / 9223372036854775808 % 2 = 0 := by omega
      rw [if_neg (by decide), this]; rfl
  have h2 : double.word neg r % double.signWeight = r := by
    unfold Format.word
    rw [dbl_sw]
    cases neg with
    | true => simp; omega
    | false => simp; omega
  unfold Format.read
  simp only [h1, h2, dbl_lp, dbl_bin, dbl_inf]
theorem read_cases (b : Nat) : (∃ s m e, double.read b = .number s m e ∧ -1074 ≤ e ∧ m < 9007199254740992 ∧ (e = -1074 ∨ 4503599627370496 ≤ m)) ∨ (∃ s, double.read b = .infinity s) ∨ ∃ s f, double.read b = .nan s f := by
  unfold Format.read
  simp only [dbl_lp, dbl_bin, dbl_inf, dbl_sw]
  by_cases h1 : b % 9223372036854775808 < 4503599627370496
  · rw [if_pos h1]
    exact .inl ⟨_, _, _, rfl, by omega, by omega, .inl rfl⟩
  · rw [if_neg h1]
    by_cases h2 : b % 9223372036854775808 < 9218868437227405312
    · rw [if_pos h2]
      exact .inl ⟨_, _, _, rfl, by omega, by omega, .inr (by omega)⟩
    · rw [if_neg h2]
      by_cases h3 : b % 9223372036854775808 = 9218868437227405312
      · rw [if_pos h3]; exact .inr (.inl ⟨_, rfl⟩)
      · rw [if_neg h3]; exact .inr (.inr ⟨_, _, rfl⟩)
theorem log_lo {n : Nat} (h : n ≠ 0) : 2 ^ n.log2 ≤ n := Nat.log2_self_le h
theorem log_hi (n : Nat) : n < 2 ^ (n.log2 + 1) := Nat.lt_log2_self
theorem gap_eq (n drop : Nat) : (1 <<< min drop (n.log2 + 2) : Nat) = 2 ^ min drop (n.log2 + 2) := by rw [Nat.one_shiftLeft]
theorem gap_far {n drop : Nat} (h : n.log2 + 2 < drop) : 2 * n < 2 ^ min drop (n.log2 + 2) ∧ n < 2 ^ drop := by
  have h1 := log_hi n
  have e : min drop (n.log2 + 2) = n.log2 + 2 := by omega
  rw [e]
  have h2 : 2 ^ (n.log2 + 2) = 2 * 2 ^ (n.log2 + 1) := by rw [Nat.pow_succ]; omega
  have h3 : 2 ^ (n.log2 + 1) ≤ 2 ^ drop := Nat.pow_le_pow_right (by decide) (by omega)
  omega
theorem cut_zero (neg : Bool) (n drop : Nat) : Toward.zero.cut neg n drop = n / 2 ^ drop := by
  unfold Toward.cut
  simp only [gap_eq, Bool.toNat_false, Nat.add_zero]
  by_cases h : n.log2 + 2 < drop
  · obtain ⟨h1, h2⟩ := gap_far h
    rw [Nat.div_eq_of_lt (by omega), Nat.div_eq_of_lt h2]
  · rw [show min drop (n.log2 + 2) = drop by omega]
theorem cut_down (n drop : Nat) : Toward.down.cut false n drop = n / 2 ^ drop := by
  rw [← cut_zero false n drop]
  unfold Toward.cut
  simp
theorem cut_even_le {neg : Bool} {n drop N : Nat} (h : n ≤ N * 2 ^ drop) : Toward.even.cut neg n drop ≤ N := by
  unfold Toward.cut
  simp only [gap_eq]
  by_cases hf : n.log2 + 2 < drop
  · obtain ⟨h1, h2⟩ := gap_far hf
    rw [Nat.div_eq_of_lt (by omega), Nat.mod_eq_of_lt (by omega)]
    rw [decide_eq_false (by omega)]
    have : (2 ^ min drop (n.log2 + 2) == 2 * n) = false := by rw [beq_eq_false_iff_ne]; omega
    rw [this]; simp
  · rw [show min drop (n.log2 + 2) = drop by omega]
    have hp : 0 < 2 ^ drop := Nat.pow_pos (by decide)
    by_cases h0 : n % 2 ^ drop = 0
    · rw [h0, decide_eq_false (by omega)]
      have : (2 ^ drop == 2 * 0) = false := by rw [beq_eq_false_iff_ne]; omega
      rw [this]
      simp only [Bool.false_and, Bool.or_self, Bool.toNat_false, Nat.add_zero]
      exact Nat.div_le_of_le_mul (by rw [Nat.mul_comm]; exact h)
    · have h1 : n / 2 ^ drop < N := by
        refine Nat.lt_of_not_le fun hc => h0 ?_
        have h2 : N * 2 ^ drop ≤ n / 2 ^ drop * 2 ^ drop := Nat.mul_le_mul_right _ hc
        have h3 := Nat.div_add_mod n (2 ^ drop)
        rw [Nat.mul_comm] at h3
        omega
      have : ∀ b : Bool, b.toNat ≤ 1 := fun b => by cases b <;> decide
      exact Nat.le_trans (Nat.add_le_add_left (this _) _) h1
theorem cut_even_ge {neg : Bool} {n drop N : Nat} (h : N * 2 ^ drop ≤ n) : N ≤ Toward.even.cut neg n drop := by
  unfold Toward.cut
  simp only [gap_eq]
  by_cases hf : n.log2 + 2 < drop
  · obtain ⟨h1, h2⟩ := gap_far hf
    have : N = 0 := by
      refine Nat.eq_zero_of_not_pos fun hc => ?_
      have := Nat.mul_le_mul_right (2 ^ drop) (show 1 ≤ N from hc)
      rw [Nat.one_mul] at this
      omega
    rw [this]; exact Nat.zero_le _
  · rw [show min drop (n.log2 + 2) = drop by omega]
    exact Nat.le_trans ((Nat.le_div_iff_mul_le (Nat.pow_pos (by decide))).2 h) (Nat.le_add_right _ _)
/-- What the word nearest to a number reads as: the kept digits, and where they stand. -/
theorem nearest_read (neg : Bool) (mag : Nat) (place : Int) (h0 : mag ≠ 0) (last : Int) (hlast : last = max (place + mag.log2 - 52) (-1074)) (kept : Nat) (hkept : kept = Toward.even.cut neg (mag <<< (place - last).toNat) (last - place).toNat) (hsmall : last ≤ 900) :
    kept ≤ 9007199254740992 ∧ (last = -1074 ∨ 4503599627370496 ≤ kept) ∧ ∃ m e, double.read (double.nearest neg mag place) = .number neg m e ∧ ((e = last ∧ m = kept) ∨ (e = last + 1 ∧ m * 2 = kept)) := by
  have hlo := log_lo h0
  have hhi := log_hi mag
  obtain ⟨k, hk⟩ : ∃ k, mag.log2 = k := ⟨_, rfl⟩
  rw [hk] at hlast hlo hhi
  have hb : kept ≤ 9007199254740992 := by
    rw [hkept]
    refine cut_even_le ?_
    by_cases hc : place ≤ last
    · rw [show (place - last).toNat = 0 by omega, Nat.shiftLeft_zero]
      have h1 : 2 ^ (k + 1) ≤ 2 ^ (53 + (last - place).toNat) := Nat.pow_le_pow_right (by decide) (by omega)
      rw [Nat.pow_add 2 53] at h1
      have : (2 : Nat) ^ 53 = 9007199254740992 := by decide
      rw [this] at h1
      exact Nat.le_of_lt (Nat.lt_of_lt_of_le hhi h1)
    · rw [show (last - place).toNat = 0 by omega, Nat.pow_zero, Nat.mul_one, Nat.shiftLeft_eq]
      have h1 : 2 ^ (k + 1) * 2 ^ (place - last).toNat ≤ 2 ^ 53 := by
        rw [← Nat.pow_add]; exact Nat.pow_le_pow_right (by decide) (by omega)
      have h2 := Nat.mul_le_mul_right (2 ^ (place - last).toNat) (Nat.le_of_lt hhi)
      have : (2 : Nat) ^ 53 = 9007199254740992 := by decide
      omega
  have hg : last = -1074 ∨ 4503599627370496 ≤ kept := by
    by_cases hl : last = -1074
    · exact .inl hl
    · right
      rw [hkept]
      refine cut_even_ge ?_
      by_cases hc : place ≤ last
      · rw [show (place - last).toNat = 0 by omega, Nat.shiftLeft_zero]
        have h1 : 2 ^ (52 + (last - place).toNat) ≤ 2 ^ k := Nat.pow_le_pow_right (by decide) (by omega)
        rw [Nat.pow_add] at h1
        have : (2 : Nat) ^ 52 = 4503599627370496 := by decide
        rw [this] at h1
        exact Nat.le_trans h1 hlo
      · rw [show (last - place).toNat = 0 by omega, Nat.pow_zero, Nat.mul_one, Nat.shiftLeft_eq]
        have h1 : 2 ^ 52 ≤ 2 ^ k * 2 ^ (place - last).toNat := by
          rw [← Nat.pow_add]; exact Nat.pow_le_pow_right (by decide) (by omega)
        have h2 := Nat.mul_le_mul_right (2 ^ (place - last).toNat) hlo
        have : (2 : Nat) ^ 52 = 4503599627370496 := by decide
        omega
  refine ⟨hb, hg, ?_⟩
  have hl2 : -1074 ≤ last := by omega
  obtain ⟨q, hq⟩ : ∃ q : Nat, last = -1074 + q := ⟨(last + 1074).toNat, by omega⟩
  unfold Format.nearest
  rw [if_neg h0]
  simp only [dbl_lp, dbl_bin, dbl_inf, dbl_fb]
  rw [hk, show max (place + (k : Int) - ((52 : Nat) : Int)) (-1074) = last by omega, ← hkept]
  rw [show (last - -1074).toNat = q by omega]
  have hr : q * 4503599627370496 + kept < 9218868437227405312 := by omega
  rw [Nat.min_eq_left (Nat.le_of_lt hr), read_word _ _ (by omega)]
  by_cases h1 : q * 4503599627370496 + kept < 4503599627370496
  · rw [if_pos h1]
    have : q = 0 := by omega
    subst this
    exact ⟨_, _, rfl, .inl ⟨by omega, by omega⟩⟩
  · rw [if_neg h1, if_pos hr]
    by_cases h2 : kept = 9007199254740992
    · subst h2
      exact ⟨_, _, rfl, .inr ⟨by omega, by omega⟩⟩
    · refine ⟨_, _, rfl, .inl ⟨?_, ?_⟩⟩ <;> rcases hg with hg | hg <;> omega
end Go.Proofs.Ytflggmbgfdglcaa
