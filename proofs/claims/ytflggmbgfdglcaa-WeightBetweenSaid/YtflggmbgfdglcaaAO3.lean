/- Layer 14: comparisons, floors: mathematics. -/
import Derived.Test.YtflggmbgfdglcaaAO2
namespace Go.Proofs.Ytflggmbgfdglcaa
set_option linter.unusedVariables false
set_option maxRecDepth 100000
open Ieee
theorem zeroF_read : double.read 0 = .number false 0 (-1074) := by decide +kernel
theorem topF_read : double.read 4751297606875873280 = .number false 4503599627370496 (-20) := by decide +kernel
theorem maxF_read : double.read 9218868437227405311 = .number false 9007199254740991 971 := by decide +kernel
theorem ord_num {x y : Nat} {s t : Bool} {m n : Nat} {i j : Int} (hx : double.read x = .number s m i) (hy : double.read y = .number t n j) : double.order x y = some (compare (signed s m (i - min i j).toNat) (signed t n (j - min i j).toNat)) := by
  unfold Format.order
  rw [hx, hy]; rfl
theorem ord_nan {x y : Nat} {s : Bool} {f : Nat} (hx : double.read x = .nan s f) : double.order x y = none ∧ double.order y x = none := by
  unfold Format.order
  rw [hx]
  constructor
  · rfl
  · cases double.read y <;> rfl
theorem ord_self {x : Nat} (h : ∀ s f, double.read x ≠ .nan s f) : double.order x x = some .eq := by
  unfold Format.order
  cases hx : double.read x with
  | nan s f => exact absurd hx (h s f)
  | infinity s => cases s <;> rfl
  | number s m i =>
    show some (compare (signed s m (i - min i i).toNat) (signed s m (i - min i i).toNat)) = _
    rw [Int.compare_eq_eq.2 rfl]
def isN (x : Nat) : Bool := (double.read x).isNaN
theorem isN_iff (x : Nat) : isN x = (double.order x x != some .eq) := by
  unfold isN
  cases hx : double.read x with
  | nan s f => rw [(ord_nan hx).1]; rfl
  | infinity s => rw [ord_self (fun s f h => by rw [hx] at h; cases h)]; rfl
  | number s m i => rw [ord_self (fun s f h => by rw [hx] at h; cases h)]; rfl
/-- Whole, as the document has it. -/
def wholeV (x : Nat) : Int × Int :=
  match double.read x with
  | .nan _ _ => (0, 8)
  | .infinity _ => (0, 9)
  | .number _ _ _ => if (double.order x 0 == some .lt) = true ∨ (double.order x 4751297606875873280 == some .gt || double.order x 4751297606875873280 == some .eq) = true then (0, 2) else (((double.read x).toInt .zero).getD 0, 0)
theorem signed_pos (m k : Nat) : signed false m k = ((m * 2 ^ k : Nat) : Int) := by unfold signed; rw [if_neg (by decide), Nat.shiftLeft_eq]
theorem signed_neg (m k : Nat) : signed true m k = -((m * 2 ^ k : Nat) : Int) := by unfold signed; rw [if_pos rfl, Nat.shiftLeft_eq]
theorem cmp_lt {a b : Int} (h : a < b) : compare a b = .lt := by rw [Int.compare_eq_lt]; exact h
theorem cmp_gt {a b : Int} (h : b < a) : compare a b = .gt := by rw [Int.compare_eq_gt]; exact h
theorem cmp_eq {a b : Int} (h : a = b) : compare a b = .eq := Int.compare_eq_eq.2 h
/-- Not below 0. -/
theorem ge0 {x : Nat} {s : Bool} {m : Nat} {e : Int} (hx : double.read x = .number s m e) (he : -1074 ≤ e) (h : (double.order x 0 == some .lt) = false) : m = 0 ∨ s = false := by
  cases s with
  | false => exact .inr rfl
  | true =>
    left
    rw [ord_num hx zeroF_read, signed_neg, signed_pos] at h
    refine Nat.eq_zero_of_not_pos fun hc => ?_
    rw [cmp_lt (by
      have : 0 < m * 2 ^ (e - min e (-1074)).toNat := Nat.mul_pos hc (Nat.pow_pos (by decide))
      omega)] at h
    exact absurd h (by decide)
/-- Not below 0, and below 2^32. -/
theorem range_facts {x : Nat} {s : Bool} {m : Nat} {e : Int} (hx : double.read x = .number s m e) (h0 : (double.order x 0 == some .lt) = false) (h1 : (double.order x 4751297606875873280 == some .gt || double.order x 4751297606875873280 == some .eq) = false) : (m = 0 ∨ s = false) ∧ (m = 0 ∨ e ≤ 0) ∧ (m <<< e.toNat) / 2 ^ (-e).toNat < 4294967296 := by
  obtain ⟨s', m', e', h2, he, hm, hme⟩ : ∃ s' m' e', double.read x = .number s' m' e' ∧ -1074 ≤ e' ∧ m' < 9007199254740992 ∧ (e' = -1074 ∨ 4503599627370496 ≤ m') := by
    rcases read_cases x with h | ⟨_, h⟩ | ⟨_, _, h⟩
    · exact h
    · rw [hx] at h; cases h
    · rw [hx] at h; cases h
  rw [hx] at h2
  injection h2 with e1 e2 e3
  subst e1 e2 e3
  have hs := ge0 hx he h0
  refine ⟨hs, ?_⟩
  by_cases hm0 : m = 0
  · subst hm0; exact ⟨.inl rfl, by simp⟩
  · obtain rfl : s = false := by rcases hs with h | h; (· exact absurd h hm0); (· exact h)
    rw [ord_num hx topF_read, signed_pos, signed_pos] at h1
    have hlt : m * 2 ^ (e - min e (-20)).toNat < 4503599627370496 * 2 ^ (-20 - min e (-20)).toNat := by
      refine Nat.lt_of_not_le fun hc => ?_
      rcases Nat.lt_or_eq_of_le hc with hc | hc
      · rw [cmp_gt (by omega)] at h1; exact absurd h1 (by decide)
      · rw [cmp_eq (by omega)] at h1; exact absurd h1 (by decide)
    by_cases hc : e ≤ -20
    · rw [Int.min_eq_left hc, show (e - e).toNat = 0 by omega, Nat.pow_zero, Nat.mul_one] at hlt
      refine ⟨.inr (by omega), ?_⟩
      rw [show e.toNat = 0 by omega, Nat.shiftLeft_zero]
      refine (Nat.div_lt_iff_lt_mul (Nat.pow_pos (by decide))).2 ?_
      obtain ⟨k, rfl⟩ : ∃ k : Nat, e = -20 - (k : Int) := ⟨(-20 - e).toNat, by omega⟩
      rw [show (-20 - (-20 - (k : Int))).toNat = k by omega] at hlt
      rw [show (-(-20 - (k : Int))).toNat = 20 + k by omega, Nat.pow_add]
      omega
    · rw [Int.min_eq_right (by omega), show (-20 - -20 : Int).toNat = 0 by decide, Nat.pow_zero, Nat.mul_one] at hlt
      have hp : 1 ≤ 2 ^ (e - -20).toNat := Nat.pow_pos (by decide)
      have hm2 : m < 4503599627370496 := by
        have := Nat.mul_le_mul_left m hp
        omega
      exfalso
      rcases hme with h | h <;> omega
theorem whole_float (c : Nat) (h : c < 4294967296) : (double.read (double.nearest false c 0)).toInt .zero = some (c : Int) := by
  by_cases h0 : c = 0
  · subst h0; decide +kernel
  · obtain ⟨k, M, hk, h1, h2, h3, h4⟩ := int_read (c : Int) (by omega) (by omega)
    have e1 : FloatKind.f64.nearest (c : Int) = double.nearest false c 0 := by
      rw [dnear, decide_eq_false (by omega)]; rfl
    rw [e1, decide_eq_false (by omega)] at h1
    rw [h1, toInt_num _ _ _ (by omega), show (- -(k : Int)).toNat = k by omega, h2]
    have hp : 0 < 2 ^ k := Nat.pow_pos (by decide)
    simp [Nat.mul_div_cancel _ hp]
/-- A number that may be, cut down, is what is cut towards 0. -/
theorem floor_ok {x : Nat} {s : Bool} {m : Nat} {e : Int} (hx : double.read x = .number s m e) (h0 : (double.order x 0 == some .lt) = false) (h1 : (double.order x 4751297606875873280 == some .gt || double.order x 4751297606875873280 == some .eq) = false) :
    ∃ n : Nat, n < 4294967296 ∧ (double.read x).toInt .zero = some (n : Int) ∧ (double.read (double.write ((double.read x).integral .down))).toInt .zero = some (n : Int) := by
  obtain ⟨hs, he, hlt⟩ := range_facts hx h0 h1
  refine ⟨_, hlt, ?_, ?_⟩
  · rw [hx]
    unfold Datum.toInt Datum.integral
    simp only [cut_zero]
    rcases hs with rfl | rfl
    · cases s <;> simp [signed]
    · simp [signed]
  · rw [hx]
    rcases hs with rfl | rfl
    · have e1 : (Datum.number s 0 e).integral .down = .number s 0 0 := by
        unfold Datum.integral
        simp only [Nat.zero_shiftLeft]
        have : Toward.down.cut s 0 (-e).toNat = 0 := by
          unfold Toward.cut
          simp
        rw [this]
      rw [e1, Nat.zero_shiftLeft, Nat.zero_div]
      cases s <;> decide +kernel
    · have e1 : (Datum.number false m e).integral .down = .number false ((m <<< e.toNat) / 2 ^ (-e).toNat) 0 := by
        show Datum.number false (Toward.down.cut false (m <<< e.toNat) (-e).toNat) 0 = _
        rw [cut_down]
      rw [e1]
      exact whole_float _ hlt
theorem wholeV_num {x : Nat} {s : Bool} {m : Nat} {e : Int} (hx : double.read x = .number s m e) : wholeV x = if (double.order x 0 == some .lt) = true ∨ (double.order x 4751297606875873280 == some .gt || double.order x 4751297606875873280 == some .eq) = true then (0, 2) else (((double.read x).toInt .zero).getD 0, 0) := by
  unfold wholeV
  rw [hx]
/-- What is not a number, not finite, or neither. -/
theorem sub_self {x : Nat} {s : Bool} {m : Nat} {e : Int} (hx : double.read x = .number s m e) : double.sub x x = some 0 := by
  unfold Format.sub
  rw [hx]
  have : (Datum.number s m e).sum (Datum.number s m e).opposite = some (.number false 0 (min e e)) := by
    show some (Datum.number (if signed s m (e - min e e).toNat + signed (!s) m (e - min e e).toNat = 0 then s && !s else _) (signed s m (e - min e e).toNat + signed (!s) m (e - min e e).toNat).natAbs (min e e)) = _
    have h0 : signed s m (e - min e e).toNat + signed (!s) m (e - min e e).toNat = 0 := by
      cases s with
      | false => rw [Bool.not_false, signed_pos, signed_neg]; omega
      | true => rw [Bool.not_true, signed_pos, signed_neg]; omega
    rw [if_pos h0, h0]
    cases s <;> rfl
  rw [this]
  show some (double.nearest false 0 (min e e)) = some 0
  unfold Format.nearest
  rw [if_pos rfl]; rfl
theorem sub_inf {x : Nat} {s : Bool} (hx : double.read x = .infinity s) : double.sub x x = none := by
  unfold Format.sub
  rw [hx]
  cases s <;> rfl
/-- The word without its sign. -/
def absF (x : Nat) : Nat := x % 9223372036854775808
theorem abs_read {x : Nat} (hx : x < 18446744073709551616) : double.read (absF x) = match double.read x with
    | .number _ m e => .number false m e
    | .infinity _ => .infinity false
    | .nan _ f => .nan false f := by
  unfold absF Format.read
  simp only [dbl_lp, dbl_bin, dbl_inf, dbl_sw]
  rw [show x % 9223372036854775808 / 9223372036854775808 % 2 = 0 by omega, Nat.mod_mod]
  by_cases h1 : x % 9223372036854775808 < 4503599627370496
  · rw [if_pos h1, if_pos h1]; rfl
  · rw [if_neg h1, if_neg h1]
    by_cases h2 : x % 9223372036854775808 < 9218868437227405312
    · rw [if_pos h2, if_pos h2]; rfl
    · rw [if_neg h2, if_neg h2]
      by_cases h3 : x % 9223372036854775808 = 9218868437227405312
      · rw [if_pos h3, if_pos h3]; rfl
      · rw [if_neg h3, if_neg h3]; rfl
theorem inf_iff {x : Nat} (hx : x < 18446744073709551616) (hn : isN x = false) : (double.order (absF x) 9218868437227405311 == some .gt) = (double.read x).isInfinity := by
  have ha := abs_read hx
  cases h : double.read x with
  | nan s f => unfold isN at hn; rw [h] at hn; cases hn
  | infinity s =>
    rw [h] at ha
    unfold Format.order
    rw [ha, maxF_read]; rfl
  | number s m e =>
    rw [h] at ha
    show _ = false
    rw [ord_num ha maxF_read, signed_pos, signed_pos]
    -- at most the greatest word: its rung is less than that of infinity
    have hle : m * 2 ^ (e - min e 971).toNat ≤ 9007199254740991 * 2 ^ (971 - min e 971).toNat := by
      have h2 : m ≤ 9007199254740991 ∧ e ≤ 971 := by
        unfold Format.read at h
        simp only [dbl_lp, dbl_bin, dbl_inf, dbl_sw] at h
        by_cases h1 : x % 9223372036854775808 < 4503599627370496
        · rw [if_pos h1] at h; injection h; omega
        · rw [if_neg h1] at h
          by_cases h2 : x % 9223372036854775808 < 9218868437227405312
          · rw [if_pos h2] at h; injection h; omega
          · rw [if_neg h2] at h
            by_cases h3 : x % 9223372036854775808 = 9218868437227405312
            · rw [if_pos h3] at h; cases h
            · rw [if_neg h3] at h; cases h
      rw [Int.min_eq_left h2.2, show (e - e).toNat = 0 by omega, Nat.pow_zero, Nat.mul_one]
      exact Nat.le_trans h2.1 (Nat.le_mul_of_pos_right _ (Nat.pow_pos (by decide)))
    rcases Nat.lt_or_eq_of_le hle with hc | hc
    · rw [cmp_lt (by omega)]; rfl
    · rw [cmp_eq (by omega)]; rfl
end Go.Proofs.Ytflggmbgfdglcaa
