/- Layer 14: the weight between 0 and 1; what is mixed: mathematics. -/
import Derived.Test.YtflggmbgfdglcaaAO3
namespace Go.Proofs.Ytflggmbgfdglcaa
set_option linter.unusedVariables false
set_option maxRecDepth 100000
open Ieee
/-- As the document has it. -/
def clampD (w : Nat) : Nat := if (double.order w 0 == some .lt) = true then 0 else if (double.order w 4607182418800017408 == some .gt) = true then 4607182418800017408 else w
/-- By max and min. -/
def maxF (w : Nat) : Nat := match double.order w 0 with
  | some .lt => 0
  | some .gt => w
  | _ => if (double.read w).neg then 0 else w
def minF (w : Nat) : Nat := match double.order w 4607182418800017408 with
  | some .lt => w
  | some .gt => 4607182418800017408
  | _ => if (double.read w).neg then w else 4607182418800017408
def clampC (w : Nat) : Nat := minF (maxF w)
theorem oneF_read : double.read 4607182418800017408 = .number false 4503599627370496 (-52) := by decide +kernel
theorem zero_frac : Frac 0 := ⟨_, _, _, zeroF_read, .inl rfl⟩
theorem one_frac : Frac 4607182418800017408 := ⟨_, _, _, oneF_read, .inr ⟨rfl, by decide, by decide⟩⟩
theorem one_vs {s : Bool} {m : Nat} {e : Int} {w : Nat} (hr : double.read w = .number s m e) (hs : s = false) (hm : m ≠ 0) :
    ((double.order w 4607182418800017408 == some .gt) = false → e ≤ 0 ∧ m ≤ 2 ^ (-e).toNat) ∧ (double.order w 4607182418800017408 = some .eq → e ≤ 0 ∧ m = 2 ^ (-e).toNat) := by
  subst hs
  rw [ord_num hr oneF_read, signed_pos, signed_pos]
  obtain ⟨A, hA⟩ : ∃ A, m * 2 ^ (e - min e (-52)).toNat = A := ⟨_, rfl⟩
  obtain ⟨B, hB⟩ : ∃ B, 4503599627370496 * 2 ^ (-52 - min e (-52)).toNat = B := ⟨_, rfl⟩
  rw [hA, hB]
  have key : (A ≤ B → e ≤ 0 ∧ m ≤ 2 ^ (-e).toNat) ∧ (A = B → e ≤ 0 ∧ m = 2 ^ (-e).toNat) := by
    by_cases hc : e ≤ -52
    · rw [Int.min_eq_left hc] at hA hB
      rw [show (e - e).toNat = 0 by omega, Nat.pow_zero, Nat.mul_one] at hA
      obtain ⟨k, rfl⟩ : ∃ k : Nat, e = -52 - (k : Int) := ⟨(-52 - e).toNat, by omega⟩
      rw [show (-52 - (-52 - (k : Int))).toNat = k by omega] at hB
      rw [show (-(-52 - (k : Int))).toNat = 52 + k by omega, Nat.pow_add]
      have e52 : (2 : Nat) ^ 52 = 4503599627370496 := by decide
      rw [e52]
      exact ⟨fun h => ⟨by omega, by omega⟩, fun h => ⟨by omega, by omega⟩⟩
    · rw [Int.min_eq_right (by omega)] at hA hB
      rw [show (-52 - -52 : Int).toNat = 0 by decide, Nat.pow_zero, Nat.mul_one] at hB
      obtain ⟨k, hk⟩ : ∃ k : Nat, e = (k : Int) - 51 := ⟨(e + 51).toNat, by omega⟩
      subst hk
      rw [show ((k : Int) - 51 - -52).toNat = k + 1 by omega] at hA
      have hk51 : A ≤ B → k ≤ 51 := fun h => by
        refine Nat.le_of_not_lt fun hc2 => ?_
        have h1 : 2 ^ 53 ≤ 2 ^ (k + 1) := Nat.pow_le_pow_right (by decide) (by omega)
        have h2 : 1 * 2 ^ (k + 1) ≤ m * 2 ^ (k + 1) := Nat.mul_le_mul_right _ (by omega)
        have e53 : (2 : Nat) ^ 53 = 9007199254740992 := by decide
        omega
      have hsplit : k ≤ 51 → 4503599627370496 = 2 ^ (51 - k) * 2 ^ (k + 1) := fun h => by
        rw [← Nat.pow_add, show 51 - k + (k + 1) = 52 by omega]
      have hp : 0 < 2 ^ (k + 1) := Nat.pow_pos (by decide)
      refine ⟨fun h => ?_, fun h => ?_⟩
      · have h5 := hk51 h
        refine ⟨by omega, ?_⟩
        rw [show (-((k : Int) - 51)).toNat = 51 - k by omega]
        refine Nat.le_of_mul_le_mul_right ?_ hp
        rw [← hsplit h5, hA]; omega
      · have h5 := hk51 (by omega)
        refine ⟨by omega, ?_⟩
        rw [show (-((k : Int) - 51)).toNat = 51 - k by omega]
        refine Nat.eq_of_mul_eq_mul_right hp ?_
        rw [← hsplit h5, hA]; omega
  refine ⟨fun h => key.1 (Nat.le_of_not_lt fun hc => ?_), fun h => key.2 ?_⟩
  · rw [cmp_gt (by omega)] at h; exact absurd h (by decide)
  · rcases Nat.lt_trichotomy A B with hc | hc | hc
    · rw [cmp_lt (by omega)] at h; cases h
    · exact hc
    · rw [cmp_gt (by omega)] at h; cases h
theorem neg0 {s : Bool} {m : Nat} {e : Int} {w : Nat} (hr : double.read w = .number s m e) (he : -1074 ≤ e) : (double.order w 0 = some .lt ↔ (s = true ∧ m ≠ 0)) ∧ (double.order w 0 = some .gt ↔ (s = false ∧ m ≠ 0)) ∧ (double.order w 0 = some .eq ↔ m = 0) := by
  rw [ord_num hr zeroF_read, signed_pos]
  have hp : 0 < 2 ^ (e - min e (-1074)).toNat := Nat.pow_pos (by decide)
  rw [Nat.zero_mul]
  by_cases hm : m = 0
  · subst hm
    have : signed s 0 (e - min e (-1074)).toNat = 0 := by cases s <;> simp [signed_pos, signed_neg]
    rw [this, show compare (0 : Int) ((0 : Nat) : Int) = .eq by decide]; simp
  · have hq : 0 < m * 2 ^ (e - min e (-1074)).toNat := Nat.mul_pos (Nat.pos_of_ne_zero hm) hp
    cases s with
    | true => rw [signed_neg, cmp_lt (by omega)]; simp [hm]
    | false => rw [signed_pos, cmp_gt (by omega)]; simp [hm]
theorem frac_or (w : Nat) (hn : isN w = false) : Frac (clampD w) ∧ Frac (clampC w) ∧ ∀ d : Int, d.natAbs ≤ 1048576 → mulI d (clampC w) = mulI d (clampD w) := by
  have z1 : double.order 0 4607182418800017408 = some .lt := by decide +kernel
  have z2 : minF 0 = 0 := by unfold minF; rw [z1]
  rcases read_cases w with ⟨s, m, e, hr, he, -, -⟩ | ⟨s, hr⟩ | ⟨s, f, hr⟩
  · obtain ⟨n1, n2, n3⟩ := neg0 hr he
    by_cases hm : m = 0
    · have h0 := n3.2 hm
      subst hm
      have hw1 : (double.order w 4607182418800017408) = some .lt := by
        rw [ord_num hr oneF_read, signed_pos]
        have hp : 0 < 4503599627370496 * 2 ^ (-52 - min e (-52)).toNat := Nat.mul_pos (by decide) (Nat.pow_pos (by decide))
        have : signed s 0 (e - min e (-52)).toNat = 0 := by cases s <;> simp [signed_pos, signed_neg]
        rw [this, cmp_lt (by omega)]
      have hD : clampD w = w := by unfold clampD; rw [h0, hw1]; rfl
      have hF : Frac w := ⟨_, _, _, hr, .inl rfl⟩
      have hC : clampC w = 0 ∨ clampC w = w := by
        unfold clampC maxF
        rw [h0]
        simp only
        split
        · left; exact z2
        · right; unfold minF; rw [hw1]
      have hC0 : Frac (clampC w) ∧ ∃ s e, double.read (clampC w) = .number s 0 e := by
        rcases hC with h | h <;> rw [h]
        · exact ⟨zero_frac, _, _, zeroF_read⟩
        · exact ⟨hF, _, _, hr⟩
      refine ⟨by rw [hD]; exact hF, hC0.1, fun d hd => ?_⟩
      obtain ⟨-, s2, e2, h2⟩ := hC0
      obtain ⟨p1, -, -, -, -, -, -, q1⟩ := mul_ok d hd _ (show Frac (clampC w) by rcases hC with h | h <;> rw [h]; (· exact zero_frac); (· exact hF))
      obtain ⟨p2, -, -, -, -, -, -, q2⟩ := mul_ok d hd w hF
      rw [q1 _ _ h2, hD, q2 _ _ hr]
    · cases s with
      | true =>
        have h0 := n1.2 ⟨rfl, hm⟩
        have hD : clampD w = 0 := by unfold clampD; rw [h0]; rfl
        have hC : clampC w = 0 := by unfold clampC maxF; rw [h0]; exact z2
        rw [hD, hC]
        exact ⟨zero_frac, zero_frac, fun _ _ => rfl⟩
      | false =>
        have h0 := n2.2 ⟨rfl, hm⟩
        have hx : maxF w = w := by unfold maxF; rw [h0]
        have hD : clampD w = if (double.order w 4607182418800017408 == some .gt) = true then 4607182418800017408 else w := by unfold clampD; rw [h0]; rfl
        obtain ⟨o1, o2⟩ := one_vs hr rfl hm
        have hC : clampC w = minF w := by unfold clampC; rw [hx]
        rw [hC, hD]
        have ho : double.order w 4607182418800017408 = some .lt ∨ double.order w 4607182418800017408 = some .gt ∨ double.order w 4607182418800017408 = some .eq := by
          rw [ord_num hr oneF_read]
          cases compare (signed false m (e - min e (-52)).toNat) (signed false 4503599627370496 (-52 - min e (-52)).toNat) <;> simp
        rcases ho with h | h | h
        · have hF : Frac w := ⟨_, _, _, hr, .inr ⟨rfl, o1 (by rw [h]; rfl)⟩⟩
          have : minF w = w := by unfold minF; rw [h]
          rw [this, h, if_neg (by decide)]
          exact ⟨hF, hF, fun _ _ => rfl⟩
        · have : minF w = 4607182418800017408 := by unfold minF; rw [h]
          rw [this, h, if_pos (by decide)]
          exact ⟨one_frac, one_frac, fun _ _ => rfl⟩
        · have hF : Frac w := ⟨_, _, _, hr, .inr ⟨rfl, o1 (by rw [h]; rfl)⟩⟩
          have : minF w = 4607182418800017408 := by unfold minF; rw [h, hr]; rfl
          rw [this, h, if_neg (by decide)]
          refine ⟨hF, one_frac, fun d hd => ?_⟩
          obtain ⟨p1, -, -, -, -, -, q1, -⟩ := mul_ok d hd _ one_frac
          obtain ⟨p2, -, -, -, -, -, q2, -⟩ := mul_ok d hd w hF
          rw [q1 _ _ oneF_read (by decide) (by decide), q2 _ _ hr (o2 h).1 (o2 h).2]
  · cases s with
    | true =>
      have h0 : double.order w 0 = some .lt := by unfold Format.order; rw [hr, zeroF_read]; rfl
      have hD : clampD w = 0 := by unfold clampD; rw [h0]; rfl
      have hC : clampC w = 0 := by unfold clampC maxF; rw [h0]; exact z2
      rw [hD, hC]
      exact ⟨zero_frac, zero_frac, fun _ _ => rfl⟩
    | false =>
      have h0 : double.order w 0 = some .gt := by unfold Format.order; rw [hr, zeroF_read]; rfl
      have h1 : double.order w 4607182418800017408 = some .gt := by unfold Format.order; rw [hr, oneF_read]; rfl
      have hD : clampD w = 4607182418800017408 := by unfold clampD; rw [h0, h1]; rfl
      have hC : clampC w = 4607182418800017408 := by
        have : maxF w = w := by unfold maxF; rw [h0]
        unfold clampC
        rw [this]
        unfold minF
        rw [h1]
      rw [hD, hC]
      exact ⟨one_frac, one_frac, fun _ _ => rfl⟩
  · unfold isN at hn; rw [hr] at hn; cases hn
/-- What is mixed. -/
def mixL (old now : List Int) (W : Nat) : List Int := (List.range old.length).map fun i => old.getD i 0 + mulI (now.getD i 0 - old.getD i 0) W
theorem mixL_len (old now : List Int) (W : Nat) : (mixL old now W).length = old.length := by simp [mixL]
theorem mixL_at (old now : List Int) (W : Nat) (i : Nat) (h : i < old.length) : (mixL old now W).getD i 0 = old.getD i 0 + mulI (now.getD i 0 - old.getD i 0) W := by
  simp [mixL, List.getD_eq_getElem?_getD, h]
theorem clampD_zero : clampD 0 = 0 := by decide +kernel
theorem clampD_one : clampD 4607182418800017408 = 4607182418800017408 := by decide +kernel
end Go.Proofs.Ytflggmbgfdglcaa
