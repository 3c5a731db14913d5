/- Layer 14: whole numbers as floats, products, floors: mathematics. -/
import Derived.Test.YtflggmbgfdglcaaAO1
namespace Go.Proofs.Ytflggmbgfdglcaa
set_option linter.unusedVariables false
set_option maxRecDepth 100000
open Ieee
theorem toInt_num (s : Bool) (m : Nat) (e : Int) (he : e ≤ 0) : (Datum.number s m e).toInt .zero = some (if s then -((m / 2 ^ (-e).toNat : Nat) : Int) else ((m / 2 ^ (-e).toNat : Nat) : Int)) := by
  unfold Datum.toInt Datum.integral
  simp only [cut_zero, signed, Nat.shiftLeft_zero]
  rw [show e.toNat = 0 by omega, Nat.shiftLeft_zero]
theorem dnear (n : Int) : FloatKind.f64.nearest n = double.nearest (n < 0) n.natAbs 0 := rfl
/-- A whole number as a float. -/
theorem int_read (d : Int) (h0 : d ≠ 0) (h : d.natAbs < 9007199254740992) : ∃ (k M : Nat), k ≤ 52 ∧ double.read (FloatKind.f64.nearest d) = .number (decide (d < 0)) M (-(k : Int)) ∧ M = d.natAbs * 2 ^ k ∧ 4503599627370496 ≤ M ∧ M < 9007199254740992 := by
  rw [dnear]
  obtain ⟨n, hn⟩ : ∃ n, d.natAbs = n := ⟨_, rfl⟩
  rw [hn] at h ⊢
  have hn0 : n ≠ 0 := by omega
  obtain ⟨g, hg⟩ : ∃ g, n.log2 = g := ⟨_, rfl⟩
  have hlo := log_lo hn0
  have hhi := log_hi n
  rw [hg] at hlo hhi
  have hg52 : g ≤ 52 := by
    refine Nat.le_of_not_lt fun hc => ?_
    have : 2 ^ 53 ≤ 2 ^ g := Nat.pow_le_pow_right (by decide) hc
    have e : (2 : Nat) ^ 53 = 9007199254740992 := by decide
    omega
  obtain ⟨k, hk⟩ : ∃ k, k = 52 - g := ⟨_, rfl⟩
  have hM1 : 2 ^ g * 2 ^ k = 4503599627370496 := by
    rw [← Nat.pow_add, show g + k = 52 by omega]
  have hMlo := Nat.mul_le_mul_right (2 ^ k) hlo
  have hMhi : n * 2 ^ k < 9007199254740992 := by
    have := Nat.mul_lt_mul_of_pos_right hhi (Nat.pow_pos (show 0 < 2 by decide) : 0 < 2 ^ k)
    rw [Nat.pow_succ, Nat.mul_right_comm, hM1] at this
    omega
  have hkept : n * 2 ^ k = Toward.even.cut (decide (d < 0)) (n <<< ((0 : Int) - (-(k : Int))).toNat) ((-(k : Int)) - 0).toNat := by
    rw [show ((-(k : Int)) - 0).toNat = 0 by omega, show ((0 : Int) - (-(k : Int))).toNat = k by omega, Nat.shiftLeft_eq]
    apply Nat.le_antisymm
    · exact cut_even_ge (by simp)
    · exact cut_even_le (by simp)
  obtain ⟨-, -, m, e, hr, hme⟩ := nearest_read (decide (d < 0)) n 0 hn0 (-(k : Int)) (by rw [hg]; omega) (n * 2 ^ k) hkept (by omega)
  refine ⟨k, n * 2 ^ k, by omega, ?_, rfl, by omega, hMhi⟩
  rcases hme with ⟨rfl, rfl⟩ | ⟨rfl, hme⟩
  · exact hr
  · -- m * 2 = kept < 2 ^ 53, so m < 2 ^ 52: not so for a read word past the least place
    exfalso
    rcases read_cases (double.nearest (decide (d < 0)) n 0) with ⟨s, m', e', h1, h2, h3, h4⟩ | ⟨s, h1⟩ | ⟨s, f, h1⟩
    · rw [hr] at h1; injection h1 with _ a b; omega
    · rw [hr] at h1; cases h1
    · rw [hr] at h1; cases h1
theorem zero_read : double.read (FloatKind.f64.nearest 0) = .number false 0 (-1074) := by decide +kernel
/-- What a product, rounded, is, cut towards nought. -/
theorem near_cut (neg : Bool) (mag : Nat) (b N : Nat) (h0 : mag ≠ 0) (hN : N ≤ 1048576) (hle : mag ≤ N * 2 ^ b) : ∃ n : Nat, (double.read (double.nearest neg mag (-(b : Int)))).toInt .zero = some (if neg then -(n : Int) else (n : Int)) ∧ n ≤ N ∧ (mag = N * 2 ^ b → n = N) := by
  obtain ⟨g, hg⟩ : ∃ g, mag.log2 = g := ⟨_, rfl⟩
  have hlo := log_lo h0
  rw [hg] at hlo
  -- the value lies below 2 ^ 21
  have hgb : g < b + 21 := by
    refine Nat.lt_of_not_le fun hc => ?_
    have h1 : 2 ^ (b + 21) ≤ 2 ^ g := Nat.pow_le_pow_right (by decide) hc
    have h2 : N * 2 ^ b ≤ 1048576 * 2 ^ b := Nat.mul_le_mul_right _ hN
    have h3 : 2 ^ (b + 21) = 2097152 * 2 ^ b := by rw [Nat.pow_add, Nat.mul_comm]
    have h4 : 0 < 2 ^ b := Nat.pow_pos (by decide)
    omega
  obtain ⟨last, hlast⟩ : ∃ last : Int, last = max (-(b : Int) + mag.log2 - 52) (-1074) := ⟨_, rfl⟩
  obtain ⟨kept, hkept⟩ : ∃ kept, kept = Toward.even.cut neg (mag <<< (-(b : Int) - last).toNat) (last - -(b : Int)).toNat := ⟨_, rfl⟩
  have hl0 : last ≤ -1 := by rw [hg] at hlast; omega
  obtain ⟨hk1, hk2, m, e, hr, hme⟩ := nearest_read neg mag (-(b : Int)) h0 last hlast kept hkept (by omega)
  obtain ⟨L, hL⟩ : ∃ L : Nat, last = -(L : Int) := ⟨(-last).toNat, by omega⟩
  subst hL
  have hL1 : 1 ≤ L := by omega
  -- kept is at most N * 2 ^ L
  have hkN : kept ≤ N * 2 ^ L ∧ (mag = N * 2 ^ b → N * 2 ^ L ≤ kept) := by
    rw [hkept]
    by_cases hc : b ≤ L
    · rw [show (-(L : Int) - -(b : Int)).toNat = 0 by omega, show (-(b : Int) - -(L : Int)).toNat = L - b by omega, Nat.shiftLeft_eq]
      have e1 : N * 2 ^ L = N * 2 ^ b * 2 ^ (L - b) := by rw [Nat.mul_assoc, ← Nat.pow_add, show b + (L - b) = L by omega]
      refine ⟨cut_even_le ?_, fun he => cut_even_ge ?_⟩
      · rw [Nat.pow_zero, Nat.mul_one, e1]; exact Nat.mul_le_mul_right _ hle
      · rw [Nat.pow_zero, Nat.mul_one, e1, he]; exact Nat.le_refl _
    · rw [show (-(L : Int) - -(b : Int)).toNat = b - L by omega, show (-(b : Int) - -(L : Int)).toNat = 0 by omega, Nat.shiftLeft_zero]
      have e1 : N * 2 ^ L * 2 ^ (b - L) = N * 2 ^ b := by rw [Nat.mul_assoc, ← Nat.pow_add, show L + (b - L) = b by omega]
      refine ⟨cut_even_le (by rw [e1]; exact hle), fun he => cut_even_ge (by rw [e1, he]; exact Nat.le_refl _)⟩
  have he0 : e ≤ 0 := by rcases hme with ⟨h, -⟩ | ⟨h, -⟩ <;> omega
  refine ⟨m / 2 ^ (-e).toNat, ?_, ?_⟩
  · rw [hr, toInt_num _ _ _ he0]
  · have hdiv : m / 2 ^ (-e).toNat = kept / 2 ^ L := by
      rcases hme with ⟨rfl, rfl⟩ | ⟨rfl, h2⟩
      · congr 2; omega
      · rw [← h2, show (-(-(L : Int) + 1)).toNat = L - 1 by omega]
        obtain ⟨j, rfl⟩ : ∃ j, L = j + 1 := ⟨L - 1, by omega⟩
        rw [Nat.pow_succ, Nat.add_sub_cancel, Nat.mul_div_mul_right _ _ (by decide)]
    rw [hdiv]
    have hp : 0 < 2 ^ L := Nat.pow_pos (by decide)
    refine ⟨Nat.div_le_of_le_mul (by rw [Nat.mul_comm]; exact hkN.1), fun he => ?_⟩
    rw [show kept = N * 2 ^ L from Nat.le_antisymm hkN.1 (hkN.2 he), Nat.mul_div_cancel _ hp]
/-- A float between 0 and 1, both among them. -/
def Frac (w : Nat) : Prop := ∃ s m e, double.read w = .number s m e ∧ (m = 0 ∨ (s = false ∧ e ≤ 0 ∧ m ≤ 2 ^ (-e).toNat))
def oneF : Nat := 4607182418800017408
theorem one_read : double.read oneF = .number false 4503599627370496 (-52) := by decide +kernel
/-- What is added, as the document asks. -/
def mulI (d : Int) (w : Nat) : Int := (((double.mul (FloatKind.f64.nearest d) w).bind fun p => (double.read p).toInt .zero)).getD 0
theorem write_number (s : Bool) (m : Nat) (e : Int) : double.write (.number s m e) = double.nearest s m e := rfl
theorem mul_ok (d : Int) (hd : d.natAbs ≤ 1048576) (w : Nat) (hw : Frac w) : ∃ p, double.mul (FloatKind.f64.nearest d) w = some p ∧ (double.read p).toInt .zero = some (mulI d w) ∧ (mulI d w).natAbs ≤ d.natAbs ∧ (0 ≤ d → 0 ≤ mulI d w) ∧ (d ≤ 0 → mulI d w ≤ 0) ∧ (∀ m e, double.read w = .number false m e → e ≤ 0 → m = 2 ^ (-e).toNat → mulI d w = d) ∧ (∀ s e, double.read w = .number s 0 e → mulI d w = 0) := by
  obtain ⟨s, m, e, hr, hm⟩ := hw
  have hex : ∃ (t : Bool) (M : Nat) (i : Int), double.read (FloatKind.f64.nearest d) = .number t M i ∧ ((d = 0 ∧ M = 0) ∨ (d ≠ 0 ∧ t = decide (d < 0) ∧ ∃ k : Nat, i = -(k : Int) ∧ M = d.natAbs * 2 ^ k ∧ M ≠ 0)) := by
    by_cases h0 : d = 0
    · subst h0; exact ⟨_, _, _, zero_read, .inl ⟨rfl, rfl⟩⟩
    · obtain ⟨k, M, h1, h2, h3, h4, h5⟩ := int_read d h0 (by omega)
      exact ⟨_, _, _, h2, .inr ⟨h0, rfl, k, rfl, h3, by omega⟩⟩
  obtain ⟨t, M, i, hdr, hM⟩ := hex
  have hmul : double.mul (FloatKind.f64.nearest d) w = some (double.nearest (t ^^ s) (M * m) (i + e)) := by
    unfold Format.mul
    rw [hdr, hr]; rfl
  have key : ∃ n : Int, (double.read (double.nearest (t ^^ s) (M * m) (i + e))).toInt .zero = some n ∧ n.natAbs ≤ d.natAbs ∧ (0 ≤ d → 0 ≤ n) ∧ (d ≤ 0 → n ≤ 0) ∧ (s = false → e ≤ 0 → m = 2 ^ (-e).toNat → n = d) ∧ (m = 0 → n = 0) := by
    by_cases hz : M * m = 0
    · refine ⟨0, ?_, by simp, fun _ => Int.le_refl _, fun _ => Int.le_refl _, fun _ _ h1 => ?_, fun _ => rfl⟩
      · rw [hz]
        have : double.nearest (t ^^ s) 0 (i + e) = double.word (t ^^ s) 0 := by unfold Format.nearest; rw [if_pos rfl]
        rw [this, read_word _ _ (by decide), if_pos (by decide), toInt_num _ _ _ (by decide), Nat.zero_div]
        cases (t ^^ s) <;> rfl
      · have hmp : 0 < m := by rw [h1]; exact Nat.pow_pos (by decide)
        rcases hM with ⟨h, -⟩ | ⟨-, -, k, -, -, h⟩
        · exact h.symm
        · rcases Nat.mul_eq_zero.1 hz with h2 | h2
          · exact absurd h2 h
          · omega
    · have hm0 : m ≠ 0 := fun h => hz (by rw [h, Nat.mul_zero])
      rcases hm with h | ⟨rfl, he, hml⟩
      · exact absurd h hm0
      · rcases hM with ⟨-, h⟩ | ⟨hd0, rfl, k, rfl, hMk, -⟩
        · exact absurd (by rw [h, Nat.zero_mul]) hz
        · obtain ⟨E, rfl⟩ : ∃ E : Nat, e = -(E : Int) := ⟨(-e).toNat, by omega⟩
          rw [show (-(-(E : Int))).toNat = E by omega] at hml
          have hb : M * m ≤ d.natAbs * 2 ^ (k + E) := by
            rw [hMk, Nat.pow_add, ← Nat.mul_assoc]
            exact Nat.mul_le_mul_left _ hml
          obtain ⟨n, h1, h2, h3⟩ := near_cut (decide (d < 0) ^^ false) (M * m) (k + E) d.natAbs hz hd hb
          rw [show (-(k : Int) + -(E : Int)) = -((k + E : Nat) : Int) by omega]
          refine ⟨_, h1, ?_, ?_, ?_, ?_, fun h => absurd h hm0⟩
          · split <;> omega
          · intro h; rw [decide_eq_false (by omega)]; simp
          · intro h; rw [decide_eq_true (by omega)]; simp
          · intro _ _ h
            rw [show (-(-(E : Int))).toNat = E by omega] at h
            subst h
            have := h3 (by rw [hMk, Nat.pow_add, ← Nat.mul_assoc])
            by_cases hn : d < 0
            · rw [decide_eq_true hn]; simp; omega
            · rw [decide_eq_false hn]; simp; omega
  obtain ⟨n, k1, k2, k3, k4, k5, k6⟩ := key
  have hI : mulI d w = n := by
    unfold mulI
    rw [hmul]
    simp [k1]
  rw [hI]
  refine ⟨_, hmul, k1, k2, k3, k4, fun m2 e2 h h5 h6 => ?_, fun s2 e2 h => k6 ?_⟩
  · rw [hr] at h
    injection h with a b c
    subst a b c
    exact k5 rfl h5 h6
  · rw [hr] at h
    injection h
end Go.Proofs.Ytflggmbgfdglcaa
