/- Layer 15: which slot a number has; the contracts of Len and Dist, LenOf and DistOf. -/
import Derived.Test.YtfemcehglolnjaaSl
namespace Go.Proofs.Ytfemcehglolnjaa
open Go.ChangeShapes Go.WideShapes Go.ChangeAt Go.RowKit
set_option linter.unusedVariables false
set_option maxRecDepth 100000

def kL (n : Nat) : Nat := Lib.bitLen ((n - 2) / 4) - 1
def slotL (n : Nat) : Nat := if n = 258 then 28 else if n - 2 < 8 then n - 2 else 4 * kL n + (n - 2) / 2 ^ kL n
theorem slotL_facts : ∀ n : Fin 259, 2 ≤ n.val → slotL n.val ≤ 28 ∧ tbL (slotL n.val) ≤ n.val ∧ (∀ t : Fin 29, slotL n.val < t.val → n.val < tbL t.val) ∧
    (n.val ≠ 258 → ¬ n.val - 2 < 8 → Lib.bitLen ((n.val - 2) / 4) = kL n.val + 1 ∧ kL n.val ≤ 31 ∧ exL (slotL n.val) = kL n.val ∧ (n.val - 2) % 2 ^ kL n.val = n.val - tbL (slotL n.val)) ∧
    (n.val - 2 < 8 → exL (slotL n.val) = 0 ∧ tbL (slotL n.val) = n.val) := by decide +kernel

def kD (d : Nat) : Nat := Lib.bitLen ((d - 1) / 2) - 1
def slotD (d : Nat) : Nat := if d - 1 < 4 then d - 1 else 2 * kD d + (d - 1) / 2 ^ kD d
theorem tabD : ∀ k : Fin 26, 1 ≤ k.val → tbD (2 * k.val + 2) = 1 + 2 * 2 ^ k.val ∧ tbD (2 * k.val + 3) = 1 + 3 * 2 ^ k.val ∧ exD (2 * k.val + 2) = k.val ∧ exD (2 * k.val + 3) = k.val := by decide +kernel
theorem monoD : ∀ t : Fin 52, ∀ s : Fin 52, s.val ≤ t.val → tbD s.val ≤ tbD t.val := by decide +kernel
theorem smallD : ∀ d : Fin 5, 1 ≤ d.val → exD (d.val - 1) = 0 ∧ tbD (d.val - 1) = d.val ∧ (∀ t : Fin 52, d.val - 1 < t.val → d.val < tbD t.val) := by decide +kernel

theorem slotD_facts (d : Nat) (h0 : 1 ≤ d) (h1 : d ≤ 67108864) : slotD d ≤ 51 ∧ tbD (slotD d) ≤ d ∧ (∀ t : Nat, slotD d < t → t ≤ 51 → d < tbD t) ∧
    (¬ d - 1 < 4 → Lib.bitLen ((d - 1) / 2) = kD d + 1 ∧ kD d ≤ 31 ∧ exD (slotD d) = kD d ∧ (d - 1) % 2 ^ kD d = d - tbD (slotD d)) ∧
    (d - 1 < 4 → exD (slotD d) = 0 ∧ tbD (slotD d) = d) := by
  by_cases hs : d - 1 < 4
  · have e : slotD d = d - 1 := if_pos hs
    have h := smallD ⟨d, by omega⟩ h0
    simp only at h
    rw [e]
    exact ⟨by omega, by omega, fun t ht hl => h.2.2 ⟨t, by omega⟩ ht, fun h => absurd hs h, fun _ => ⟨h.1, h.2.1⟩⟩
  · obtain ⟨k, hk, hk1, hlo, hhi⟩ := bitLen_facts ((d - 1) / 2) (by omega) (by omega)
    have ek : kD d = k := by unfold kD; rw [hk]; omega
    have e : slotD d = 2 * k + (d - 1) / 2 ^ k := by unfold slotD; rw [if_neg hs, ek]
    have hpos : 0 < 2 ^ k := Nat.pow_pos (by decide)
    have hk0 : 1 ≤ k := by
      rcases Nat.eq_zero_or_pos k with rfl | h
      · simp at hhi; omega
      · exact h
    have hk24 : k ≤ 24 := by
      rcases Nat.lt_or_ge 24 k with h | h
      · have : 2 ^ 25 ≤ 2 ^ k := Nat.pow_le_pow_right (by decide) h
        omega
      · exact h
    rw [Nat.pow_succ] at hhi
    have hq2 : 2 ≤ (d - 1) / 2 ^ k := (Nat.le_div_iff_mul_le hpos).2 (by omega)
    have hq4 : (d - 1) / 2 ^ k < 4 := Nat.div_lt_of_lt_mul (by omega)
    have hdm := Nat.div_add_mod (d - 1) (2 ^ k)
    have hml := Nat.mod_lt (d - 1) hpos
    have ht := tabD ⟨k, by omega⟩ hk0
    simp only at ht
    have hnext : ∀ t, 2 * k + (d - 1) / 2 ^ k < t → t ≤ 51 → d < tbD t := by
      intro t h2 h3
      have hm := monoD ⟨t, by omega⟩ ⟨2 * k + (d - 1) / 2 ^ k + 1, by omega⟩ h2
      simp only at hm
      rcases (show (d - 1) / 2 ^ k = 2 ∨ (d - 1) / 2 ^ k = 3 by omega) with hq | hq
      · rw [hq] at hm hdm
        rw [show 2 * k + 2 + 1 = 2 * k + 3 by omega, ht.2.1] at hm
        omega
      · rw [hq] at hm hdm h2
        have ht' := tabD ⟨k + 1, by omega⟩ (by simp)
        simp only at ht'
        rw [show 2 * k + 3 + 1 = 2 * (k + 1) + 2 by omega, ht'.1, Nat.pow_succ] at hm
        omega
    have hval : tbD (2 * k + (d - 1) / 2 ^ k) = 1 + (d - 1) / 2 ^ k * 2 ^ k ∧ exD (2 * k + (d - 1) / 2 ^ k) = k := by
      rcases (show (d - 1) / 2 ^ k = 2 ∨ (d - 1) / 2 ^ k = 3 by omega) with hq | hq
      · rw [hq]; exact ⟨ht.1, ht.2.2.1⟩
      · rw [hq]; exact ⟨ht.2.1, ht.2.2.2⟩
    rw [e, ek]
    have hmc : 2 ^ k * ((d - 1) / 2 ^ k) = (d - 1) / 2 ^ k * 2 ^ k := Nat.mul_comm _ _
    exact ⟨by omega, by rw [hval.1]; omega, hnext, fun _ => ⟨hk, by omega, hval.2, by rw [hval.1]; omega⟩, fun h => absurd h hs⟩

theorem ret4_i {a b c d a' b' c' d' : Int} (h1 : a = a') (h2 : b = b') (h3 : c = c') (h4 : d = d') : Ending.returned (.tuple #[.int .i64 a, .int .i64 b, .int .i64 c, .int .i64 d]) = .returned (.tuple #[.int .i64 a', .int .i64 b', .int .i64 c', .int .i64 d']) := by rw [h1, h2, h3, h4]

set_option maxHeartbeats 800000 in
theorem Len_in (n : Nat) (h2 : 2 ≤ n) (h : n ≤ 258) (w : World) :
    Calls Try.prog 20 #[.int .i64 n] w fun e w' => e = .returned (.tuple #[.int .i64 (slotL n), .int .i64 (exL (slotL n)), .int .i64 (n - tbL (slotL n) : Nat), .int .i64 0]) ∧ Below w.heap.size w w' := by
  have hf := slotL_facts ⟨n, by omega⟩ h2
  simp only at hf
  by_cases h258 : n = 258
  · subst h258
    go_enter Try.func20, Try.ntmps20
    go_wp2
    exact bodyPost_ret (v := .tuple #[.int .i64 28, .int .i64 0, .int .i64 0, .int .i64 0]) (by simp [results, Try.results20, go_sem]) rfl ⟨rfl, Below.refl _ _⟩
  · have hb : ((n : Int) == 258) = false := by rw [beq_eq_false_iff_ne]; omega
    by_cases h8 : n - 2 < 8
    · have e1 : slotL n = n - 2 := by unfold slotL; rw [if_neg h258, if_pos h8]
      obtain ⟨x, rfl⟩ : ∃ x, n = x + 2 := ⟨n - 2, by omega⟩
      have hx := hf.2.2.2.2 h8
      rw [hx.1, hx.2, e1]
      have C := Lib.hid (slotOf_small x 8 4 (by omega) (by omega))
      clear hf hx e1
      go_enter Try.func20, Try.ntmps20
      go_wp2_with fail
      refine (C.out _).mono ?_; rintro e w' ⟨rfl, rfl⟩
      go_wp2
      exact bodyPost_ret (v := .tuple #[.int .i64 x, .int .i64 0, .int .i64 0, .int .i64 0]) (by simp [results, Try.results20, go_sem]) rfl ⟨ret4_i (by omega) rfl (by omega) rfl, Below.refl _ _⟩
    · have hx := hf.2.2.2.1 h258 h8
      have e1 : slotL n = 4 * kL n + (n - 2) / 2 ^ kL n := by unfold slotL; rw [if_neg h258, if_neg h8]
      obtain ⟨x, rfl⟩ : ∃ x, n = x + 2 := ⟨n - 2, by omega⟩
      rw [hx.2.2.1, ← hx.2.2.2, e1]
      have C := Lib.hid (slotOf_great4 x 8 (kL (x + 2)) (by omega) (by omega) hx.1 hx.2.1)
      obtain ⟨K, hK⟩ : ∃ K, kL (x + 2) = K := ⟨_, rfl⟩
      rw [hK] at C ⊢
      obtain ⟨A, hA⟩ : ∃ A, 4 * K + x / 2 ^ K = A := ⟨_, rfl⟩
      obtain ⟨B, hB⟩ : ∃ B, x % 2 ^ K = B := ⟨_, rfl⟩
      have eA : 4 * K + (x + 2 - 2) / 2 ^ K = A := by rw [← hA]; simp
      have eB : (x + 2 - 2) % 2 ^ K = B := by rw [← hB]; simp
      rw [hA, hB] at C
      rw [eA, eB]
      clear hf hx e1 hK hA hB eA eB
      go_enter Try.func20, Try.ntmps20
      go_wp2_with fail
      refine (C.out _).mono ?_; rintro e w1 ⟨rfl, hb1⟩
      go_wp2
      exact bodyPost_ret (v := .tuple #[.int .i64 A, .int .i64 K, .int .i64 B, .int .i64 0]) (by simp [results, Try.results20, go_sem]) rfl ⟨rfl, hb1⟩

set_option maxHeartbeats 800000 in
theorem Len_out (n : Int) (h : n < 2 ∨ 258 < n) (w : World) :
    Calls Try.prog 20 #[.int .i64 n] w fun e w' => e = .returned (.tuple #[.int .i64 0, .int .i64 0, .int .i64 0, .int .i64 2]) ∧ Below w.heap.size w w' := by
  rcases h with h | h
  · go_enter Try.func20, Try.ntmps20
    go_wp2
    exact bodyPost_ret (v := .tuple #[.int .i64 0, .int .i64 0, .int .i64 0, .int .i64 2]) (by simp [results, Try.results20, go_sem]) rfl ⟨rfl, Below.refl _ _⟩
  · have h' : ¬ n < 2 := by omega
    go_enter Try.func20, Try.ntmps20
    go_wp2
    exact bodyPost_ret (v := .tuple #[.int .i64 0, .int .i64 0, .int .i64 0, .int .i64 2]) (by simp [results, Try.results20, go_sem]) rfl ⟨rfl, Below.refl _ _⟩

set_option maxHeartbeats 800000 in
theorem refLen_out (n : Int) (h : n < 2 ∨ 258 < n) (w : World) :
    Calls Try.prog 21 #[.int .i64 n] w fun e w' => e = .returned (.tuple #[.int .i64 0, .int .i64 0, .int .i64 0, .int .i64 2]) ∧ Below w.heap.size w w' := by
  rcases h with h | h
  · go_enter Try.func21, Try.ntmps21
    go_wp2
    exact bodyPost_ret (v := .tuple #[.int .i64 0, .int .i64 0, .int .i64 0, .int .i64 2]) (by simp [results, Try.results21, go_sem]) rfl ⟨rfl, Below.refl _ _⟩
  · have h' : ¬ n < 2 := by omega
    go_enter Try.func21, Try.ntmps21
    go_wp2
    exact bodyPost_ret (v := .tuple #[.int .i64 0, .int .i64 0, .int .i64 0, .int .i64 2]) (by simp [results, Try.results21, go_sem]) rfl ⟨rfl, Below.refl _ _⟩

set_option maxHeartbeats 800000 in
theorem refLen_in (n : Nat) (h2 : 2 ≤ n) (h : n ≤ 258) (w : World) :
    Calls Try.prog 21 #[.int .i64 n] w fun e w' => e = .returned (.tuple #[.int .i64 (slotL n), .int .i64 (exL (slotL n)), .int .i64 (n - tbL (slotL n) : Nat), .int .i64 0]) ∧ Below w.heap.size w w' := by
  have hf := slotL_facts ⟨n, by omega⟩ h2
  simp only at hf
  obtain ⟨hs28, hle, hgt, -, -⟩ := hf
  obtain ⟨S, hS⟩ : ∃ S, slotL n = S := ⟨_, rfl⟩
  rw [hS] at hs28 hle hgt ⊢
  have HG := Lib.hid hgt; have HLE := Lib.hid hle; clear hgt hS hle
  go_enter Try.func21, Try.ntmps21
  go_wp2_with fail
  go_loop [6] (fun s => ∃ k : Nat, S ≤ k ∧ k ≤ 28 ∧ s = .int .i64 k) (fun s => (intOf s).toNat)
  case atStart => exact ⟨28, hs28, by omega, rfl⟩
  case round =>
    obtain ⟨k, hk, hk28, rfl⟩ := hrel
    have c := baseL_any k (by omega)
    by_cases hlt : S < k
    · have hg : n < tbL k := HG.out ⟨k, by omega⟩ hlt
      obtain ⟨b, hb⟩ : ∃ b, tbL k = b := ⟨_, rfl⟩
      rw [hb] at c hg
      have C := Lib.hid c; clear c hb
      go_wp2_with fail
      refine (C.out _).mono ?_; rintro e w' ⟨rfl, rfl⟩
      go_wp2
      go_round
      case rel => exact ⟨k - 1, by omega, by omega, by go_num⟩
      case measure => simp [intOf]; omega
    · obtain rfl : k = S := by omega
      have x := exL_any k (by omega)
      obtain ⟨b, hb⟩ : ∃ b, tbL k = b := ⟨_, rfl⟩
      obtain ⟨y, hy⟩ : ∃ y, exL k = y := ⟨_, rfl⟩
      have hle := HLE.out
      rw [hb] at c hle; rw [hy] at x
      have hnl : ¬ n < b := by omega
      have e1 : ((n - b : Nat) : Int) = (n : Int) - (b : Int) := by omega
      have C := Lib.hid c; have X := Lib.hid x; have HB := Lib.hid hb; have HY := Lib.hid hy; have E1 := Lib.hid e1
      clear c hb x hy e1
      go_wp2_with fail
      refine (C.out _).mono ?_; rintro e w' ⟨rfl, rfl⟩
      go_wp2_with fail
      refine (X.out _).mono ?_; rintro e w' ⟨rfl, rfl⟩
      go_wp2_with fail
      refine (C.out _).mono ?_; rintro e w' ⟨rfl, rfl⟩
      go_wp2
      exact bodyPost_ret (v := .tuple #[.int .i64 k, .int .i64 y, .int .i64 ((n : Int) - (b : Int)), .int .i64 0]) (by simp [results, Try.results21, go_sem]) rfl ⟨by rw [HB.out, HY.out, E1.out], Below.refl _ _⟩
end Go.Proofs.Ytfemcehglolnjaa
