/- Contracts of layer 15's Len, the program's and the document's. -/
import Derived.Test.YtmpmioffngonjaaBase
import Derived.Test.YtmpmioffngonjaaShelf
import Derived.Lib.ItoaNum
import Derived.WalkLawsBesides
import Derived.Laws.BitsLemmas
namespace Go.Proofs.Ytmpmioffngonjaa
open Go.ChangeShapes Go.WideShapes Go.ChangeAt Go.RowKit
set_option linter.unusedVariables false
set_option maxRecDepth 100000

theorem bitLen_facts (n : Nat) (h0 : 1 ≤ n) (h : n ≤ 4294967295) : ∃ k, Lib.bitLen n = k + 1 ∧ k ≤ 31 ∧ 2 ^ k ≤ n ∧ n < 2 ^ (k + 1) := by
  have hb := Lib.bitLenAux_bounds 64 n (by omega) (by omega)
  have hl := Lib.bitLen_le n 32 (by decide) (by omega)
  unfold Lib.bitLen at hl ⊢
  refine ⟨Lib.bitLenAux 64 n - 1, by omega, by omega, hb.2.1, ?_⟩
  have e : Lib.bitLenAux 64 n - 1 + 1 = Lib.bitLenAux 64 n := by omega
  rw [e]; exact hb.2.2

theorem slotOf_small (x sole many : Nat) (h : x < sole) (hx : x ≤ 1000000000) (w : World) :
    Calls Try.prog 76 #[.int .i64 x, .int .i64 sole, .int .i64 many] w fun e w' => e = .returned (.tuple #[.int .i64 x, .int .i64 0, .int .i64 0]) ∧ w = w' := by
  go_enter Try.func76, Try.ntmps76
  go_wp2
  go_ret3
  exact ⟨rfl, rfl⟩

theorem div_cast (x k : Nat) : ((x / 2 ^ k : Nat) : Int) = (x : Int) / 2 ^ k := by simp
theorem ret3_i {a b c a' b' c' : Int} (h1 : a = a') (h2 : b = b') (h3 : c = c') : Ending.returned (.tuple #[.int .i64 a, .int .i64 b, .int .i64 c]) = .returned (.tuple #[.int .i64 a', .int .i64 b', .int .i64 c']) := by rw [h1, h2, h3]
theorem mask_bits (x k : Nat) (hx : x ≤ 1000000000) (hk : k ≤ 31) : Go.bits .and .i64 (x : Int) ((2 : Int) ^ k - 1) = ((x % 2 ^ k : Nat) : Int) := by
  have hp : 0 < 2 ^ k := Nat.pow_pos (by decide)
  have hp2 : 2 ^ k ≤ 2 ^ 31 := Nat.pow_le_pow_right (by decide) hk
  have e : (2 : Int) ^ k - 1 = ((2 ^ k - 1 : Nat) : Int) := by
    rw [Int.ofNat_sub hp]; simp
  rw [e]
  have h := (bits_nat .i64 62 (by decide) (fun n h0 h1 => IntWalk.i64_in n (by omega)) x (2 ^ k - 1) (by omega) (by omega)).1
  rw [h, Nat.and_two_pow_sub_one_eq_mod]
theorem pow_cast (k : Nat) : ((2 ^ k : Nat) : Int) = (2 : Int) ^ k := by simp
set_option maxHeartbeats 400000 in
theorem slotOf_great4 (x sole k : Nat) (h : sole ≤ x) (hx : x ≤ 1000000000) (hk : Lib.bitLen (x / 4) = k + 1) (hk1 : k ≤ 31) (w : World) :
    Calls Try.prog 76 #[.int .i64 x, .int .i64 sole, .int .i64 4] w fun e w' => e = .returned (.tuple #[.int .i64 (4 * k + x / 2 ^ k : Nat), .int .i64 k, .int .i64 (x % 2 ^ k : Nat)]) ∧ Below w.heap.size w w' := by
  have c1 := fun w => Try.bits_Len ((x : Int) / 4) w (by omega) (by omega)
  rw [show ((x : Int) / 4).toNat = x / 4 from by omega, hk] at c1
  have C1 := Lib.hid c1; clear c1
  have HK := Lib.hid hk; clear hk
  have hnx : ¬ x < sole := by omega
  have e0 : (0 : Int) ≤ (x : Int) / 2 ^ k := by rw [← div_cast x k]; exact Int.natCast_nonneg _
  have e1 : (x : Int) / 2 ^ k ≤ 1000000000 := by rw [← div_cast x k]; exact Int.ofNat_le.2 (Nat.le_trans (Nat.div_le_self _ _) hx)
  have e2 : (1 : Int) ≤ 2 ^ k := by rw [← pow_cast k]; have : 0 < 2 ^ k := Nat.pow_pos (by decide); omega
  have e3 : (2 : Int) ^ k ≤ 2147483648 := by rw [← pow_cast k]; have : 2 ^ k ≤ 2 ^ 31 := Nat.pow_le_pow_right (by decide) hk1; omega
  go_enter Try.func76, Try.ntmps76
  go_wp2_with fail
  refine (C1.out _).mono ?_; rintro e w' ⟨rfl, rfl⟩
  go_wp2_with fail
  go_quiet (fail)
  go_wp2
  go_ret3
  exact ⟨ret3_i (by rw [Int.natCast_add, Int.natCast_mul, div_cast]; rfl) rfl (mask_bits x k hx hk1), below_drewN (Below.refl _ _) _⟩
set_option maxHeartbeats 400000 in
theorem slotOf_great2 (x sole k : Nat) (h : sole ≤ x) (hx : x ≤ 1000000000) (hk : Lib.bitLen (x / 2) = k + 1) (hk1 : k ≤ 31) (w : World) :
    Calls Try.prog 76 #[.int .i64 x, .int .i64 sole, .int .i64 2] w fun e w' => e = .returned (.tuple #[.int .i64 (2 * k + x / 2 ^ k : Nat), .int .i64 k, .int .i64 (x % 2 ^ k : Nat)]) ∧ Below w.heap.size w w' := by
  have c1 := fun w => Try.bits_Len ((x : Int) / 2) w (by omega) (by omega)
  rw [show ((x : Int) / 2).toNat = x / 2 from by omega, hk] at c1
  have C1 := Lib.hid c1; clear c1
  have HK := Lib.hid hk; clear hk
  have hnx : ¬ x < sole := by omega
  have e0 : (0 : Int) ≤ (x : Int) / 2 ^ k := by rw [← div_cast x k]; exact Int.natCast_nonneg _
  have e1 : (x : Int) / 2 ^ k ≤ 1000000000 := by rw [← div_cast x k]; exact Int.ofNat_le.2 (Nat.le_trans (Nat.div_le_self _ _) hx)
  have e2 : (1 : Int) ≤ 2 ^ k := by rw [← pow_cast k]; have : 0 < 2 ^ k := Nat.pow_pos (by decide); omega
  have e3 : (2 : Int) ^ k ≤ 2147483648 := by rw [← pow_cast k]; have : 2 ^ k ≤ 2 ^ 31 := Nat.pow_le_pow_right (by decide) hk1; omega
  go_enter Try.func76, Try.ntmps76
  go_wp2_with fail
  refine (C1.out _).mono ?_; rintro e w' ⟨rfl, rfl⟩
  go_wp2_with fail
  go_quiet (fail)
  go_wp2
  go_ret3
  exact ⟨ret3_i (by rw [Int.natCast_add, Int.natCast_mul, div_cast]; rfl) rfl (mask_bits x k hx hk1), below_drewN (Below.refl _ _) _⟩

def exL (s : Nat) : Nat := if s < 8 ∨ s = 28 then 0 else (s - 8) / 4 + 1
/-- The first number of a slot. -/
def tbL : Nat → Nat
  | 0 => 2
  | s + 1 => tbL s + 2 ^ exL s
theorem exL_any (s : Nat) (hs : s ≤ 100) (w : World) : Calls Try.prog 65 #[.int .i64 s] w fun e w' => e = .returned (.int .i64 (exL s)) ∧ w = w' := by
  by_cases h : s < 8
  · have e : exL s = 0 := if_pos (.inl h)
    rw [e]; clear e
    go_enter Try.func65, Try.ntmps65
    go_wp2
    go_ret
    exact ⟨rfl, rfl⟩
  · by_cases h2 : s = 28
    · subst h2
      go_enter Try.func65, Try.ntmps65
      go_wp2
      go_ret
      exact ⟨rfl, rfl⟩
    · have e : exL s = (s - 8) / 4 + 1 := if_neg (by omega)
      have e2 : ((exL s : Nat) : Int) = ((s : Int) - 8) / 4 + 1 := by rw [e]; omega
      have hb : ((s : Int) == 28) = false := by rw [beq_eq_false_iff_ne]; omega
      rw [e2]; clear e e2
      go_enter Try.func65, Try.ntmps65
      go_wp2
      go_ret
      exact ⟨rfl, rfl⟩
theorem tbL_bd : ∀ s : Nat, s ≤ 52 → tbL s ≤ 200000000 ∧ exL s ≤ 30 := by decide
set_option maxHeartbeats 400000 in
theorem baseL_any (s : Nat) (hs : s ≤ 52) (w : World) : Calls Try.prog 64 #[.int .i64 s] w fun e w' => e = .returned (.int .i64 (tbL s)) ∧ w = w' := by
  go_enter Try.func64, Try.ntmps64
  go_wp2
  go_loop [3, 4] (fun n i => ∃ k : Nat, k ≤ s ∧ i = .int .i64 k ∧ n = .int .i64 (tbL k)) (fun _ i => s - (intOf i).toNat)
  case atStart => exact ⟨0, Nat.zero_le _, rfl, rfl⟩
  case round =>
    obtain ⟨k, hk, rfl, rfl⟩ := hrel
    by_cases hlt : k < s
    · have hb := tbL_bd k (by omega)
      have e : tbL (k + 1) = tbL k + 2 ^ exL k := rfl
      have c := exL_any k (by omega)
      obtain ⟨b, hbk⟩ : ∃ b, tbL k = b := ⟨_, rfl⟩
      obtain ⟨x, hxk⟩ : ∃ x, exL k = x := ⟨_, rfl⟩
      rw [hbk, hxk] at e; rw [hxk] at c; rw [hbk, hxk] at hb
      obtain ⟨hb0, hb1⟩ := hb
      have e2 : (1 : Int) ≤ 2 ^ x := by rw [← pow_cast x]; have : 0 < 2 ^ x := Nat.pow_pos (by decide); omega
      have e3 : (2 : Int) ^ x ≤ 1073741824 := by rw [← pow_cast x]; have : 2 ^ x ≤ 2 ^ 30 := Nat.pow_le_pow_right (by decide) hb1; omega
      have C := Lib.hid c; have E := Lib.hid e; have HB := Lib.hid hbk
      clear c e hbk hxk
      rw [HB.out]
      go_wp2_with fail
      refine (C.out _).mono ?_; rintro e w' ⟨rfl, rfl⟩
      go_wp2_with fail
      go_round
      case rel => exact ⟨k + 1, by omega, by go_num, by rw [E.out, Int.natCast_add, pow_cast]⟩
      case measure => simp [intOf]; omega
    · obtain rfl : k = s := by omega
      go_wp2
      go_ret
      exact ⟨rfl, rfl⟩

def kL (n : Nat) : Nat := Lib.bitLen ((n - 2) / 4) - 1
def slotL (n : Nat) : Nat := if n = 258 then 28 else if n - 2 < 8 then n - 2 else 4 * kL n + (n - 2) / 2 ^ kL n
theorem slotL_facts : ∀ n : Fin 259, 2 ≤ n.val → slotL n.val ≤ 28 ∧ tbL (slotL n.val) ≤ n.val ∧ (∀ t : Fin 29, slotL n.val < t.val → n.val < tbL t.val) ∧
    (n.val ≠ 258 → ¬ n.val - 2 < 8 → Lib.bitLen ((n.val - 2) / 4) = kL n.val + 1 ∧ kL n.val ≤ 31 ∧ exL (slotL n.val) = kL n.val ∧ (n.val - 2) % 2 ^ kL n.val = n.val - tbL (slotL n.val)) ∧
    (n.val - 2 < 8 → exL (slotL n.val) = 0 ∧ tbL (slotL n.val) = n.val) := by decide +kernel

theorem ret4_i {a b c d a' b' c' d' : Int} (h1 : a = a') (h2 : b = b') (h3 : c = c') (h4 : d = d') : Ending.returned (.tuple #[.int .i64 a, .int .i64 b, .int .i64 c, .int .i64 d]) = .returned (.tuple #[.int .i64 a', .int .i64 b', .int .i64 c', .int .i64 d']) := by rw [h1, h2, h3, h4]

set_option maxHeartbeats 800000 in
theorem Len_in (n : Nat) (h2 : 2 ≤ n) (h : n ≤ 258) (w : World) :
    Calls Try.prog 62 #[.int .i64 n] w fun e w' => e = .returned (.tuple #[.int .i64 (slotL n), .int .i64 (exL (slotL n)), .int .i64 (n - tbL (slotL n) : Nat), .int .i64 0]) ∧ Below w.heap.size w w' := by
  have hf := slotL_facts ⟨n, by omega⟩ h2
  simp only at hf
  by_cases h258 : n = 258
  · subst h258
    go_enter Try.func62, Try.ntmps62
    go_wp2
    exact bodyPost_ret (v := .tuple #[.int .i64 28, .int .i64 0, .int .i64 0, .int .i64 0]) (by simp [results, Try.results62, go_sem]) rfl ⟨rfl, Below.refl _ _⟩
  · have hb : ((n : Int) == 258) = false := by rw [beq_eq_false_iff_ne]; omega
    by_cases h8 : n - 2 < 8
    · have e1 : slotL n = n - 2 := by unfold slotL; rw [if_neg h258, if_pos h8]
      obtain ⟨x, rfl⟩ : ∃ x, n = x + 2 := ⟨n - 2, by omega⟩
      have hx := hf.2.2.2.2 h8
      rw [hx.1, hx.2, e1]
      have C := Lib.hid (slotOf_small x 8 4 (by omega) (by omega))
      clear hf hx e1
      go_enter Try.func62, Try.ntmps62
      go_wp2_with fail
      refine (C.out _).mono ?_; rintro e w' ⟨rfl, rfl⟩
      go_wp2
      exact bodyPost_ret (v := .tuple #[.int .i64 x, .int .i64 0, .int .i64 0, .int .i64 0]) (by simp [results, Try.results62, go_sem]) rfl ⟨ret4_i (by omega) rfl (by omega) rfl, Below.refl _ _⟩
    · have hx := hf.2.2.2.1 h258 h8
      have e1 : slotL n = 4 * kL n + (n - 2) / 2 ^ kL n := by unfold slotL; rw [if_neg h258, if_neg h8]
      obtain ⟨x, rfl⟩ : ∃ x, n = x + 2 := ⟨n - 2, by omega⟩
      rw [hx.2.2.1, ← hx.2.2.2, e1]
      have C := Lib.hid (slotOf_great4 x 8 (kL (x + 2)) (by omega) (by omega) hx.1 hx.2.1)
      obtain ⟨K, hK⟩ : ∃ K, kL (x + 2) = K := ⟨_, rfl⟩
      rw [hK] at C ⊢
      obtain ⟨A, hA⟩ : ∃ A, 4 * K + x / 2 ^ K = A := ⟨_, rfl⟩
      obtain ⟨B, hB⟩ : ∃ B, x % 2 ^ K = B := ⟨_, rfl⟩
      have eA : 4 * K + (x + 2 - 2) / 2 ^ K = A := by rw [← hA]; simp
      have eB : (x + 2 - 2) % 2 ^ K = B := by rw [← hB]; simp
      rw [hA, hB] at C
      rw [eA, eB]
      clear hf hx e1 hK hA hB eA eB
      go_enter Try.func62, Try.ntmps62
      go_wp2_with fail
      refine (C.out _).mono ?_; rintro e w1 ⟨rfl, hb1⟩
      go_wp2
      exact bodyPost_ret (v := .tuple #[.int .i64 A, .int .i64 K, .int .i64 B, .int .i64 0]) (by simp [results, Try.results62, go_sem]) rfl ⟨rfl, hb1⟩

set_option maxHeartbeats 800000 in
theorem Len_out (n : Int) (h : n < 2 ∨ 258 < n) (w : World) :
    Calls Try.prog 62 #[.int .i64 n] w fun e w' => e = .returned (.tuple #[.int .i64 0, .int .i64 0, .int .i64 0, .int .i64 2]) ∧ Below w.heap.size w w' := by
  rcases h with h | h
  · go_enter Try.func62, Try.ntmps62
    go_wp2
    exact bodyPost_ret (v := .tuple #[.int .i64 0, .int .i64 0, .int .i64 0, .int .i64 2]) (by simp [results, Try.results62, go_sem]) rfl ⟨rfl, Below.refl _ _⟩
  · have h' : ¬ n < 2 := by omega
    go_enter Try.func62, Try.ntmps62
    go_wp2
    exact bodyPost_ret (v := .tuple #[.int .i64 0, .int .i64 0, .int .i64 0, .int .i64 2]) (by simp [results, Try.results62, go_sem]) rfl ⟨rfl, Below.refl _ _⟩

set_option maxHeartbeats 800000 in
theorem refLen_out (n : Int) (h : n < 2 ∨ 258 < n) (w : World) :
    Calls Try.prog 33 #[.int .i64 n] w fun e w' => e = .returned (.tuple #[.int .i64 0, .int .i64 0, .int .i64 0, .int .i64 2]) ∧ Below w.heap.size w w' := by
  rcases h with h | h
  · go_enter Try.func33, Try.ntmps33
    go_wp2
    exact bodyPost_ret (v := .tuple #[.int .i64 0, .int .i64 0, .int .i64 0, .int .i64 2]) (by simp [results, Try.results33, go_sem]) rfl ⟨rfl, Below.refl _ _⟩
  · have h' : ¬ n < 2 := by omega
    go_enter Try.func33, Try.ntmps33
    go_wp2
    exact bodyPost_ret (v := .tuple #[.int .i64 0, .int .i64 0, .int .i64 0, .int .i64 2]) (by simp [results, Try.results33, go_sem]) rfl ⟨rfl, Below.refl _ _⟩

set_option maxHeartbeats 800000 in
theorem refLen_in (n : Nat) (h2 : 2 ≤ n) (h : n ≤ 258) (w : World) :
    Calls Try.prog 33 #[.int .i64 n] w fun e w' => e = .returned (.tuple #[.int .i64 (slotL n), .int .i64 (exL (slotL n)), .int .i64 (n - tbL (slotL n) : Nat), .int .i64 0]) ∧ Below w.heap.size w w' := by
  have hf := slotL_facts ⟨n, by omega⟩ h2
  simp only at hf
  obtain ⟨hs28, hle, hgt, -, -⟩ := hf
  obtain ⟨S, hS⟩ : ∃ S, slotL n = S := ⟨_, rfl⟩
  rw [hS] at hs28 hle hgt ⊢
  have HG := Lib.hid hgt; have HLE := Lib.hid hle; clear hgt hS hle
  go_enter Try.func33, Try.ntmps33
  go_wp2_with fail
  go_loop [6] (fun s => ∃ k : Nat, S ≤ k ∧ k ≤ 28 ∧ s = .int .i64 k) (fun s => (intOf s).toNat)
  case atStart => exact ⟨28, hs28, by omega, rfl⟩
  case round =>
    obtain ⟨k, hk, hk28, rfl⟩ := hrel
    have c := baseL_any k (by omega)
    by_cases hlt : S < k
    · have hg : n < tbL k := HG.out ⟨k, by omega⟩ hlt
      obtain ⟨b, hb⟩ : ∃ b, tbL k = b := ⟨_, rfl⟩
      rw [hb] at c hg
      have C := Lib.hid c; clear c hb
      go_wp2_with fail
      refine (C.out _).mono ?_; rintro e w' ⟨rfl, rfl⟩
      go_wp2
      go_round
      case rel => exact ⟨k - 1, by omega, by omega, by go_num⟩
      case measure => simp [intOf]; omega
    · obtain rfl : k = S := by omega
      have x := exL_any k (by omega)
      obtain ⟨b, hb⟩ : ∃ b, tbL k = b := ⟨_, rfl⟩
      obtain ⟨y, hy⟩ : ∃ y, exL k = y := ⟨_, rfl⟩
      have hle := HLE.out
      rw [hb] at c hle; rw [hy] at x
      have hnl : ¬ n < b := by omega
      have e1 : ((n - b : Nat) : Int) = (n : Int) - (b : Int) := by omega
      have C := Lib.hid c; have X := Lib.hid x; have HB := Lib.hid hb; have HY := Lib.hid hy; have E1 := Lib.hid e1
      clear c hb x hy e1
      go_wp2_with fail
      refine (C.out _).mono ?_; rintro e w' ⟨rfl, rfl⟩
      go_wp2_with fail
      refine (X.out _).mono ?_; rintro e w' ⟨rfl, rfl⟩
      go_wp2_with fail
      refine (C.out _).mono ?_; rintro e w' ⟨rfl, rfl⟩
      go_wp2
      exact bodyPost_ret (v := .tuple #[.int .i64 k, .int .i64 y, .int .i64 ((n : Int) - (b : Int)), .int .i64 0]) (by simp [results, Try.results33, go_sem]) rfl ⟨by rw [HB.out, HY.out, E1.out], Below.refl _ _⟩
end Go.Proofs.Ytmpmioffngonjaa
