/- Contracts of layer 15's functions, the program's and the document's. -/
import Derived.Test.YtfemcehglolnjaaBase
import Derived.Test.YtfemcehglolnjaaShelf
import Derived.Test.YtfemcehglolnjaaIl
import Derived.WalkLawsBesides
import Derived.Laws.BitsLemmas
namespace Go.Proofs.Ytfemcehglolnjaa
open Go.ChangeShapes Go.WideShapes Go.ChangeAt Go.RowKit
set_option linter.unusedVariables false
set_option maxRecDepth 100000

theorem slotOf_small (x sole many : Nat) (h : x < sole) (hx : x ≤ 1000000000) (w : World) :
    Calls Try.prog 45 #[.int .i64 x, .int .i64 sole, .int .i64 many] w fun e w' => e = .returned (.tuple #[.int .i64 x, .int .i64 0, .int .i64 0]) ∧ w = w' := by
  go_enter Try.func45, Try.ntmps45
  go_wp2
  go_ret3
  exact ⟨rfl, rfl⟩

theorem div_cast (x k : Nat) : ((x / 2 ^ k : Nat) : Int) = (x : Int) / 2 ^ k := by simp
theorem ret3_i {a b c a' b' c' : Int} (h1 : a = a') (h2 : b = b') (h3 : c = c') : Ending.returned (.tuple #[.int .i64 a, .int .i64 b, .int .i64 c]) = .returned (.tuple #[.int .i64 a', .int .i64 b', .int .i64 c']) := by rw [h1, h2, h3]
theorem mask_bits (x k : Nat) (hx : x ≤ 1000000000) (hk : k ≤ 31) : Go.bits .and .i64 (x : Int) ((2 : Int) ^ k - 1) = ((x % 2 ^ k : Nat) : Int) := by
  have hp : 0 < 2 ^ k := Nat.pow_pos (by decide)
  have hp2 : 2 ^ k ≤ 2 ^ 31 := Nat.pow_le_pow_right (by decide) hk
  have e : (2 : Int) ^ k - 1 = ((2 ^ k - 1 : Nat) : Int) := by
    rw [Int.ofNat_sub hp]; simp
  rw [e]
  have h := (bits_nat .i64 62 (by decide) (fun n h0 h1 => IntWalk.i64_in n (by omega)) x (2 ^ k - 1) (by omega) (by omega)).1
  rw [h, Nat.and_two_pow_sub_one_eq_mod]
theorem pow_cast (k : Nat) : ((2 ^ k : Nat) : Int) = (2 : Int) ^ k := by simp
set_option maxHeartbeats 400000 in
theorem slotOf_great4 (x sole k : Nat) (h : sole ≤ x) (hx : x ≤ 1000000000) (hk : Lib.bitLen (x / 4) = k + 1) (hk1 : k ≤ 31) (w : World) :
    Calls Try.prog 45 #[.int .i64 x, .int .i64 sole, .int .i64 4] w fun e w' => e = .returned (.tuple #[.int .i64 (4 * k + x / 2 ^ k : Nat), .int .i64 k, .int .i64 (x % 2 ^ k : Nat)]) ∧ Below w.heap.size w w' := by
  have c1 := fun w => Try.bits_Len ((x : Int) / 4) w (by omega) (by omega)
  rw [show ((x : Int) / 4).toNat = x / 4 from by omega, hk] at c1
  have C1 := Lib.hid c1; clear c1
  have HK := Lib.hid hk; clear hk
  have hnx : ¬ x < sole := by omega
  have e0 : (0 : Int) ≤ (x : Int) / 2 ^ k := by rw [← div_cast x k]; exact Int.natCast_nonneg _
  have e1 : (x : Int) / 2 ^ k ≤ 1000000000 := by rw [← div_cast x k]; exact Int.ofNat_le.2 (Nat.le_trans (Nat.div_le_self _ _) hx)
  have e2 : (1 : Int) ≤ 2 ^ k := by rw [← pow_cast k]; have : 0 < 2 ^ k := Nat.pow_pos (by decide); omega
  have e3 : (2 : Int) ^ k ≤ 2147483648 := by rw [← pow_cast k]; have : 2 ^ k ≤ 2 ^ 31 := Nat.pow_le_pow_right (by decide) hk1; omega
  go_enter Try.func45, Try.ntmps45
  go_wp2_with fail
  refine (C1.out _).mono ?_; rintro e w' ⟨rfl, rfl⟩
  go_wp2_with fail
  go_quiet (fail)
  go_wp2
  go_ret3
  exact ⟨ret3_i (by rw [Int.natCast_add, Int.natCast_mul, div_cast]; rfl) rfl (mask_bits x k hx hk1), below_drewN (Below.refl _ _) _⟩
set_option maxHeartbeats 400000 in
theorem slotOf_great2 (x sole k : Nat) (h : sole ≤ x) (hx : x ≤ 1000000000) (hk : Lib.bitLen (x / 2) = k + 1) (hk1 : k ≤ 31) (w : World) :
    Calls Try.prog 45 #[.int .i64 x, .int .i64 sole, .int .i64 2] w fun e w' => e = .returned (.tuple #[.int .i64 (2 * k + x / 2 ^ k : Nat), .int .i64 k, .int .i64 (x % 2 ^ k : Nat)]) ∧ Below w.heap.size w w' := by
  have c1 := fun w => Try.bits_Len ((x : Int) / 2) w (by omega) (by omega)
  rw [show ((x : Int) / 2).toNat = x / 2 from by omega, hk] at c1
  have C1 := Lib.hid c1; clear c1
  have HK := Lib.hid hk; clear hk
  have hnx : ¬ x < sole := by omega
  have e0 : (0 : Int) ≤ (x : Int) / 2 ^ k := by rw [← div_cast x k]; exact Int.natCast_nonneg _
  have e1 : (x : Int) / 2 ^ k ≤ 1000000000 := by rw [← div_cast x k]; exact Int.ofNat_le.2 (Nat.le_trans (Nat.div_le_self _ _) hx)
  have e2 : (1 : Int) ≤ 2 ^ k := by rw [← pow_cast k]; have : 0 < 2 ^ k := Nat.pow_pos (by decide); omega
  have e3 : (2 : Int) ^ k ≤ 2147483648 := by rw [← pow_cast k]; have : 2 ^ k ≤ 2 ^ 31 := Nat.pow_le_pow_right (by decide) hk1; omega
  go_enter Try.func45, Try.ntmps45
  go_wp2_with fail
  refine (C1.out _).mono ?_; rintro e w' ⟨rfl, rfl⟩
  go_wp2_with fail
  go_quiet (fail)
  go_wp2
  go_ret3
  exact ⟨ret3_i (by rw [Int.natCast_add, Int.natCast_mul, div_cast]; rfl) rfl (mask_bits x k hx hk1), below_drewN (Below.refl _ _) _⟩

def exL (s : Nat) : Nat := if s < 8 ∨ s = 28 then 0 else (s - 8) / 4 + 1
/-- The first number of a slot. -/
def tbL : Nat → Nat
  | 0 => 2
  | s + 1 => tbL s + 2 ^ exL s
theorem exL_any (s : Nat) (hs : s ≤ 100) (w : World) : Calls Try.prog 47 #[.int .i64 s] w fun e w' => e = .returned (.int .i64 (exL s)) ∧ w = w' := by
  by_cases h : s < 8
  · have e : exL s = 0 := if_pos (.inl h)
    rw [e]; clear e
    go_enter Try.func47, Try.ntmps47
    go_wp2
    go_ret
    exact ⟨rfl, rfl⟩
  · by_cases h2 : s = 28
    · subst h2
      go_enter Try.func47, Try.ntmps47
      go_wp2
      go_ret
      exact ⟨rfl, rfl⟩
    · have e : exL s = (s - 8) / 4 + 1 := if_neg (by omega)
      have e2 : ((exL s : Nat) : Int) = ((s : Int) - 8) / 4 + 1 := by rw [e]; omega
      have hb : ((s : Int) == 28) = false := by rw [beq_eq_false_iff_ne]; omega
      rw [e2]; clear e e2
      go_enter Try.func47, Try.ntmps47
      go_wp2
      go_ret
      exact ⟨rfl, rfl⟩
theorem tbL_bd : ∀ s : Nat, s ≤ 52 → tbL s ≤ 200000000 ∧ exL s ≤ 30 := by decide
set_option maxHeartbeats 400000 in
theorem baseL_any (s : Nat) (hs : s ≤ 52) (w : World) : Calls Try.prog 46 #[.int .i64 s] w fun e w' => e = .returned (.int .i64 (tbL s)) ∧ w = w' := by
  go_enter Try.func46, Try.ntmps46
  go_wp2
  go_loop [3, 4] (fun n i => ∃ k : Nat, k ≤ s ∧ i = .int .i64 k ∧ n = .int .i64 (tbL k)) (fun _ i => s - (intOf i).toNat)
  case atStart => exact ⟨0, Nat.zero_le _, rfl, rfl⟩
  case round =>
    obtain ⟨k, hk, rfl, rfl⟩ := hrel
    by_cases hlt : k < s
    · have hb := tbL_bd k (by omega)
      have e : tbL (k + 1) = tbL k + 2 ^ exL k := rfl
      have c := exL_any k (by omega)
      obtain ⟨b, hbk⟩ : ∃ b, tbL k = b := ⟨_, rfl⟩
      obtain ⟨x, hxk⟩ : ∃ x, exL k = x := ⟨_, rfl⟩
      rw [hbk, hxk] at e; rw [hxk] at c; rw [hbk, hxk] at hb
      obtain ⟨hb0, hb1⟩ := hb
      have e2 : (1 : Int) ≤ 2 ^ x := by rw [← pow_cast x]; have : 0 < 2 ^ x := Nat.pow_pos (by decide); omega
      have e3 : (2 : Int) ^ x ≤ 1073741824 := by rw [← pow_cast x]; have : 2 ^ x ≤ 2 ^ 30 := Nat.pow_le_pow_right (by decide) hb1; omega
      have C := Lib.hid c; have E := Lib.hid e; have HB := Lib.hid hbk
      clear c e hbk hxk
      rw [HB.out]
      go_wp2_with fail
      refine (C.out _).mono ?_; rintro e w' ⟨rfl, rfl⟩
      go_wp2_with fail
      go_round
      case rel => exact ⟨k + 1, by omega, by go_num, by rw [E.out, Int.natCast_add, pow_cast]⟩
      case measure => simp [intOf]; omega
    · obtain rfl : k = s := by omega
      go_wp2
      go_ret
      exact ⟨rfl, rfl⟩

def exD (s : Nat) : Nat := if s < 4 then 0 else (s - 4) / 2 + 1
/-- The first number of a slot. -/
def tbD : Nat → Nat
  | 0 => 1
  | s + 1 => tbD s + 2 ^ exD s
theorem exD_any (s : Nat) (hs : s ≤ 100) (w : World) : Calls Try.prog 49 #[.int .i64 s] w fun e w' => e = .returned (.int .i64 (exD s)) ∧ w = w' := by
  by_cases h : s < 4
  · have e : exD s = 0 := if_pos h
    rw [e]; clear e
    go_enter Try.func49, Try.ntmps49
    go_wp2
    go_ret
    exact ⟨rfl, rfl⟩
  · have e : exD s = (s - 4) / 2 + 1 := if_neg h
    have e2 : ((exD s : Nat) : Int) = ((s : Int) - 4) / 2 + 1 := by rw [e]; omega
    rw [e2]; clear e e2
    go_enter Try.func49, Try.ntmps49
    go_wp2
    go_ret
    exact ⟨rfl, rfl⟩
theorem tbD_bd : ∀ s : Nat, s ≤ 52 → tbD s ≤ 200000000 ∧ exD s ≤ 30 := by decide
set_option maxHeartbeats 400000 in
theorem baseD_any (s : Nat) (hs : s ≤ 52) (w : World) : Calls Try.prog 48 #[.int .i64 s] w fun e w' => e = .returned (.int .i64 (tbD s)) ∧ w = w' := by
  go_enter Try.func48, Try.ntmps48
  go_wp2
  go_loop [3, 4] (fun n i => ∃ k : Nat, k ≤ s ∧ i = .int .i64 k ∧ n = .int .i64 (tbD k)) (fun _ i => s - (intOf i).toNat)
  case atStart => exact ⟨0, Nat.zero_le _, rfl, rfl⟩
  case round =>
    obtain ⟨k, hk, rfl, rfl⟩ := hrel
    by_cases hlt : k < s
    · have hb := tbD_bd k (by omega)
      have e : tbD (k + 1) = tbD k + 2 ^ exD k := rfl
      have c := exD_any k (by omega)
      obtain ⟨b, hbk⟩ : ∃ b, tbD k = b := ⟨_, rfl⟩
      obtain ⟨x, hxk⟩ : ∃ x, exD k = x := ⟨_, rfl⟩
      rw [hbk, hxk] at e; rw [hxk] at c; rw [hbk, hxk] at hb
      obtain ⟨hb0, hb1⟩ := hb
      have e2 : (1 : Int) ≤ 2 ^ x := by rw [← pow_cast x]; have : 0 < 2 ^ x := Nat.pow_pos (by decide); omega
      have e3 : (2 : Int) ^ x ≤ 1073741824 := by rw [← pow_cast x]; have : 2 ^ x ≤ 2 ^ 30 := Nat.pow_le_pow_right (by decide) hb1; omega
      have C := Lib.hid c; have E := Lib.hid e; have HB := Lib.hid hbk
      clear c e hbk hxk
      rw [HB.out]
      go_wp2_with fail
      refine (C.out _).mono ?_; rintro e w' ⟨rfl, rfl⟩
      go_wp2_with fail
      go_round
      case rel => exact ⟨k + 1, by omega, by go_num, by rw [E.out, Int.natCast_add, pow_cast]⟩
      case measure => simp [intOf]; omega
    · obtain rfl : k = s := by omega
      go_wp2
      go_ret
      exact ⟨rfl, rfl⟩
end Go.Proofs.Ytfemcehglolnjaa
