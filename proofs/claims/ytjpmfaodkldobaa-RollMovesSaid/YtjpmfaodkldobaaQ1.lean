/- Layer 42: sums. -/
import Derived.Test.YtjpmfaodkldobaaK3
import Derived.Test.YtjpmfaodkldobaaQm
namespace Go.Proofs.Ytjpmfaodkldobaa
open Go.ChangeShapes Go.WideShapes Go.ChangeAt Go.RowKit
set_option linter.unusedVariables false
set_option maxRecDepth 100000
open RollMath

theorem L_get (p : ByteArray) (n : Nat) (h : n < p.size) : p.data.toList[n]? = some p[n] := by
  have : n < p.data.toList.length := by simpa using h
  rw [List.getElem?_eq_getElem this]; rfl
theorem L_take (s : ByteArray) (k : Nat) (h : k < s.size) : s.data.toList.take (k + 1) = s.data.toList.take k ++ [s[k]] := by
  rw [List.take_succ_eq_append_getElem (by simpa using h)]; rfl
theorem rWith (h : Nat) (b : Int) (hh : h < 2147483647) (hb : 0 ≤ b ∧ b < 256) (w : World) : Calls Try.prog 69 #[.int .i64 h, .int .u8 b] w fun e w' => e = .returned (.int .i64 ((257 * h + b + 1) % 2147483647)) ∧ w' = w := by
  go_enter Try.func69, Try.ntmps69
  go_wp2
  go_ret
  exact ⟨rfl, rfl⟩
theorem rHash (s : ByteArray) (hs : s.size ≤ 1099511627776) (w : World) : Calls Try.prog 38 #[.string s] w fun e w' => e = .returned (.int .i64 (hashL s.data.toList : Nat)) ∧ w' = w := by
  have HT := Lib.hid (fun k h => show hashL (s.data.toList.take (k + 1)) = _ by rw [L_take s k h, hashL_snoc])
  have HL := Lib.hid (fun k => hashL_lt (s.data.toList.take k))
  have HE : Hid (s.data.toList.take s.size = s.data.toList) := List.take_of_length_le (by simp)
  go_enter Try.func38, Try.ntmps38
  go_wp2
  go_loop [3, 7] (fun h i => ∃ k : Nat, k ≤ s.size ∧ i = .int .i64 k ∧ h = .int .i64 (hashL (s.data.toList.take k) : Nat)) (fun _ i => s.size - (intOf i).toNat)
  case atStart => exact ⟨0, Nat.zero_le _, rfl, rfl⟩
  case round =>
    obtain ⟨k, hk, rfl, rfl⟩ := hrel
    by_cases hlt : k < s.size
    · have hl := HL.out k
      have hn := HT.out k hlt
      obtain ⟨H, hH⟩ : ∃ H, hashL (s.data.toList.take k) = H := ⟨_, rfl⟩
      rw [hH] at hl hn
      have hb8 := s[k].toNat_lt
      have C := Lib.hid (rWith H (s[k].toNat : Int) hl ⟨by omega, by omega⟩)
      have HN := Lib.hid hn
      rw [hH]
      clear hn hH
      go_wp2_with fail
      refine (C.out _).mono ?_; rintro e w1 ⟨rfl, rfl⟩
      go_wp2_with fail
      go_round
      case rel => exact ⟨k + 1, by omega, by go_num, by rw [HN.out]; congr 1⟩
      case measure => simp [intOf]; omega
    · obtain rfl : k = s.size := by omega
      go_wp2
      go_ret
      exact ⟨ret_i (by rw [HE.out]), rfl⟩
theorem pw_odd (p q m : Nat) : (p * q % P * (q * q % P) ^ m) % P = (p * q ^ (2 * m + 1)) % P := by
  rw [Nat.mul_mod, Nat.mod_mod, ← Nat.pow_mod, ← Nat.mul_mod, Nat.pow_succ, Nat.pow_mul, Nat.pow_two, Nat.mul_assoc, Nat.mul_comm q]
theorem pw_even (p q m : Nat) : (p * (q * q % P) ^ m) % P = (p * q ^ (2 * m)) % P := by
  rw [Nat.mul_mod, ← Nat.pow_mod, ← Nat.mul_mod, Nat.pow_mul, Nat.pow_two]
theorem rPower (N : Nat) (hN : N ≤ 1099511627776) (w : World) : Calls Try.prog 70 #[.int .i64 N] w fun e w' => e = .returned (.int .i64 (257 ^ N % 2147483647 : Nat)) ∧ w' = w := by
  go_enter Try.func70, Try.ntmps70
  go_wp2
  go_loop [0, 3, 4] (fun n p q => ∃ m x y : Nat, n = .int .i64 m ∧ m ≤ N ∧ p = .int .i64 x ∧ x < 2147483647 ∧ q = .int .i64 y ∧ y < 2147483647 ∧ Hid ((x * y ^ m) % P = 257 ^ N % P)) (fun n _ _ => (intOf n).toNat)
  case atStart => exact ⟨N, 1, 257, rfl, Nat.le_refl _, rfl, by decide, rfl, by decide, Lib.hid (by rw [Nat.one_mul])⟩
  case round =>
    obtain ⟨m, x, y, rfl, hm, rfl, hx, rfl, hy, he⟩ := hrel
    have hxy : x * y < 4611686018427387904 := Nat.lt_of_le_of_lt (Nat.mul_le_mul (Nat.le_of_lt hx) (Nat.le_of_lt hy)) (by decide)
    have hyy : y * y < 4611686018427387904 := Nat.lt_of_le_of_lt (Nat.mul_le_mul (Nat.le_of_lt hy) (Nat.le_of_lt hy)) (by decide)
    have hxi : (0 : Int) ≤ (x : Int) * (y : Int) ∧ (x : Int) * (y : Int) ≤ 4611686018427387904 := by rw [← Int.natCast_mul]; omega
    have hyi : (0 : Int) ≤ (y : Int) * (y : Int) ∧ (y : Int) * (y : Int) ≤ 4611686018427387904 := by rw [← Int.natCast_mul]; omega
    obtain ⟨hx1, hx2⟩ := hxi
    obtain ⟨hy1, hy2⟩ := hyi
    by_cases h0 : 0 < m
    · by_cases ho : m % 2 = 1
      · have HE := Lib.hid (show (x * y % P * (y * y % P) ^ (m / 2)) % P = 257 ^ N % P by rw [pw_odd, show 2 * (m / 2) + 1 = m by omega]; exact he.out)
        have e1 : ((m : Int) % 2 == 1) = true := by rw [beq_iff_eq]; omega
        clear he hxy hyy ho
        go_wp2
        go_round
        case rel => exact ⟨m / 2, x * y % 2147483647, y * y % 2147483647, by simp, by omega, by simp, Nat.mod_lt _ (by decide), by simp, Nat.mod_lt _ (by decide), HE⟩
        case measure => simp [intOf]; omega
      · have HE := Lib.hid (show (x * (y * y % P) ^ (m / 2)) % P = 257 ^ N % P by rw [pw_even, show 2 * (m / 2) = m by omega]; exact he.out)
        have e1 : ((m : Int) % 2 == 1) = false := by rw [beq_eq_false_iff_ne]; omega
        clear he hxy hyy ho
        go_wp2
        go_round
        case rel => exact ⟨m / 2, x, y * y % 2147483647, by simp, by omega, rfl, hx, by simp, Nat.mod_lt _ (by decide), HE⟩
        case measure => simp [intOf]; omega
    · have HE := Lib.hid (show x = 257 ^ N % 2147483647 by
        have h := he.out
        rw [show m = 0 by omega, Nat.pow_zero, Nat.mul_one] at h
        rw [← Nat.mod_eq_of_lt hx]; exact h)
      have hm0 : ¬ (0 : Int) < (m : Int) := by omega
      clear he
      go_wp2
      go_ret
      exact ⟨ret_i (by rw [HE.out]; simp), rfl⟩
end Go.Proofs.Ytjpmfaodkldobaa
