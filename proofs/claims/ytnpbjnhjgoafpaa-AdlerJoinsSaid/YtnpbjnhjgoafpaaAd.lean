/- Contracts of layer 4's functions: what Add, Sum and Join give, as plain functions on numbers and lists. -/
import Derived.Test.YtnpbjnhjgoafpaaRows
import Derived.WalkKit
import Derived.ProofKit
import Derived.OpenShut
import Derived.Lib.Hide
namespace Go.Proofs.Ytnpbjnhjgoafpaa
open Go.ChangeShapes Go.WideShapes Go.ChangeAt Go.RowKit
set_option linter.unusedVariables false

theorem ret_int {k : IntKind} {a b : Int} (h : a = b) : Ending.returned (.int k a) = .returned (.int k b) := by rw [h]

def stepA (p : Nat × Nat) (c : UInt8) : Nat × Nat := ((p.1 + c.toNat) % 65521, (p.2 + (p.1 + c.toNat) % 65521) % 65521)
def runA (a b : Nat) (l : List UInt8) : Nat × Nat := l.foldl stepA (a, b)
def addL (n : Nat) (l : List UInt8) : Nat := (runA (n % 65536 % 65521) (n / 65536 % 65521) l).2 * 65536 + (runA (n % 65536 % 65521) (n / 65536 % 65521) l).1

theorem runA_lt (a b : Nat) (l : List UInt8) (ha : a < 65521) (hb : b < 65521) : (runA a b l).1 < 65521 ∧ (runA a b l).2 < 65521 := by
  unfold runA
  induction l generalizing a b with
  | nil => exact ⟨ha, hb⟩
  | cons c l ih => exact ih _ _ (Nat.mod_lt _ (by decide)) (Nat.mod_lt _ (by decide))

theorem take_snoc (s : ByteArray) (k : Nat) (h : k < s.size) : s.data.toList.take (k + 1) = s.data.toList.take k ++ [s[k]] := by
  rw [List.take_succ_eq_append_getElem (by simpa using h)]; rfl

theorem runA_snoc (a b : Nat) (s : ByteArray) (k : Nat) (h : k < s.size) :
    runA a b (s.data.toList.take (k + 1)) = stepA (runA a b (s.data.toList.take k)) s[k] := by
  rw [take_snoc s k h]; unfold runA; rw [List.foldl_append]; rfl

set_option maxHeartbeats 400000 in
theorem add_any (n : Nat) (hn : n < 4294967296) (s : ByteArray) (hs : s.size ≤ maxLen) (w : World) :
    Calls Try.prog 43 #[.int .u32 n, .string s] w fun e w' => e = .returned (.int .u32 (addL n s.data.toList)) ∧ w = w' := by
  unfold maxLen at hs
  go_enter Try.func43, Try.ntmps43
  go_wp2
  go_loop [5, 6, 16] (fun x y i => ∃ k a b : Nat, k ≤ s.size ∧ i = .int .i64 k ∧ x = .int .u32 a ∧ y = .int .u32 b ∧ a < 65521 ∧ b < 65521 ∧ runA (n % 65536 % 65521) (n / 65536 % 65521) (s.data.toList.take k) = (a, b)) (fun _ _ i => s.size - (intOf i).toNat)
  case atStart => exact ⟨0, n % 65536 % 65521, n / 65536 % 65521, Nat.zero_le _, rfl, by go_num, by go_num, by omega, by omega, rfl⟩
  case round =>
    obtain ⟨k, a, b, hk, rfl, rfl, rfl, ha, hb, hr⟩ := hrel
    have HR := Lib.hid hr; clear hr
    by_cases hlt : k < s.size
    · have HS := Lib.hid (runA_snoc (n % 65536 % 65521) (n / 65536 % 65521) s k hlt)
      have hc : s[k].toNat < 256 := s[k].toNat_lt
      go_wp2
      go_round
      case rel => exact ⟨k + 1, (a + s[k].toNat) % 65521, (b + (a + s[k].toNat) % 65521) % 65521, by omega, by go_num, by go_num, by go_num, Nat.mod_lt _ (by decide), Nat.mod_lt _ (by decide), by rw [HS.out, HR.out]; rfl⟩
      case measure => simp [intOf]; omega
    · go_wp2
      go_ret
      exact ⟨ret_int (by
        have hl : s.data.toList.take k = s.data.toList := List.take_of_length_le (by simp; omega)
        have h := HR.out; rw [hl] at h
        unfold addL; rw [h]; omega), rfl⟩

set_option maxHeartbeats 400000 in
theorem refAdd_any (n : Nat) (hn : n < 4294967296) (s : ByteArray) (hs : s.size ≤ maxLen) (w : World) :
    Calls Try.prog 44 #[.int .u32 n, .string s] w fun e w' => e = .returned (.int .u32 (addL n s.data.toList)) ∧ w = w' := by
  unfold maxLen at hs
  go_enter Try.func44, Try.ntmps44
  go_wp2
  go_loop [5, 6, 7] (fun x y i => ∃ k a b : Nat, k ≤ s.size ∧ i = .int .i64 k ∧ x = .int .u32 a ∧ y = .int .u32 b ∧ a < 65521 ∧ b < 65521 ∧ runA (n % 65536 % 65521) (n / 65536 % 65521) (s.data.toList.take k) = (a, b)) (fun _ _ i => s.size - (intOf i).toNat)
  case atStart => exact ⟨0, n % 65536 % 65521, n / 65536 % 65521, Nat.zero_le _, rfl, by go_num, by go_num, by omega, by omega, rfl⟩
  case round =>
    obtain ⟨k, a, b, hk, rfl, rfl, rfl, ha, hb, hr⟩ := hrel
    have HR := Lib.hid hr; clear hr
    by_cases hlt : k < s.size
    · have HS := Lib.hid (runA_snoc (n % 65536 % 65521) (n / 65536 % 65521) s k hlt)
      have hc : s[k].toNat < 256 := s[k].toNat_lt
      go_wp2
      go_round
      case rel => exact ⟨k + 1, (a + s[k].toNat) % 65521, (b + (a + s[k].toNat) % 65521) % 65521, by omega, by go_num, by go_num, by go_num, Nat.mod_lt _ (by decide), Nat.mod_lt _ (by decide), by rw [HS.out, HR.out]; rfl⟩
      case measure => simp [intOf]; omega
    · go_wp2
      go_ret
      exact ⟨ret_int (by
        have hl : s.data.toList.take k = s.data.toList := List.take_of_length_le (by simp; omega)
        have h := HR.out; rw [hl] at h
        unfold addL; rw [h]; omega), rfl⟩

theorem sum_any (s : ByteArray) (hs : s.size ≤ maxLen) (w : World) :
    Calls Try.prog 41 #[.string s] w fun e w' => e = .returned (.int .u32 (addL 1 s.data.toList)) ∧ w = w' := by
  go_enter Try.func41, Try.ntmps41
  go_wp2_with (go_at_call 43; refine (add_any 1 (by decide) s hs _).mono ?_; rintro e w' ⟨rfl, rfl⟩)
  go_ret
  exact ⟨rfl, rfl⟩

theorem refSum_any (s : ByteArray) (hs : s.size ≤ maxLen) (w : World) :
    Calls Try.prog 42 #[.string s] w fun e w' => e = .returned (.int .u32 (addL 1 s.data.toList)) ∧ w = w' := by
  go_enter Try.func42, Try.ntmps42
  go_wp2_with (go_at_call 44; refine (refAdd_any 1 (by decide) s hs _).mono ?_; rintro e w' ⟨rfl, rfl⟩)
  go_ret
  exact ⟨rfl, rfl⟩

/-- What Join gives: of two sums and a number of bytes that is cut already. -/
def joinN (a b k : Nat) : Nat := ((a / 65536 + b / 65536 + k * ((a % 65536 + 65520) % 65521)) % 65521) * 65536 + (a % 65536 + 65520 + b % 65536) % 65521


theorem mul_in (x y A B : Int) (hx : 0 ≤ x) (hx1 : x ≤ A) (hy : 0 ≤ y) (hy1 : y ≤ B) : 0 ≤ x * y ∧ x * y ≤ A * B :=
  ⟨Int.mul_nonneg hx hy, Int.mul_le_mul hx1 hy1 hy (Int.le_trans hx hx1)⟩


theorem fin_pos (a b P : Nat) : ((a : Int) / 65536 + (b : Int) / 65536 + (P : Int)) % 65521 * 65536 + ((a : Int) % 65536 + 65521 - 1 + (b : Int) % 65536) % 65521 =
    (((a / 65536 + b / 65536 + P) % 65521 * 65536 + (a % 65536 + 65520 + b % 65536) % 65521 : Nat) : Int) := by omega
theorem fin_neg (a b P : Nat) : ((a : Int) / 65536 + (b : Int) / 65536) % 65521 * 65536 + ((a : Int) % 65536 + 65521 - 1 + (b : Int) % 65536) % 65521 =
    (((a / 65536 + b / 65536 + 0 * P) % 65521 * 65536 + (a % 65536 + 65520 + b % 65536) % 65521 : Nat) : Int) := by omega
theorem fin_low (a b : Nat) : ((a : Int) % 65536 % 65521 + (b : Int) % 65536 % 65521 + 65520) % 65521 = (((a % 65536 + 65520 + b % 65536) % 65521 : Nat) : Int) := by omega
theorem fin_high (a b P Q : Nat) (h : Q % 65521 = P % 65521) (ha : a < 4294967296) (hb : b < 4294967296) : ((a : Int) / 65536 % 65521 + (b : Int) / 65536 % 65521 + (Q : Int)) % 65521 = (((a / 65536 + b / 65536 + P) % 65521 : Nat) : Int) := by omega
theorem fin_rneg (a b P : Nat) (ha : a < 4294967296) (hb : b < 4294967296) : ((a : Int) / 65536 + (b : Int) / 65536) % 65521 * 65536 + ((a : Int) % 65536 % 65521 + (b : Int) % 65536 % 65521 + 65520) % 65521 =
    (((a / 65536 + b / 65536 + 0 * P) % 65521 * 65536 + (a % 65536 + 65520 + b % 65536) % 65521 : Nat) : Int) := by
  rw [fin_low]; omega

theorem prod_cast (a n : Nat) : (n : Int) % 65521 * (((a : Int) % 65536 + 65521 - 1) % 65521) = ((n % 65521 * ((a % 65536 + 65520) % 65521) : Nat) : Int) := by
  rw [Int.natCast_mul]
  have e1 : ((n % 65521 : Nat) : Int) = (n : Int) % 65521 := by omega
  have e2 : (((a % 65536 + 65520) % 65521 : Nat) : Int) = ((a : Int) % 65536 + 65521 - 1) % 65521 := by omega
  rw [e1, e2]

theorem prod_cast' (a n : Nat) : (n : Int) % 65521 * ((a : Int) % 65536 % 65521 + 65520) = ((n % 65521 * (a % 65536 % 65521 + 65520) : Nat) : Int) := by
  rw [Int.natCast_mul]
  have e1 : ((n % 65521 : Nat) : Int) = (n : Int) % 65521 := by omega
  have e2 : ((a % 65536 % 65521 + 65520 : Nat) : Int) = (a : Int) % 65536 % 65521 + 65520 := by omega
  rw [e1, e2]

theorem prod_mod (a n : Nat) : (n % 65521 * (a % 65536 % 65521 + 65520)) % 65521 = (n % 65521 * ((a % 65536 + 65520) % 65521)) % 65521 := by
  rw [Nat.mul_mod, Nat.mul_mod (n % 65521) ((a % 65536 + 65520) % 65521)]
  have e : (a % 65536 % 65521 + 65520) % 65521 = (a % 65536 + 65520) % 65521 % 65521 := by omega
  rw [e]

set_option maxHeartbeats 400000 in
theorem join_pos (a b n : Nat) (ha : a < 4294967296) (hb : b < 4294967296) (h1 : n ≤ 9223372036854775807) (w : World) :
    Calls Try.prog 45 #[.int .u32 a, .int .u32 b, .int .i64 n] w fun e w' => e = .returned (.int .u32 (joinN a b (n % 65521))) ∧ w = w' := by
  have hm := mul_in ((n : Int) % 65521) (((a : Int) % 65536 + 65521 - 1) % 65521) 65520 65520 (by omega) (by omega) (by omega) (by omega)
  obtain ⟨hm0, hm1⟩ := hm
  have hm2 : (n : Int) % 65521 * (((a : Int) % 65536 + 65521 - 1) % 65521) ≤ 4292870400 := hm1
  clear hm1
  go_enter Try.func45, Try.ntmps45
  go_wp2
  go_ret
  refine ⟨ret_int ?_, rfl⟩
  unfold joinN
  rw [prod_cast]
  exact fin_pos a b _

set_option maxRecDepth 100000 in
set_option maxHeartbeats 400000 in
theorem refJoin_pos (a b n : Nat) (ha : a < 4294967296) (hb : b < 4294967296) (h1 : n ≤ 9223372036854775807) (w : World) :
    Calls Try.prog 46 #[.int .u32 a, .int .u32 b, .int .i64 n] w fun e w' => e = .returned (.int .u32 (joinN a b (n % 65521))) ∧ w = w' := by
  have hm := mul_in ((n : Int) % 65521) ((a : Int) % 65536 % 65521 + 65520) 65520 131040 (by omega) (by omega) (by omega) (by omega)
  obtain ⟨hm0, hm1⟩ := hm
  have hm2 : (n : Int) % 65521 * ((a : Int) % 65536 % 65521 + 65520) ≤ 8585740800 := hm1
  clear hm1
  go_enter Try.func46, Try.ntmps46
  go_wp2
  go_ret
  refine ⟨ret_int ?_, rfl⟩
  unfold joinN
  rw [prod_cast']
  rw [fin_low, fin_high a b _ _ (prod_mod a n) ha hb]
  simp only [Int.natCast_add, Int.natCast_mul]
  rfl

set_option maxHeartbeats 400000 in
theorem join_neg (a b : Nat) (n : Int) (ha : a < 4294967296) (hb : b < 4294967296) (h1 : n < 0) (w : World) :
    Calls Try.prog 45 #[.int .u32 a, .int .u32 b, .int .i64 n] w fun e w' => e = .returned (.int .u32 (joinN a b 0)) ∧ w = w' := by
  go_enter Try.func45, Try.ntmps45
  go_wp2
  go_ret
  refine ⟨ret_int ?_, rfl⟩
  unfold joinN
  exact fin_neg a b _

set_option maxRecDepth 100000 in
set_option maxHeartbeats 400000 in
theorem refJoin_neg (a b : Nat) (n : Int) (ha : a < 4294967296) (hb : b < 4294967296) (h1 : n < 0) (w : World) :
    Calls Try.prog 46 #[.int .u32 a, .int .u32 b, .int .i64 n] w fun e w' => e = .returned (.int .u32 (joinN a b 0)) ∧ w = w' := by
  go_enter Try.func46, Try.ntmps46
  go_wp2
  go_ret
  refine ⟨ret_int ?_, rfl⟩
  unfold joinN
  exact fin_rneg a b _ ha hb


theorem join_any (a b : Nat) (n : Int) (ha : a < 4294967296) (hb : b < 4294967296) (h1 : n ≤ 9223372036854775807) (w : World) :
    Calls Try.prog 45 #[.int .u32 a, .int .u32 b, .int .i64 n] w fun e w' => e = .returned (.int .u32 (joinN a b (n.toNat % 65521))) ∧ w = w' := by
  by_cases h : n < 0
  · rw [Int.toNat_of_nonpos (by omega)]; exact join_neg a b n ha hb h w
  · obtain ⟨m, rfl⟩ := Int.eq_ofNat_of_zero_le (by omega : 0 ≤ n)
    exact join_pos a b m ha hb (by omega) w

theorem refJoin_any (a b : Nat) (n : Int) (ha : a < 4294967296) (hb : b < 4294967296) (h1 : n ≤ 9223372036854775807) (w : World) :
    Calls Try.prog 46 #[.int .u32 a, .int .u32 b, .int .i64 n] w fun e w' => e = .returned (.int .u32 (joinN a b (n.toNat % 65521))) ∧ w = w' := by
  by_cases h : n < 0
  · rw [Int.toNat_of_nonpos (by omega)]; exact refJoin_neg a b n ha hb h w
  · obtain ⟨m, rfl⟩ := Int.eq_ofNat_of_zero_le (by omega : 0 ≤ n)
    exact refJoin_pos a b m ha hb (by omega) w

theorem awake4 (w : World) : Calls Try.prog 40 #[] w fun e w' => e = .returned (.bool true) ∧ w = w' := by
  have c1 := fun w => sum_any ⟨#[]⟩ (by decide) w
  have c2 := fun w => sum_any ⟨#[97]⟩ (by decide) w
  have c3 := fun w => add_any 1 (by decide) ⟨#[97]⟩ (by decide) w
  have c4 := fun w => join_any 1 6422626 1 (by decide) (by decide) (by decide) w
  rw [show addL 1 (⟨#[]⟩ : ByteArray).data.toList = 1 from by decide] at c1
  rw [show addL 1 (⟨#[97]⟩ : ByteArray).data.toList = 6422626 from by decide] at c2 c3
  rw [show joinN 1 6422626 ((1 : Int).toNat % 65521) = 6422626 from by decide] at c4
  have C1 := Lib.hid c1; clear c1
  have C2 := Lib.hid c2; clear c2
  have C3 := Lib.hid c3; clear c3
  have C4 := Lib.hid c4; clear c4
  go_enter Try.func40, Try.ntmps40
  go_wp2_with fail
  refine (C1.out _).mono ?_; rintro e w' ⟨rfl, rfl⟩
  go_wp2_with fail
  refine (C2.out _).mono ?_; rintro e w' ⟨rfl, rfl⟩
  go_wp2_with fail
  refine (C3.out _).mono ?_; rintro e w' ⟨rfl, rfl⟩
  go_wp2_with fail
  refine (C4.out _).mono ?_; rintro e w' ⟨rfl, rfl⟩
  go_wp2_with fail
  go_ret
  exact ⟨rfl, rfl⟩
end Go.Proofs.Ytnpbjnhjgoafpaa
