/- Contracts of layer 4's functions: what Add, Sum and Join give, as plain functions on numbers and lists. -/
import Derived.Test.YtmpmioffngonjaaRows
import Derived.WalkKit
import Derived.ProofKit
import Derived.OpenShut
import Derived.Lib.Hide
namespace Go.Proofs.Ytmpmioffngonjaa
open Go.ChangeShapes Go.WideShapes Go.ChangeAt Go.RowKit
set_option linter.unusedVariables false
set_option maxRecDepth 100000

theorem ret_int {k : IntKind} {a b : Int} (h : a = b) : Ending.returned (.int k a) = .returned (.int k b) := by rw [h]

def stepA (p : Nat × Nat) (c : UInt8) : Nat × Nat := ((p.1 + c.toNat) % 65521, (p.2 + (p.1 + c.toNat) % 65521) % 65521)
def runA (a b : Nat) (l : List UInt8) : Nat × Nat := l.foldl stepA (a, b)
def addL (n : Nat) (l : List UInt8) : Nat := (runA (n % 65536 % 65521) (n / 65536 % 65521) l).2 * 65536 + (runA (n % 65536 % 65521) (n / 65536 % 65521) l).1

theorem runA_lt (a b : Nat) (l : List UInt8) (ha : a < 65521) (hb : b < 65521) : (runA a b l).1 < 65521 ∧ (runA a b l).2 < 65521 := by
  unfold runA
  induction l generalizing a b with
  | nil => exact ⟨ha, hb⟩
  | cons c l ih => exact ih _ _ (Nat.mod_lt _ (by decide)) (Nat.mod_lt _ (by decide))

theorem take_snoc (s : ByteArray) (k : Nat) (h : k < s.size) : s.data.toList.take (k + 1) = s.data.toList.take k ++ [s[k]] := by
  rw [List.take_succ_eq_append_getElem (by simpa using h)]; rfl

theorem runA_snoc (a b : Nat) (s : ByteArray) (k : Nat) (h : k < s.size) :
    runA a b (s.data.toList.take (k + 1)) = stepA (runA a b (s.data.toList.take k)) s[k] := by
  rw [take_snoc s k h]; unfold runA; rw [List.foldl_append]; rfl

set_option maxHeartbeats 400000 in
theorem add_any (n : Nat) (hn : n < 4294967296) (s : ByteArray) (hs : s.size ≤ maxLen) (w : World) :
    Calls Try.prog 77 #[.int .u32 n, .string s] w fun e w' => e = .returned (.int .u32 (addL n s.data.toList)) ∧ w = w' := by
  unfold maxLen at hs
  go_enter Try.func77, Try.ntmps77
  go_wp2
  go_loop [5, 6, 16] (fun x y i => ∃ k a b : Nat, k ≤ s.size ∧ i = .int .i64 k ∧ x = .int .u32 a ∧ y = .int .u32 b ∧ a < 65521 ∧ b < 65521 ∧ runA (n % 65536 % 65521) (n / 65536 % 65521) (s.data.toList.take k) = (a, b)) (fun _ _ i => s.size - (intOf i).toNat)
  case atStart => exact ⟨0, n % 65536 % 65521, n / 65536 % 65521, Nat.zero_le _, rfl, by go_num, by go_num, by omega, by omega, rfl⟩
  case round =>
    obtain ⟨k, a, b, hk, rfl, rfl, rfl, ha, hb, hr⟩ := hrel
    have HR := Lib.hid hr; clear hr
    by_cases hlt : k < s.size
    · have HS := Lib.hid (runA_snoc (n % 65536 % 65521) (n / 65536 % 65521) s k hlt)
      have hc : s[k].toNat < 256 := s[k].toNat_lt
      go_wp2
      go_round
      case rel => exact ⟨k + 1, (a + s[k].toNat) % 65521, (b + (a + s[k].toNat) % 65521) % 65521, by omega, by go_num, by go_num, by go_num, Nat.mod_lt _ (by decide), Nat.mod_lt _ (by decide), by rw [HS.out, HR.out]; rfl⟩
      case measure => simp [intOf]; omega
    · go_wp2
      go_ret
      exact ⟨ret_int (by
        have hl : s.data.toList.take k = s.data.toList := List.take_of_length_le (by simp; omega)
        have h := HR.out; rw [hl] at h
        unfold addL; rw [h]; omega), rfl⟩

set_option maxHeartbeats 400000 in
theorem refAdd_any (n : Nat) (hn : n < 4294967296) (s : ByteArray) (hs : s.size ≤ maxLen) (w : World) :
    Calls Try.prog 78 #[.int .u32 n, .string s] w fun e w' => e = .returned (.int .u32 (addL n s.data.toList)) ∧ w = w' := by
  unfold maxLen at hs
  go_enter Try.func78, Try.ntmps78
  go_wp2
  go_loop [5, 6, 7] (fun x y i => ∃ k a b : Nat, k ≤ s.size ∧ i = .int .i64 k ∧ x = .int .u32 a ∧ y = .int .u32 b ∧ a < 65521 ∧ b < 65521 ∧ runA (n % 65536 % 65521) (n / 65536 % 65521) (s.data.toList.take k) = (a, b)) (fun _ _ i => s.size - (intOf i).toNat)
  case atStart => exact ⟨0, n % 65536 % 65521, n / 65536 % 65521, Nat.zero_le _, rfl, by go_num, by go_num, by omega, by omega, rfl⟩
  case round =>
    obtain ⟨k, a, b, hk, rfl, rfl, rfl, ha, hb, hr⟩ := hrel
    have HR := Lib.hid hr; clear hr
    by_cases hlt : k < s.size
    · have HS := Lib.hid (runA_snoc (n % 65536 % 65521) (n / 65536 % 65521) s k hlt)
      have hc : s[k].toNat < 256 := s[k].toNat_lt
      go_wp2
      go_round
      case rel => exact ⟨k + 1, (a + s[k].toNat) % 65521, (b + (a + s[k].toNat) % 65521) % 65521, by omega, by go_num, by go_num, by go_num, Nat.mod_lt _ (by decide), Nat.mod_lt _ (by decide), by rw [HS.out, HR.out]; rfl⟩
      case measure => simp [intOf]; omega
    · go_wp2
      go_ret
      exact ⟨ret_int (by
        have hl : s.data.toList.take k = s.data.toList := List.take_of_length_le (by simp; omega)
        have h := HR.out; rw [hl] at h
        unfold addL; rw [h]; omega), rfl⟩

theorem sum_any (s : ByteArray) (hs : s.size ≤ maxLen) (w : World) :
    Calls Try.prog 67 #[.string s] w fun e w' => e = .returned (.int .u32 (addL 1 s.data.toList)) ∧ w = w' := by
  go_enter Try.func67, Try.ntmps67
  go_wp2_with (go_at_call 77; refine (add_any 1 (by decide) s hs _).mono ?_; rintro e w' ⟨rfl, rfl⟩)
  go_ret
  exact ⟨rfl, rfl⟩

theorem refSum_any (s : ByteArray) (hs : s.size ≤ maxLen) (w : World) :
    Calls Try.prog 68 #[.string s] w fun e w' => e = .returned (.int .u32 (addL 1 s.data.toList)) ∧ w = w' := by
  go_enter Try.func68, Try.ntmps68
  go_wp2_with (go_at_call 78; refine (refAdd_any 1 (by decide) s hs _).mono ?_; rintro e w' ⟨rfl, rfl⟩)
  go_ret
  exact ⟨rfl, rfl⟩

end Go.Proofs.Ytmpmioffngonjaa
