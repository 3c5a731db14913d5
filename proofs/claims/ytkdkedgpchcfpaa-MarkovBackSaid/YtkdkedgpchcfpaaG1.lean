/- Layer 45: the leaves: chances, spans. -/
import Derived.Test.YtkdkedgpchcfpaaK4
import Derived.Test.YtkdkedgpchcfpaaGa
import Derived.IntWalk
namespace Go.Proofs.Ytkdkedgpchcfpaa
open Go.ChangeShapes Go.WideShapes Go.ChangeAt Go.RowKit
set_option linter.unusedVariables false
set_option maxRecDepth 100000
open Range

def okB (p : Int) : Bool := decide (1 ≤ p) && decide (p ≤ 2047)
theorem okB_yes {p : Int} (h : okB p = true) : 1 ≤ p ∧ p ≤ 2047 := by
  unfold okB at h; simpa using h
theorem okB_no {p : Int} (h : okB p = false) : p < 1 ∨ 2047 < p := by
  unfold okB at h
  by_cases h1 : 1 ≤ p
  · right; simp [h1] at h; exact h
  · left; omega
theorem gChance (p : Int) (w : World) : Calls Try.prog 53 #[.int .i64 p] w fun e w' => e = .returned (.bool (okB p)) ∧ w' = w := by
  obtain ⟨B, hB⟩ : ∃ B, okB p = B := ⟨_, rfl⟩
  rw [hB]
  cases B with
  | true =>
    have h := okB_yes hB
    have h1 := h.1
    have h2 : p < 2048 := by omega
    clear h hB
    go_enter Try.func53, Try.ntmps53
    go_wp2
    go_ret
    exact ⟨rfl, rfl⟩
  | false =>
    rcases okB_no hB with h | h
    · have h1 : ¬ 1 ≤ p := by omega
      clear hB
      go_enter Try.func53, Try.ntmps53
      go_wp2
      go_ret
      exact ⟨rfl, rfl⟩
    · have h1 : 1 ≤ p := by omega
      have h2 : ¬ p < 2048 := by omega
      clear hB
      go_enter Try.func53, Try.ntmps53
      go_wp2
      go_ret
      exact ⟨rfl, rfl⟩
theorem gFits (p : Int) (w : World) : Calls Try.prog 54 #[.int .i64 p] w fun e w' => e = .returned (.bool (okB p)) ∧ w' = w := by
  obtain ⟨B, hB⟩ : ∃ B, okB p = B := ⟨_, rfl⟩
  rw [hB]
  cases B with
  | true =>
    have h := okB_yes hB
    have h1 := h.1
    have h2 := h.2
    clear h hB
    go_enter Try.func54, Try.ntmps54
    go_wp2
    go_ret
    exact ⟨rfl, rfl⟩
  | false =>
    rcases okB_no hB with h | h
    · have h1 : ¬ 1 ≤ p := by omega
      clear hB
      go_enter Try.func54, Try.ntmps54
      go_wp2
      go_ret
      exact ⟨rfl, rfl⟩
    · have h1 : 1 ≤ p := by omega
      have h2 : ¬ p ≤ 2047 := by omega
      clear hB
      go_enter Try.func54, Try.ntmps54
      go_wp2
      go_ret
      exact ⟨rfl, rfl⟩
theorem all_take (l : List Int) (k : Nat) (h : k < l.length) (ht : (l.take k).all okB = true) : (l.take (k + 1)).all okB = okB (l.getD k 0) := by
  rw [take_getD l k h, List.all_append, ht]; simp
theorem all_no (l : List Int) (k : Nat) (h : k < l.length) (hf : okB (l.getD k 0) = false) : l.all okB = false := by
  have e : l = l.take k ++ l.getD k 0 :: l.drop (k + 1) := by rw [← drop_getD l k h, List.take_append_drop]
  rw [e, List.all_append, List.all_cons, hf]; simp
set_option maxHeartbeats 800000 in
theorem gChances (a : Option Addr) (c : Nat) (l : List Int) (w : World) (h : IsInts w a l) :
    Calls Try.prog 41 #[.slice a l.length c] w fun e w' => e = .returned (.bool (l.all okB)) ∧ w' = w := by
  have HI := Lib.hid h
  have hl := h.1
  clear h
  go_enter Try.func41, Try.ntmps41
  go_wp2
  go_loop [7] (fun i => ∃ k : Nat, k ≤ l.length ∧ i = .int .i64 k ∧ Hid ((l.take k).all okB = true)) (fun i => l.length - (intOf i).toNat)
  case atStart => exact ⟨0, Nat.zero_le _, rfl, Lib.hid rfl⟩
  case round =>
    obtain ⟨k, hk, rfl, hall⟩ := hrel
    by_cases hlt : k < l.length
    · obtain ⟨x, rfl, hxb, hc⟩ := HI.out.at k hlt
      have cx := hc k hlt
      have HA := Lib.hid (all_take l k hlt hall.out)
      have HN := fun h => Lib.hid (all_no l k hlt h)
      obtain ⟨Z, hZ⟩ : ∃ Z, l.getD k 0 = Z := ⟨_, rfl⟩
      rw [hZ] at cx HA HN
      have C := Lib.hid (fun w => gChance Z w)
      obtain ⟨B, hB⟩ : ∃ B, okB Z = B := ⟨_, rfl⟩
      rw [hB] at C HA HN
      clear hZ hB hc
      cases B with
      | true =>
        clear HN
        go_wp2_with fail
        refine (C.out _).mono ?_; rintro e w1 ⟨rfl, rfl⟩
        go_wp2_with fail
        go_round
        case rel => exact ⟨k + 1, by omega, by go_num, Lib.hid HA.out⟩
        case measure => simp [intOf]; omega
      | false =>
        have HN2 := HN rfl
        clear HN
        go_wp2_with fail
        refine (C.out _).mono ?_; rintro e w1 ⟨rfl, rfl⟩
        go_wp2_with fail
        go_ret
        exact ⟨ret_b HN2.out.symm, rfl⟩
    · obtain rfl : k = l.length := by omega
      have HT := Lib.hid (show l.all okB = true by have := hall.out; rwa [List.take_length] at this)
      go_wp2
      go_ret
      exact ⟨ret_b HT.out.symm, rfl⟩
set_option maxHeartbeats 800000 in
theorem gFine (a : Option Addr) (c : Nat) (l : List Int) (w : World) (h : IsInts w a l) :
    Calls Try.prog 48 #[.slice a l.length c] w fun e w' => e = .returned (.bool (l.all okB)) ∧ w' = w := by
  have HI := Lib.hid h
  have hl := h.1
  clear h
  go_enter Try.func48, Try.ntmps48
  go_wp2
  go_loop [3] (fun i => ∃ k : Nat, k ≤ l.length ∧ i = .int .i64 k ∧ Hid ((l.take k).all okB = true)) (fun i => l.length - (intOf i).toNat)
  case atStart => exact ⟨0, Nat.zero_le _, rfl, Lib.hid rfl⟩
  case round =>
    obtain ⟨k, hk, rfl, hall⟩ := hrel
    by_cases hlt : k < l.length
    · obtain ⟨x, rfl, hxb, hc⟩ := HI.out.at k hlt
      have cx := hc k hlt
      have HA := Lib.hid (all_take l k hlt hall.out)
      have HN := fun h => Lib.hid (all_no l k hlt h)
      obtain ⟨Z, hZ⟩ : ∃ Z, l.getD k 0 = Z := ⟨_, rfl⟩
      rw [hZ] at cx HA HN
      have C := Lib.hid (fun w => gFits Z w)
      obtain ⟨B, hB⟩ : ∃ B, okB Z = B := ⟨_, rfl⟩
      rw [hB] at C HA HN
      clear hZ hB hc
      cases B with
      | true =>
        clear HN
        go_wp2_with fail
        refine (C.out _).mono ?_; rintro e w1 ⟨rfl, rfl⟩
        go_wp2_with fail
        go_round
        case rel => exact ⟨k + 1, by omega, by go_num, Lib.hid HA.out⟩
        case measure => simp [intOf]; omega
      | false =>
        have HN2 := HN rfl
        clear HN
        go_wp2_with fail
        refine (C.out _).mono ?_; rintro e w1 ⟨rfl, rfl⟩
        go_wp2_with fail
        go_ret
        exact ⟨ret_b HN2.out.symm, rfl⟩
    · obtain rfl : k = l.length := by omega
      have HT := Lib.hid (show l.all okB = true by have := hall.out; rwa [List.take_length] at this)
      go_wp2
      go_ret
      exact ⟨ret_b HT.out.symm, rfl⟩
/-- A span's value. -/
def spV (a b : Nat) : Value := .agg #[.int .u32 a, .int .u32 b]
theorem gAll (w : World) : Calls Try.prog 42 #[] w fun e w' => e = .returned (.agg #[.int .u32 0, .int .u32 4294967295]) ∧ Below w.heap.size w w' := by
  go_enter Try.func42, Try.ntmps42
  go_wp2
  exact bodyPost_ret (v := .agg #[_, _]) (by simp [results, Try.results42, go_sem]) rfl ⟨rfl, by go_grown⟩
theorem mid_int (a b p : Nat) (h : a ≤ b) (hb : b < 4294967296) (hp : p ≤ 2047) : ((a : Int) + ((b : Int) - a) / 2048 * p % 4294967296) % 4294967296 = (mid a b p : Nat) := by
  have h2 := (mid_le a b p h (by omega)).2.2.2
  have e1 : ((b : Int) - a) / 2048 = (((b - a) / 2048 : Nat) : Int) := by omega
  unfold mid
  rw [e1, ← Int.natCast_mul]
  generalize (b - a) / 2048 * p = q at *
  omega
theorem gMiddle (a b p : Nat) (h : a ≤ b) (hb : b < 4294967296) (hp : p ≤ 2047) (w : World) : Calls Try.prog 45 #[.agg #[.int .u32 a, .int .u32 b], .int .i64 p] w fun e w' =>
    e = .returned (.int .u32 (mid a b p : Nat)) ∧ w' = w.alloc (.cells #[.int .u32 a, .int .u32 b] 78) := by
  have HE := Lib.hid (mid_int a b p h hb hp)
  go_enter Try.func45, Try.ntmps45
  go_wp2
  go_ret
  exact ⟨ret_i HE.out, rfl⟩
def sett (a b : Nat) : Bool := decide (a / 16777216 = b / 16777216)
theorem gSettled (a b : Nat) (ha : a < 4294967296) (hb : b < 4294967296) (w : World) : Calls Try.prog 46 #[.agg #[.int .u32 a, .int .u32 b]] w fun e w' =>
    e = .returned (.bool (sett a b)) ∧ w' = w.alloc (.cells #[.int .u32 a, .int .u32 b] 78) := by
  have HE := Lib.hid (show ((a : Int) / 16777216 == (b : Int) / 16777216) = sett a b by
    unfold sett; rw [Bool.eq_iff_iff, beq_iff_eq, decide_eq_true_iff]; omega)
  go_enter Try.func46, Try.ntmps46
  go_wp2
  go_ret
  exact ⟨ret_b HE.out, rfl⟩
theorem gWithout (a b : Nat) (ha : a < 4294967296) (hb : b < 4294967296) (w : World) : Calls Try.prog 47 #[.agg #[.int .u32 a, .int .u32 b]] w fun e w' =>
    e = .returned (.agg #[.int .u32 (a % 16777216 * 256 : Nat), .int .u32 (b % 16777216 * 256 + 255 : Nat)]) ∧
    w' = (w.alloc (.cells #[.int .u32 a, .int .u32 b] 78)).alloc (.cells #[.int .u32 (a % 16777216 * 256 : Nat), .int .u32 (b % 16777216 * 256 + 255 : Nat)] 78) := by
  have H1 := Lib.hid (show (a : Int) * 256 % 4294967296 = ((a % 16777216 * 256 : Nat) : Int) by omega)
  have H2 := Lib.hid (show (b : Int) * 256 % 4294967296 + 255 = ((b % 16777216 * 256 + 255 : Nat) : Int) by omega)
  go_enter Try.func47, Try.ntmps47
  go_wp2
  rw [H1.out, H2.out]
  exact bodyPost_ret (v := .agg #[.int .u32 (a % 16777216 * 256 : Nat), .int .u32 (b % 16777216 * 256 + 255 : Nat)]) (by simp [results, Try.results47, go_sem]) rfl ⟨rfl, rfl⟩
theorem gOfX (a b m : Nat) (bit : Bool) (ha : a < 4294967296) (hb : b < 4294967296) (hm : bit = true → m < b) (hm2 : m < 4294967296) (w : World) : Calls Try.prog 44 #[.agg #[.int .u32 a, .int .u32 b], .bool bit, .int .u32 m] w fun e w' =>
    e = .returned (.agg #[.int .u32 ((if bit then m + 1 else a : Nat) : Int), .int .u32 ((if bit then b else m : Nat) : Int)]) ∧
    w' = (w.alloc (.cells #[.int .u32 a, .int .u32 b] 78)).alloc (.cells #[.int .u32 ((if bit then m + 1 else a : Nat) : Int), .int .u32 ((if bit then b else m : Nat) : Int)] 78) := by
  cases bit with
  | true =>
    have hm := hm rfl
    go_enter Try.func44, Try.ntmps44
    go_wp2
    exact bodyPost_ret (v := .agg #[.int .u32 ((m : Int) + 1), .int .u32 (b : Int)]) (by simp [results, Try.results44, go_sem]) rfl ⟨by simp, by simp⟩
  | false =>
    clear hm
    go_enter Try.func44, Try.ntmps44
    go_wp2
    exact bodyPost_ret (v := .agg #[.int .u32 (a : Int), .int .u32 (m : Int)]) (by simp [results, Try.results44, go_sem]) rfl ⟨by simp, by simp⟩
theorem gOf (a b m : Nat) (bit : Bool) (ha : a < 4294967296) (hb : b < 4294967296) (hm : bit = true → m < b) (hm2 : m < 4294967296) (w : World) : Calls Try.prog 44 #[.agg #[.int .u32 a, .int .u32 b], .bool bit, .int .u32 m] w fun e w' =>
    e = .returned (.agg #[.int .u32 ((if bit then m + 1 else a : Nat) : Int), .int .u32 ((if bit then b else m : Nat) : Int)]) ∧ Below w.heap.size w w' ∧ w'.heap.size = w.heap.size + 2 := by
  refine (gOfX a b m bit ha hb hm hm2 w).mono ?_
  rintro e w1 ⟨rfl, rfl⟩
  exact ⟨rfl, by go_grown, by simp⟩
end Go.Proofs.Ytkdkedgpchcfpaa
