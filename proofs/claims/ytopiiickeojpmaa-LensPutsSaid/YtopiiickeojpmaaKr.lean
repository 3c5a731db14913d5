import Derived.Test.YtopiiickeojpmaaJ01
import Derived.Test.YtopiiickeojpmaaKm
import Derived.IntWalk
/- Layer 6: contracts. -/
namespace Go.Proofs.Ytopiiickeojpmaa
open Go.ChangeShapes Go.WideShapes Go.ChangeAt Go.RowKit
set_option linter.unusedVariables false
set_option maxRecDepth 100000
open KraftMath

/-- A slice of numbers that can be read. -/
theorem take_succ_getD (l : List Int) (k : Nat) (h : k < l.length) : l.take (k + 1) = l.take k ++ [l.getD k 0] := by
  rw [List.take_succ_eq_append_getElem h]; simp [List.getD_eq_getElem?_getD, h]
theorem used_succ (l : List Int) (k : Nat) (h : k < l.length) : used (l.take (k + 1)) = used (l.take k) + if 0 < l.getD k 0 then 1 else 0 := by
  rw [take_succ_getD l k h, used_append]; simp [used]
theorem ksum_succ' (m : Nat) (l : List Int) (k : Nat) (h : k < l.length) : ksum m (l.take (k + 1)) = ksum m (l.take k) + KraftMath.part m (l.getD k 0) := by
  rw [take_succ_getD l k h, ksum_append]; simp [ksum]
theorem used_take_le (l : List Int) (k : Nat) : used (l.take k) ≤ k := Nat.le_trans (used_le _) (List.length_take_le ..)
theorem may_yes (n : Int) (h : 1 ≤ n) (h' : n ≤ 16) (w : World) : Calls Try.prog 65 #[.int .i64 n] w fun e w' => e = .returned (.bool true) ∧ w' = w := by
  go_enter Try.func65, Try.ntmps65
  go_wp2
  go_ret
  exact ⟨rfl, rfl⟩
theorem may_no (n : Int) (h : n < 1 ∨ 16 < n) (w : World) : Calls Try.prog 65 #[.int .i64 n] w fun e w' => e = .returned (.bool false) ∧ w' = w := by
  rcases h with h | h
  · go_enter Try.func65, Try.ntmps65
    go_wp2
    go_ret
    exact ⟨rfl, rfl⟩
  · have h1 : 1 ≤ n := by omega
    have h2 : decide (n ≤ 16) = false := by rw [decide_eq_false_iff_not]; omega
    go_enter Try.func65, Try.ntmps65
    go_wp2
    go_ret
    exact ⟨rfl, rfl⟩
set_option maxHeartbeats 800000 in
theorem kUsed (a : Option Addr) (cap : Nat) (zs : List Int) (w : World) (h : IsInts w a zs) : Calls Try.prog 58 #[.slice a zs.length cap] w fun e w' => e = .returned (.int .i64 (used zs)) ∧ w' = w := by
  obtain ⟨hl, h⟩ := h
  have HF : Hid (used (zs.take zs.length) = used zs) := by show _ = _; rw [List.take_length]
  have HU := Lib.hid (used_succ zs); have HT := Lib.hid (used_take_le zs)
  rcases h with rfl | ⟨x, rfl, hc⟩
  · go_enter Try.func58, Try.ntmps58
    go_wp2
    refine wp_loop_rounds 1 ?_
    rw [rounds_succ]
    go_wp2
    go_ret
    exact ⟨rfl, rfl⟩
  have HC := Lib.hid hc; clear hc
  go_enter Try.func58, Try.ntmps58
  go_wp2
  go_loop [3, 8] (fun n i => ∃ k : Nat, k ≤ zs.length ∧ i = .int .i64 k ∧ n = .int .i64 (used (zs.take k))) (fun _ i => zs.length - (intOf i).toNat)
  case atStart => exact ⟨0, Nat.zero_le _, rfl, rfl⟩
  case round =>
    obtain ⟨k, hk, rfl, rfl⟩ := hrel
    by_cases hlt : k < zs.length
    · have hcell := HC.out k hlt
      have hs := HU.out k hlt
      have ht := HT.out k
      obtain ⟨z, hz⟩ : ∃ z, zs.getD k 0 = z := ⟨_, rfl⟩
      obtain ⟨U, hU⟩ : ∃ U, used (zs.take k) = U := ⟨_, rfl⟩
      rw [hz] at hcell hs
      rw [hU] at hs ht ⊢
      by_cases hz0 : 0 < z
      · rw [if_pos hz0] at hs
        have HS := Lib.hid hs; clear hs hz hU
        go_wp2
        go_round
        case rel => exact ⟨k + 1, by omega, by go_num, by rw [HS.out]; go_num⟩
        case measure => simp [intOf]; omega
      · rw [if_neg hz0] at hs
        have HS := Lib.hid hs; clear hs hz hU
        go_wp2
        go_round
        case rel => exact ⟨k + 1, by omega, by go_num, by rw [HS.out]; rfl⟩
        case measure => simp [intOf]; omega
    · obtain rfl : k = zs.length := by omega
      go_wp2
      go_ret
      exact ⟨rfl, rfl⟩
set_option maxHeartbeats 800000 in
theorem rUsed (a : Option Addr) (cap : Nat) (zs : List Int) (w : World) (h : IsInts w a zs) : Calls Try.prog 78 #[.slice a zs.length cap] w fun e w' => e = .returned (.int .i64 (used zs)) ∧ w' = w := by
  obtain ⟨hl, h⟩ := h
  have HF : Hid (used (zs.take zs.length) = used zs) := by show _ = _; rw [List.take_length]
  have HU := Lib.hid (used_succ zs); have HT := Lib.hid (used_take_le zs)
  rcases h with rfl | ⟨x, rfl, hc⟩
  · go_enter Try.func78, Try.ntmps78
    go_wp2
    refine wp_loop_rounds 1 ?_
    rw [rounds_succ]
    go_wp2
    go_ret
    exact ⟨rfl, rfl⟩
  have HC := Lib.hid hc; clear hc
  go_enter Try.func78, Try.ntmps78
  go_wp2
  go_loop [3, 4] (fun n i => ∃ k : Nat, k ≤ zs.length ∧ i = .int .i64 k ∧ n = .int .i64 (used (zs.take k))) (fun _ i => zs.length - (intOf i).toNat)
  case atStart => exact ⟨0, Nat.zero_le _, rfl, rfl⟩
  case round =>
    obtain ⟨k, hk, rfl, rfl⟩ := hrel
    by_cases hlt : k < zs.length
    · have hcell := HC.out k hlt
      have hs := HU.out k hlt
      have ht := HT.out k
      obtain ⟨z, hz⟩ : ∃ z, zs.getD k 0 = z := ⟨_, rfl⟩
      obtain ⟨U, hU⟩ : ∃ U, used (zs.take k) = U := ⟨_, rfl⟩
      rw [hz] at hcell hs
      rw [hU] at hs ht ⊢
      by_cases hz0 : 0 < z
      · rw [if_pos hz0] at hs
        have HS := Lib.hid hs; clear hs hz hU
        go_wp2
        go_round
        case rel => exact ⟨k + 1, by omega, by go_num, by rw [HS.out]; go_num⟩
        case measure => simp [intOf]; omega
      · rw [if_neg hz0] at hs
        have HS := Lib.hid hs; clear hs hz hU
        go_wp2
        go_round
        case rel => exact ⟨k + 1, by omega, by go_num, by rw [HS.out]; rfl⟩
        case measure => simp [intOf]; omega
    · obtain rfl : k = zs.length := by omega
      go_wp2
      go_ret
      exact ⟨rfl, rfl⟩
theorem add_part (U m : Nat) (z : Int) (h1 : 1 ≤ z) (h2 : z ≤ m) (hm : m ≤ 16) (hU : U ≤ 2305843009213693952) : wrap64 ((U : Int) + wrap64 (2 ^ ((m : Int) - z).toNat)) = ((U + KraftMath.part m z : Nat) : Int) := by
  have e : ((m : Int) - z).toNat = m - z.toNat := by omega
  have hp := part_le m z hm
  have hpart : KraftMath.part m z = 2 ^ (m - z.toNat) := by unfold KraftMath.part; rw [if_pos ⟨h1, h2⟩]
  have e2 : (2 : Int) ^ (m - z.toNat) = ((KraftMath.part m z : Nat) : Int) := by rw [hpart]; simp
  rw [e, e2]
  unfold wrap64
  omega
set_option maxHeartbeats 800000 in
theorem kSum (a : Option Addr) (cap m : Nat) (zs : List Int) (w : World) (h : IsInts w a zs) (h1 : 1 ≤ m) (h16 : m ≤ 16) : Calls Try.prog 77 #[.slice a zs.length cap, .int .i64 m] w fun e w' => e = .returned (.int .i64 (ksum m zs)) ∧ w' = w := by
  obtain ⟨hl, h⟩ := h
  have HU := Lib.hid (ksum_succ' m zs)
  have HT := Lib.hid (fun k => Nat.le_trans (ksum_le m (zs.take k) h16) (Nat.mul_le_mul_left 32768 (List.length_take_le k zs)))
  rcases h with rfl | ⟨x, rfl, hc⟩
  · go_enter Try.func77, Try.ntmps77
    go_wp2_with fail
    refine (may_yes m (by omega) (by omega) _).mono ?_; rintro e w1 ⟨rfl, rfl⟩
    go_wp2_with fail
    refine wp_loop_rounds 1 ?_
    rw [rounds_succ]
    go_wp2
    go_ret
    exact ⟨rfl, rfl⟩
  have HC := Lib.hid hc; clear hc
  go_enter Try.func77, Try.ntmps77
  go_wp2_with fail
  refine (may_yes m (by omega) (by omega) _).mono ?_; rintro e w1 ⟨rfl, rfl⟩
  go_wp2_with fail
  go_loop [5, 13] (fun n i => ∃ k : Nat, k ≤ zs.length ∧ i = .int .i64 k ∧ n = .int .i64 (ksum m (zs.take k))) (fun _ i => zs.length - (intOf i).toNat)
  case atStart => exact ⟨0, Nat.zero_le _, rfl, rfl⟩
  case round =>
    obtain ⟨k, hk, rfl, rfl⟩ := hrel
    by_cases hlt : k < zs.length
    · have hcell := HC.out k hlt
      have hs := HU.out k hlt
      have ht := HT.out k
      obtain ⟨z, hz⟩ : ∃ z, zs.getD k 0 = z := ⟨_, rfl⟩
      obtain ⟨U, hU⟩ : ∃ U, ksum m (zs.take k) = U := ⟨_, rfl⟩
      rw [hz] at hcell hs
      rw [hU] at hs ht ⊢
      by_cases hz0 : 1 ≤ z
      · by_cases hz1 : z ≤ m
        · have HS := Lib.hid hs; clear hs hz hU
          go_wp2
          go_round
          case rel => exact ⟨k + 1, by omega, by go_num, by rw [add_part U m z hz0 hz1 h16 (by omega), HS.out]⟩
          case measure => simp [intOf]; omega
        · have e : KraftMath.part m z = 0 := by unfold KraftMath.part; rw [if_neg (by omega)]
          rw [e] at hs
          have HS := Lib.hid hs; clear hs hz hU e
          go_wp2
          go_round
          case rel => exact ⟨k + 1, by omega, by go_num, by rw [HS.out]; rfl⟩
          case measure => simp [intOf]; omega
      · have e : KraftMath.part m z = 0 := by unfold KraftMath.part; rw [if_neg (by omega)]
        rw [e] at hs
        have HS := Lib.hid hs; clear hs hz hU e
        go_wp2
        go_round
        case rel => exact ⟨k + 1, by omega, by go_num, by rw [HS.out]; rfl⟩
        case measure => simp [intOf]; omega
    · obtain rfl : k = zs.length := by omega
      go_wp2
      go_ret
      exact ⟨rfl, rfl⟩
set_option maxHeartbeats 800000 in
theorem rSum (a : Option Addr) (cap m : Nat) (zs : List Int) (w : World) (h : IsInts w a zs) (h1 : 1 ≤ m) (h16 : m ≤ 16) : Calls Try.prog 79 #[.slice a zs.length cap, .int .i64 m] w fun e w' => e = .returned (.int .i64 (ksum m zs)) ∧ w' = w := by
  obtain ⟨hl, h⟩ := h
  have HU := Lib.hid (ksum_succ' m zs)
  have HT := Lib.hid (fun k => Nat.le_trans (ksum_le m (zs.take k) h16) (Nat.mul_le_mul_left 32768 (List.length_take_le k zs)))
  rcases h with rfl | ⟨x, rfl, hc⟩
  · go_enter Try.func79, Try.ntmps79
    go_wp2
    refine wp_loop_rounds 1 ?_
    rw [rounds_succ]
    go_wp2
    go_ret
    exact ⟨rfl, rfl⟩
  have HC := Lib.hid hc; clear hc
  go_enter Try.func79, Try.ntmps79
  go_wp2
  go_loop [5, 6] (fun n i => ∃ k : Nat, k ≤ zs.length ∧ i = .int .i64 k ∧ n = .int .i64 (ksum m (zs.take k))) (fun _ i => zs.length - (intOf i).toNat)
  case atStart => exact ⟨0, Nat.zero_le _, rfl, rfl⟩
  case round =>
    obtain ⟨k, hk, rfl, rfl⟩ := hrel
    by_cases hlt : k < zs.length
    · have hcell := HC.out k hlt
      have hs := HU.out k hlt
      have ht := HT.out k
      obtain ⟨z, hz⟩ : ∃ z, zs.getD k 0 = z := ⟨_, rfl⟩
      obtain ⟨U, hU⟩ : ∃ U, ksum m (zs.take k) = U := ⟨_, rfl⟩
      rw [hz] at hcell hs
      rw [hU] at hs ht ⊢
      by_cases hz0 : 1 ≤ z
      · by_cases hz1 : z ≤ m
        · have HS := Lib.hid hs; clear hs hz hU
          go_wp2
          go_round
          case rel => exact ⟨k + 1, by omega, by go_num, by rw [add_part U m z hz0 hz1 h16 (by omega), HS.out]⟩
          case measure => simp [intOf]; omega
        · have e : KraftMath.part m z = 0 := by unfold KraftMath.part; rw [if_neg (by omega)]
          rw [e] at hs
          have HS := Lib.hid hs; clear hs hz hU e
          go_wp2
          go_round
          case rel => exact ⟨k + 1, by omega, by go_num, by rw [HS.out]; rfl⟩
          case measure => simp [intOf]; omega
      · have e : KraftMath.part m z = 0 := by unfold KraftMath.part; rw [if_neg (by omega)]
        rw [e] at hs
        have HS := Lib.hid hs; clear hs hz hU e
        go_wp2
        go_round
        case rel => exact ⟨k + 1, by omega, by go_num, by rw [HS.out]; rfl⟩
        case measure => simp [intOf]; omega
    · obtain rfl : k = zs.length := by omega
      go_wp2
      go_ret
      exact ⟨rfl, rfl⟩
theorem kSum_out (a : Option Addr) (n cap : Nat) (m : Int) (h : m < 1 ∨ 16 < m) (w : World) : Calls Try.prog 77 #[.slice a n cap, .int .i64 m] w fun e w' => e = .returned (.int .i64 0) ∧ w' = w := by
  go_enter Try.func77, Try.ntmps77
  go_wp2_with fail
  refine (may_no m h _).mono ?_; rintro e w1 ⟨rfl, rfl⟩
  go_wp2_with fail
  go_ret
  exact ⟨rfl, rfl⟩
theorem rSum_out (a : Option Addr) (n cap : Nat) (m : Int) (h : m < 1 ∨ 16 < m) (w : World) : Calls Try.prog 79 #[.slice a n cap, .int .i64 m] w fun e w' => e = .returned (.int .i64 0) ∧ w' = w := by
  rcases h with h | h
  · go_enter Try.func79, Try.ntmps79
    go_wp2_with fail
    go_ret
    exact ⟨rfl, rfl⟩
  · have h1 : ¬ m < 1 := by omega
    go_enter Try.func79, Try.ntmps79
    go_wp2_with fail
    go_ret
    exact ⟨rfl, rfl⟩
end Go.Proofs.Ytopiiickeojpmaa
