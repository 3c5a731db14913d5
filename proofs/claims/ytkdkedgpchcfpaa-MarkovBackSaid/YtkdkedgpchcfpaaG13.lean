/- Layer 44's leaves, for trees of chances; fresh rows of chances. -/
import Derived.Test.YtkdkedgpchcfpaaG12
namespace Go.Proofs.Ytkdkedgpchcfpaa
open Go.ChangeShapes Go.WideShapes Go.ChangeAt Go.RowKit
set_option linter.unusedVariables false
set_option maxRecDepth 100000
def updB (p : Nat) (bit : Bool) : Nat := if bit then p - p / 32 else p + (2048 - p) / 32
theorem updB_ok {p : Nat} (h : 1 ≤ p ∧ p ≤ 2047) (bit : Bool) : 1 ≤ updB p bit ∧ updB p bit ≤ 2047 := by
  unfold updB; cases bit <;> simp <;> omega
theorem pStart (w : World) : Calls Try.prog 84 #[] w fun e w' => e = .returned (.int .i64 1024) ∧ w' = w := by
  go_enter Try.func84, Try.ntmps84
  go_wp2
  go_ret
  exact ⟨rfl, rfl⟩
theorem pUpdate (p : Nat) (h : 1 ≤ p ∧ p ≤ 2047) (bit : Bool) (w : World) : Calls Try.prog 85 #[.int .i64 p, .bool bit] w fun e w' => e = .returned (.tuple #[.int .i64 (updB p bit : Nat), .int .i64 0]) ∧ w' = w := by
  obtain ⟨h1, h2⟩ := h
  have d1 : decide ((p : Int) < 1) = false := by simp; omega
  have d2 : decide ((2048 : Int) ≤ (p : Int)) = false := by simp; omega
  cases bit with
  | true =>
    have HE := Lib.hid (show (p : Int) - (p : Int) / 32 = (updB p true : Nat) by unfold updB; simp; omega)
    go_enter Try.func85, Try.ntmps85
    go_wp2
    go_ret2
    exact ⟨by rw [← HE.out]; rfl, rfl⟩
  | false =>
    have HE := Lib.hid (show (p : Int) + (2048 - (p : Int)) / 32 = (updB p false : Nat) by unfold updB; simp; omega)
    go_enter Try.func85, Try.ntmps85
    go_wp2
    go_ret2
    exact ⟨by rw [← HE.out]; rfl, rfl⟩
theorem dUpdate (p : Nat) (h : 1 ≤ p ∧ p ≤ 2047) (bit : Bool) (w : World) : Calls Try.prog 59 #[.int .i64 p, .bool bit] w fun e w' => e = .returned (.tuple #[.int .i64 (updB p bit : Nat), .int .i64 0]) ∧ w' = w := by
  have C := Lib.hid (fun W => gFits p W)
  rw [show okB (p : Int) = true by unfold okB; simp; omega] at C
  obtain ⟨h1, h2⟩ := h
  cases bit with
  | true =>
    have HE := Lib.hid (show (p : Int) - (p : Int) / 32 = (updB p true : Nat) by unfold updB; simp; omega)
    go_enter Try.func59, Try.ntmps59
    go_wp2_with fail
    refine (C.out _).mono ?_; rintro e w1 ⟨rfl, rfl⟩
    go_wp2_with fail
    go_ret2
    exact ⟨by rw [← HE.out]; rfl, rfl⟩
  | false =>
    have HE := Lib.hid (show (p : Int) + (2048 - (p : Int)) / 32 = (updB p false : Nat) by unfold updB; simp; omega)
    go_enter Try.func59, Try.ntmps59
    go_wp2_with fail
    refine (C.out _).mono ?_; rintro e w1 ⟨rfl, rfl⟩
    go_wp2_with fail
    go_ret2
    exact ⟨by rw [← HE.out]; rfl, rfl⟩
set_option maxHeartbeats 1600000 in
theorem dFresh (n : Nat) (hn : n ≤ 16) (w : World) : Calls Try.prog 58 #[.int .i64 n] w fun e w' => ∃ v, e = .returned v ∧ OwnI w.heap.size w' v (List.replicate (2 ^ n) 1024) ∧ Below w.heap.size w w' := by
  have hp : 2 ^ n ≤ 65536 := Nat.pow_le_pow_right (n := 2) (by decide) hn
  have hp0 : 0 < 2 ^ n := Nat.pow_pos (by decide)
  have HW := Lib.hid (show wrap64 ((2 : Int) ^ n) = ((2 ^ n : Nat) : Int) by
    have e1 : (2 : Int) ^ n = ((2 ^ n : Nat) : Int) := by simp
    rw [e1]; unfold wrap64; generalize 2 ^ n = q at *; omega)
  go_enter Try.func58, Try.ntmps58
  go_wp2_with (refine make_int rfl _ _ rfl .i64 .i64 _ _ (2 ^ n) rfl rfl HW.out HW.out (by omega) ?_; intro w3 hown3 hb3 hz3)
  obtain ⟨N, hN⟩ : ∃ N, 2 ^ n = N := ⟨_, rfl⟩
  rw [hN] at hown3 hp hp0 ⊢
  have HO := Lib.hid hown3; have HB := Lib.hid hb3; have HNN := Lib.hid hN
  clear hown3 hb3 hN HW
  go_wp2_with fail
  go_loopw [4] (fun i wr => ∃ k : Nat, k ≤ N ∧ i = .int .i64 k ∧ OwnI w.heap.size wr (.slice (some ⟨w.heap.size, 0, none⟩) N N) (List.replicate k 1024 ++ List.replicate (N - k) 0) ∧ Below w.heap.size w wr) (fun i _ => N - (intOf i).toNat)
  case atStart => exact ⟨0, Nat.zero_le _, rfl, by simpa using HO.out, HB.out⟩
  case round =>
    obtain ⟨k, hk, rfl, hown, hb⟩ := hrel
    by_cases hlt : k < N
    · have hll : (List.replicate k (1024 : Int) ++ List.replicate (N - k) 0).length = N := by simp; omega
      have cx := OwnS.int_cell hown k (by rw [hll]; exact hlt)
      have fx := hown.free k
      have hown2 := OwnS.set_int hown k 1024 (by rw [hll]; exact hlt)
      have e1 : (List.replicate k (1024 : Int) ++ List.replicate (N - k) 0).set k 1024 = List.replicate (k + 1) 1024 ++ List.replicate (N - (k + 1)) 0 := by
        rw [List.set_append_right _ _ (by simp), List.length_replicate, Nat.sub_self]
        obtain ⟨m, hm⟩ : ∃ m, N - k = m + 1 := ⟨N - k - 1, by omega⟩
        rw [hm, show N - (k + 1) = m by omega, List.replicate_succ, List.replicate_succ' (n := k)]
        simp
      rw [e1] at hown2
      have hb2 := hb.setCell (p := ⟨w.heap.size, k, none⟩) (Nat.le_refl _) (.int .i64 1024)
      have hown2_ := Lib.hid hown2
      have hb2_ := Lib.hid hb2
      clear hown2 hb2
      clear hown hb hll e1
      go_wp2_with fail
      go_roundw
      case rel => exact ⟨k + 1, by omega, by go_num, hown2_.out, hb2_.out⟩
      case measure => simp [intOf]; omega
    · obtain rfl : k = N := by omega
      rw [Nat.sub_self, List.replicate_zero, List.append_nil] at hown
      have hown_ := Lib.hid hown
      have hb_ := Lib.hid hb
      clear hown hb
      go_wp2_with fail
      go_ret
      exact ⟨_, rfl, by rw [HNN.out]; exact hown_.out, hb_.out⟩
end Go.Proofs.Ytkdkedgpchcfpaa
