/- Layer 46: the tree of chances. -/
import Derived.Test.YtkdkedgpchcfpaaG13
import Derived.Deep.RegionWith
namespace Go.Proofs.Ytkdkedgpchcfpaa
open Go.ChangeShapes Go.WideShapes Go.ChangeAt Go.RowKit
set_option linter.unusedVariables false
set_option maxRecDepth 100000
/-- A tree: its block, the row of its chances, how many bits, what is asked. -/
def IsTree (w : World) (B g n : Nat) (ch : List Int) (ask : Value) : Prop :=
  ∃ b, w.heap[g]? = some (.cells #[.slice (some ⟨b, 0, none⟩) ch.length ch.length, .int .i64 n, ask] 90 (0, 0)) ∧ OwnI B w (.slice (some ⟨b, 0, none⟩) ch.length ch.length) ch ∧ b ≠ g
set_option maxHeartbeats 1600000 in
theorem tNew (n : Nat) (hn : n ≤ 9) (w : World) : Calls Try.prog 55 #[.int .i64 n] w fun e w' => ∃ g, e = .returned (.pointer (some ⟨g, 0, none⟩)) ∧ IsTree w' w.heap.size g n (List.replicate (2 ^ n) 1024) .nilFunc ∧ Below w.heap.size w w' ∧ w.heap.size ≤ g ∧ g < w'.heap.size := by
  have hp : 2 ^ n ≤ 512 := Nat.pow_le_pow_right (n := 2) (by decide) hn
  have hp0 : 0 < 2 ^ n := Nat.pow_pos (by decide)
  have HW := Lib.hid (show wrap64 ((2 : Int) ^ n) = ((2 ^ n : Nat) : Int) by
    have e1 : (2 : Int) ^ n = ((2 ^ n : Nat) : Int) := by simp
    rw [e1]; unfold wrap64; generalize 2 ^ n = q at *; omega)
  go_enter Try.func55, Try.ntmps55
  go_wp2_with (refine make_int rfl _ _ rfl .i64 .i64 _ _ (2 ^ n) rfl rfl HW.out HW.out (by omega) ?_; intro w3 hown3 hb3 hz3)
  obtain ⟨N, hN⟩ : ∃ N, 2 ^ n = N := ⟨_, rfl⟩
  rw [hN] at hown3 hp hp0 ⊢
  have HO := Lib.hid hown3; have HB := Lib.hid hb3; have HNN := Lib.hid hN
  clear hown3 hb3 hN HW
  have HNI := Lib.hid (show (2 : Int) ^ n = (N : Int) by rw [← HNN.out]; simp)
  go_wp2_with fail
  rw [HNI.out]
  obtain ⟨g, hg⟩ : ∃ g, w3.heap.size = g := ⟨_, rfl⟩
  obtain ⟨W, hW⟩ : ∃ W, w3.alloc (.cells #[.slice (some ⟨w.heap.size, 0, none⟩) N N, .int .i64 n, .nilFunc] 90) = W := ⟨_, rfl⟩
  have hwg : w.heap.size < g := by rw [← hg]; exact hz3
  have HG := Lib.hid (show W.heap[g]? = some (.cells #[.slice (some ⟨w.heap.size, 0, none⟩) N N, .int .i64 n, .nilFunc] 90 (0, 0)) by rw [← hW, ← hg]; exact heap_alloc_new _ _)
  have HR := Lib.hid (show OwnI w.heap.size W (.slice (some ⟨w.heap.size, 0, none⟩) N N) (List.replicate N 0) by rw [← hW]; exact HO.out.alloc _)
  have HBW := Lib.hid (show Below w.heap.size w W by rw [← hW]; exact HB.out.alloc HB.out.size _)
  rw [hg, hW]
  have CS := Lib.hid (fun W => pStart W)
  clear hW hg HO HB hz3
  go_loopw [16] (fun i wr => ∃ k : Nat, k ≤ N ∧ i = .int .i64 k ∧ OwnI w.heap.size wr (.slice (some ⟨w.heap.size, 0, none⟩) N N) (List.replicate k 1024 ++ List.replicate (N - k) 0) ∧ wr.heap[g]? = some (.cells #[.slice (some ⟨w.heap.size, 0, none⟩) N N, .int .i64 n, .nilFunc] 90 (0, 0)) ∧ Below w.heap.size w wr) (fun i _ => N - (intOf i).toNat)
  case atStart => exact ⟨0, Nat.zero_le _, rfl, by simpa using HR.out, HG.out, HBW.out⟩
  case round =>
    obtain ⟨k, hk, rfl, hown, hgg, hb⟩ := hrel
    by_cases hlt : k < N
    · have hll : (List.replicate k (1024 : Int) ++ List.replicate (N - k) 0).length = N := by simp; omega
      have cx := OwnS.int_cell hown k (by rw [hll]; exact hlt)
      have fx := hown.free k
      have hown2 := OwnS.set_int hown k 1024 (by rw [hll]; exact hlt)
      have e1 : (List.replicate k (1024 : Int) ++ List.replicate (N - k) 0).set k 1024 = List.replicate (k + 1) 1024 ++ List.replicate (N - (k + 1)) 0 := by
        rw [List.set_append_right _ _ (by simp), List.length_replicate, Nat.sub_self]
        obtain ⟨m, hm⟩ : ∃ m, N - k = m + 1 := ⟨N - k - 1, by omega⟩
        rw [hm, show N - (k + 1) = m by omega, List.replicate_succ, List.replicate_succ' (n := k)]
        simp
      rw [e1] at hown2
      have hb2 := hb.setCell (p := ⟨w.heap.size, k, none⟩) (Nat.le_refl _) (.int .i64 1024)
      have hg2 : (wr.setCell ⟨w.heap.size, k, none⟩ (.int .i64 1024)).heap[g]? = some (.cells #[.slice (some ⟨w.heap.size, 0, none⟩) N N, .int .i64 n, .nilFunc] 90 (0, 0)) := (Below.heap_setCell _ _ _ _ (by show g ≠ w.heap.size; omega)).trans hgg
      have g0 := cell_lit hgg 0 _ rfl
      have hown2_ := Lib.hid hown2
      have hb2_ := Lib.hid hb2
      have hg2_ := Lib.hid hg2
      clear hown2 hb2 hg2
      clear hown hb hll e1 hgg
      go_wp2_with fail
      go_region_with (go_at_call 84; (with_reducible refine (CS.out _).mono ?_); rintro e w5 ⟨rfl, rfl⟩)
      all_goals
        go_wp2_with fail
        go_roundw
        case rel => exact ⟨k + 1, by omega, by go_num, hown2_.out, hg2_.out, hb2_.out.drew⟩
        case measure => simp [intOf]; omega
    · obtain rfl : k = N := by omega
      rw [Nat.sub_self, List.replicate_zero, List.append_nil] at hown
      have hlt2 := block_lt hgg
      have hown_ := Lib.hid hown
      have hb_ := Lib.hid hb
      have hgg_ := Lib.hid hgg
      clear hown hb hgg
      go_wp2_with fail
      go_ret
      exact ⟨g, rfl, ⟨w.heap.size, by rw [HNN.out]; simpa using hgg_.out, by rw [HNN.out]; simpa using hown_.out, by omega⟩, hb_.out, by omega, hlt2⟩
open Range in
theorem tAskD (w : World) (bx g : Nat) (d : Dec) (Z : Int) (hbx : w.heap[bx]? = some (.cells #[.pointer (some ⟨g, 0, none⟩)] 36 (0, 0))) (h : IsDec w g d) (hf : Fine d) :
    Calls Try.prog 60 #[.int .i64 Z, .pointer (some ⟨bx, 0, none⟩)] w fun e w' => e = .returned (.bool (bitD d Z)) ∧ IsDec w' g (stepD d Z) ∧ Keeps (fun k => k = g) w w' := by
  have C := Lib.hid (gBitT w g d Z h hf)
  have cb := cell_lit hbx 0 _ rfl
  go_enter Try.func60, Try.ntmps60
  go_wp2_with fail
  refine C.out.mono ?_; rintro e w1 ⟨rfl, hd, hk⟩
  have HD := Lib.hid hd; have HK := Lib.hid hk
  clear hd hk
  go_wp2_with fail
  go_ret
  exact ⟨rfl, HD.out, HK.out⟩
end Go.Proofs.Ytkdkedgpchcfpaa
