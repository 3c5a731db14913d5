import Derived.Test.YtedmnlfbmmlcbaaJ07
import Derived.Deep.RegionWith
import Derived.Test.YtedmnlfbmmlcbaaJ03
/- Layer 44's leaves, for trees of chances; fresh rows of chances. -/
namespace Go.Proofs.Ytedmnlfbmmlcbaa
open Go.ChangeShapes Go.WideShapes Go.ChangeAt Go.RowKit
set_option linter.unusedVariables false
set_option maxRecDepth 100000
def updB (p : Nat) (bit : Bool) : Nat := if bit then p - p / 32 else p + (2048 - p) / 32
theorem updB_ok {p : Nat} (h : 1 ≤ p ∧ p ≤ 2047) (bit : Bool) : 1 ≤ updB p bit ∧ updB p bit ≤ 2047 := by
  unfold updB; cases bit <;> simp <;> omega
theorem pStart (w : World) : Calls Try.prog 50 #[] w fun e w' => e = .returned (.int .i64 1024) ∧ w' = w := by
  go_enter Try.func50, Try.ntmps50
  go_wp2
  go_ret
  exact ⟨rfl, rfl⟩
theorem pUpdate (p : Nat) (h : 1 ≤ p ∧ p ≤ 2047) (bit : Bool) (w : World) : Calls Try.prog 51 #[.int .i64 p, .bool bit] w fun e w' => e = .returned (.tuple #[.int .i64 (updB p bit : Nat), .int .i64 0]) ∧ w' = w := by
  obtain ⟨h1, h2⟩ := h
  have d1 : decide ((p : Int) < 1) = false := by simp; omega
  have d2 : decide ((2048 : Int) ≤ (p : Int)) = false := by simp; omega
  cases bit with
  | true =>
    have HE := Lib.hid (show (p : Int) - (p : Int) / 32 = (updB p true : Nat) by unfold updB; simp; omega)
    go_enter Try.func51, Try.ntmps51
    go_wp2
    go_ret2
    exact ⟨by rw [← HE.out]; rfl, rfl⟩
  | false =>
    have HE := Lib.hid (show (p : Int) + (2048 - (p : Int)) / 32 = (updB p false : Nat) by unfold updB; simp; omega)
    go_enter Try.func51, Try.ntmps51
    go_wp2
    go_ret2
    exact ⟨by rw [← HE.out]; rfl, rfl⟩
theorem dUpdate (p : Nat) (h : 1 ≤ p ∧ p ≤ 2047) (bit : Bool) (w : World) : Calls Try.prog 39 #[.int .i64 p, .bool bit] w fun e w' => e = .returned (.tuple #[.int .i64 (updB p bit : Nat), .int .i64 0]) ∧ w' = w := by
  have C := Lib.hid (fun W => gFits p W)
  rw [show okB (p : Int) = true by unfold okB; simp; omega] at C
  obtain ⟨h1, h2⟩ := h
  cases bit with
  | true =>
    have HE := Lib.hid (show (p : Int) - (p : Int) / 32 = (updB p true : Nat) by unfold updB; simp; omega)
    go_enter Try.func39, Try.ntmps39
    go_wp2_with fail
    refine (C.out _).mono ?_; rintro e w1 ⟨rfl, rfl⟩
    go_wp2_with fail
    go_ret2
    exact ⟨by rw [← HE.out]; rfl, rfl⟩
  | false =>
    have HE := Lib.hid (show (p : Int) + (2048 - (p : Int)) / 32 = (updB p false : Nat) by unfold updB; simp; omega)
    go_enter Try.func39, Try.ntmps39
    go_wp2_with fail
    refine (C.out _).mono ?_; rintro e w1 ⟨rfl, rfl⟩
    go_wp2_with fail
    go_ret2
    exact ⟨by rw [← HE.out]; rfl, rfl⟩
set_option maxHeartbeats 1600000 in
theorem dFresh (n : Nat) (hn : n ≤ 16) (w : World) : Calls Try.prog 38 #[.int .i64 n] w fun e w' => ∃ v, e = .returned v ∧ OwnI w.heap.size w' v (List.replicate (2 ^ n) 1024) ∧ Below w.heap.size w w' := by
  have hp : 2 ^ n ≤ 65536 := Nat.pow_le_pow_right (n := 2) (by decide) hn
  have hp0 : 0 < 2 ^ n := Nat.pow_pos (by decide)
  have HW := Lib.hid (show wrap64 ((2 : Int) ^ n) = ((2 ^ n : Nat) : Int) by
    have e1 : (2 : Int) ^ n = ((2 ^ n : Nat) : Int) := by simp
    rw [e1]; unfold wrap64; generalize 2 ^ n = q at *; omega)
  go_enter Try.func38, Try.ntmps38
  go_wp2_with (refine make_int rfl _ _ rfl .i64 .i64 _ _ (2 ^ n) rfl rfl HW.out HW.out (by omega) ?_; intro w3 hown3 hb3 hz3)
  obtain ⟨N, hN⟩ : ∃ N, 2 ^ n = N := ⟨_, rfl⟩
  rw [hN] at hown3 hp hp0 ⊢
  have HO := Lib.hid hown3; have HB := Lib.hid hb3; have HNN := Lib.hid hN
  clear hown3 hb3 hN HW
  go_wp2_with fail
  go_loopw [4] (fun i wr => ∃ k : Nat, k ≤ N ∧ i = .int .i64 k ∧ OwnI w.heap.size wr (.slice (some ⟨w.heap.size, 0, none⟩) N N) (List.replicate k 1024 ++ List.replicate (N - k) 0) ∧ Below w.heap.size w wr) (fun i _ => N - (intOf i).toNat)
  case atStart => exact ⟨0, Nat.zero_le _, rfl, by simpa using HO.out, HB.out⟩
  case round =>
    obtain ⟨k, hk, rfl, hown, hb⟩ := hrel
    by_cases hlt : k < N
    · have hll : (List.replicate k (1024 : Int) ++ List.replicate (N - k) 0).length = N := by simp; omega
      have cx := OwnS.int_cell hown k (by rw [hll]; exact hlt)
      have fx := hown.free k
      have hown2 := OwnS.set_int hown k 1024 (by rw [hll]; exact hlt)
      have e1 : (List.replicate k (1024 : Int) ++ List.replicate (N - k) 0).set k 1024 = List.replicate (k + 1) 1024 ++ List.replicate (N - (k + 1)) 0 := by
        rw [List.set_append_right _ _ (by simp), List.length_replicate, Nat.sub_self]
        obtain ⟨m, hm⟩ : ∃ m, N - k = m + 1 := ⟨N - k - 1, by omega⟩
        rw [hm, show N - (k + 1) = m by omega, List.replicate_succ, List.replicate_succ' (n := k)]
        simp
      rw [e1] at hown2
      have hb2 := hb.setCell (p := ⟨w.heap.size, k, none⟩) (Nat.le_refl _) (.int .i64 1024)
      have hown2_ := Lib.hid hown2
      have hb2_ := Lib.hid hb2
      clear hown2 hb2
      clear hown hb hll e1
      go_wp2_with fail
      go_roundw
      case rel => exact ⟨k + 1, by omega, by go_num, hown2_.out, hb2_.out⟩
      case measure => simp [intOf]; omega
    · obtain rfl : k = N := by omega
      rw [Nat.sub_self, List.replicate_zero, List.append_nil] at hown
      have hown_ := Lib.hid hown
      have hb_ := Lib.hid hb
      clear hown hb
      go_wp2_with fail
      go_ret
      exact ⟨_, rfl, by rw [HNN.out]; exact hown_.out, hb_.out⟩
end Go.Proofs.Ytedmnlfbmmlcbaa

/- Layer 46: the tree of chances. -/
namespace Go.Proofs.Ytedmnlfbmmlcbaa
open Go.ChangeShapes Go.WideShapes Go.ChangeAt Go.RowKit
set_option linter.unusedVariables false
set_option maxRecDepth 100000
/-- A tree: its block, the row of its chances, how many bits, what is asked. -/
def IsTree (w : World) (B g n : Nat) (ch : List Int) (ask : Value) : Prop :=
  ∃ b, w.heap[g]? = some (.cells #[.slice (some ⟨b, 0, none⟩) ch.length ch.length, .int .i64 n, ask] 59 (0, 0)) ∧ OwnI B w (.slice (some ⟨b, 0, none⟩) ch.length ch.length) ch ∧ b ≠ g
set_option maxHeartbeats 1600000 in
theorem tNew (n : Nat) (hn : n ≤ 9) (w : World) : Calls Try.prog 30 #[.int .i64 n] w fun e w' => ∃ g, e = .returned (.pointer (some ⟨g, 0, none⟩)) ∧ IsTree w' w.heap.size g n (List.replicate (2 ^ n) 1024) .nilFunc ∧ Below w.heap.size w w' ∧ w.heap.size ≤ g ∧ g < w'.heap.size := by
  have hp : 2 ^ n ≤ 512 := Nat.pow_le_pow_right (n := 2) (by decide) hn
  have hp0 : 0 < 2 ^ n := Nat.pow_pos (by decide)
  have HW := Lib.hid (show wrap64 ((2 : Int) ^ n) = ((2 ^ n : Nat) : Int) by
    have e1 : (2 : Int) ^ n = ((2 ^ n : Nat) : Int) := by simp
    rw [e1]; unfold wrap64; generalize 2 ^ n = q at *; omega)
  go_enter Try.func30, Try.ntmps30
  go_wp2_with (refine make_int rfl _ _ rfl .i64 .i64 _ _ (2 ^ n) rfl rfl HW.out HW.out (by omega) ?_; intro w3 hown3 hb3 hz3)
  obtain ⟨N, hN⟩ : ∃ N, 2 ^ n = N := ⟨_, rfl⟩
  rw [hN] at hown3 hp hp0 ⊢
  have HO := Lib.hid hown3; have HB := Lib.hid hb3; have HNN := Lib.hid hN
  clear hown3 hb3 hN HW
  have HNI := Lib.hid (show (2 : Int) ^ n = (N : Int) by rw [← HNN.out]; simp)
  go_wp2_with fail
  rw [HNI.out]
  obtain ⟨g, hg⟩ : ∃ g, w3.heap.size = g := ⟨_, rfl⟩
  obtain ⟨W, hW⟩ : ∃ W, w3.alloc (.cells #[.slice (some ⟨w.heap.size, 0, none⟩) N N, .int .i64 n, .nilFunc] 59) = W := ⟨_, rfl⟩
  have hwg : w.heap.size < g := by rw [← hg]; exact hz3
  have HG := Lib.hid (show W.heap[g]? = some (.cells #[.slice (some ⟨w.heap.size, 0, none⟩) N N, .int .i64 n, .nilFunc] 59 (0, 0)) by rw [← hW, ← hg]; exact heap_alloc_new _ _)
  have HR := Lib.hid (show OwnI w.heap.size W (.slice (some ⟨w.heap.size, 0, none⟩) N N) (List.replicate N 0) by rw [← hW]; exact HO.out.alloc _)
  have HBW := Lib.hid (show Below w.heap.size w W by rw [← hW]; exact HB.out.alloc HB.out.size _)
  rw [hg, hW]
  have CS := Lib.hid (fun W => pStart W)
  clear hW hg HO HB hz3
  go_loopw [16] (fun i wr => ∃ k : Nat, k ≤ N ∧ i = .int .i64 k ∧ OwnI w.heap.size wr (.slice (some ⟨w.heap.size, 0, none⟩) N N) (List.replicate k 1024 ++ List.replicate (N - k) 0) ∧ wr.heap[g]? = some (.cells #[.slice (some ⟨w.heap.size, 0, none⟩) N N, .int .i64 n, .nilFunc] 59 (0, 0)) ∧ Below w.heap.size w wr) (fun i _ => N - (intOf i).toNat)
  case atStart => exact ⟨0, Nat.zero_le _, rfl, by simpa using HR.out, HG.out, HBW.out⟩
  case round =>
    obtain ⟨k, hk, rfl, hown, hgg, hb⟩ := hrel
    by_cases hlt : k < N
    · have hll : (List.replicate k (1024 : Int) ++ List.replicate (N - k) 0).length = N := by simp; omega
      have cx := OwnS.int_cell hown k (by rw [hll]; exact hlt)
      have fx := hown.free k
      have hown2 := OwnS.set_int hown k 1024 (by rw [hll]; exact hlt)
      have e1 : (List.replicate k (1024 : Int) ++ List.replicate (N - k) 0).set k 1024 = List.replicate (k + 1) 1024 ++ List.replicate (N - (k + 1)) 0 := by
        rw [List.set_append_right _ _ (by simp), List.length_replicate, Nat.sub_self]
        obtain ⟨m, hm⟩ : ∃ m, N - k = m + 1 := ⟨N - k - 1, by omega⟩
        rw [hm, show N - (k + 1) = m by omega, List.replicate_succ, List.replicate_succ' (n := k)]
        simp
      rw [e1] at hown2
      have hb2 := hb.setCell (p := ⟨w.heap.size, k, none⟩) (Nat.le_refl _) (.int .i64 1024)
      have hg2 : (wr.setCell ⟨w.heap.size, k, none⟩ (.int .i64 1024)).heap[g]? = some (.cells #[.slice (some ⟨w.heap.size, 0, none⟩) N N, .int .i64 n, .nilFunc] 59 (0, 0)) := (Below.heap_setCell _ _ _ _ (by show g ≠ w.heap.size; omega)).trans hgg
      have g0 := cell_lit hgg 0 _ rfl
      have hown2_ := Lib.hid hown2
      have hb2_ := Lib.hid hb2
      have hg2_ := Lib.hid hg2
      clear hown2 hb2 hg2
      clear hown hb hll e1 hgg
      go_wp2_with fail
      go_region_with (go_at_call 50; (with_reducible refine (CS.out _).mono ?_); rintro e w5 ⟨rfl, rfl⟩)
      all_goals
        go_wp2_with fail
        go_roundw
        case rel => exact ⟨k + 1, by omega, by go_num, hown2_.out, hg2_.out, hb2_.out.drew⟩
        case measure => simp [intOf]; omega
    · obtain rfl : k = N := by omega
      rw [Nat.sub_self, List.replicate_zero, List.append_nil] at hown
      have hlt2 := block_lt hgg
      have hown_ := Lib.hid hown
      have hb_ := Lib.hid hb
      have hgg_ := Lib.hid hgg
      clear hown hb hgg
      go_wp2_with fail
      go_ret
      exact ⟨g, rfl, ⟨w.heap.size, by rw [HNN.out]; simpa using hgg_.out, by rw [HNN.out]; simpa using hown_.out, by omega⟩, hb_.out, by omega, hlt2⟩
open Range in
theorem tAskD (w : World) (bx g : Nat) (d : Dec) (Z : Int) (hbx : w.heap[bx]? = some (.cells #[.pointer (some ⟨g, 0, none⟩)] 92 (0, 0))) (h : IsDec w g d) (hf : Fine d) :
    Calls Try.prog 63 #[.int .i64 Z, .pointer (some ⟨bx, 0, none⟩)] w fun e w' => e = .returned (.bool (bitD d Z)) ∧ IsDec w' g (stepD d Z) ∧ Keeps (fun k => k = g) w w' := by
  have C := Lib.hid (gBitT w g d Z h hf)
  have cb := cell_lit hbx 0 _ rfl
  go_enter Try.func63, Try.ntmps63
  go_wp2_with fail
  refine C.out.mono ?_; rintro e w1 ⟨rfl, hd, hk⟩
  have HD := Lib.hid hd; have HK := Lib.hid hk
  clear hd hk
  go_wp2_with fail
  go_ret
  exact ⟨rfl, HD.out, HK.out⟩
end Go.Proofs.Ytedmnlfbmmlcbaa

/- Words for rows that grow side by side; one bit of a number. -/
namespace Go.Proofs.Ytedmnlfbmmlcbaa
open Go.ChangeShapes Go.WideShapes Go.ChangeAt Go.RowKit
set_option linter.unusedVariables false
set_option maxRecDepth 100000
theorem own_apart {w : World} {b b' n n' size size' : Nat} {e e' : TypeId} {u v : Value} {xs ys : List Value} (h : w.ownsRow b e size u n xs) (k : w.ownsRow b' e' size' v n' ys) (hne : e ≠ e') : u.ownBlock = none ∨ u.ownBlock ≠ v.ownBlock := by
  rcases h.2 with ⟨rfl, _⟩ | ⟨g, cap, cur, rfl, _, hg, _⟩
  · exact .inl rfl
  · refine .inr (fun e1 => ?_)
    exact own_ne k hg (fun e2 => hne e2.symm) (by rw [← e1]; rfl)
theorem two_last_d (w : World) (A B : Obj) : ((w.alloc A).alloc B).drew.heap[w.heap.size + 1]? = some B := heap_two_last w A B
theorem two_first_d (w : World) (A B : Obj) : ((w.alloc A).alloc B).drew.heap[w.heap.size]? = some A := heap_two_first w A B
theorem kset {w : World} {g g' : Nat} {v : Option Value} {u : Value} (h : w.cell? ⟨g, 0, none⟩ = v) (hne : g ≠ g') : (w.setCell ⟨g', 0, none⟩ u).cell? ⟨g, 0, none⟩ = v := by
  rw [World.cell?_of_block (w := w) (Below.heap_setCell _ _ _ _ hne)]; exact h
def bitK (x k : Nat) : Bool := decide (x / 2 ^ k % 2 = 1)
theorem and1 (x k : Nat) (hx : x ≤ 1000000) : (bits .and .i64 ((x : Int) / 2 ^ k) 1 == 1) = bitK x k := by
  have e1 : (x : Int) / 2 ^ k = ((x / 2 ^ k : Nat) : Int) := by simp
  have hle : x / 2 ^ k ≤ x := Nat.div_le_self _ _
  have h := (bits_nat .i64 32 (by decide) (fun n h1 h2 => IntWalk.i64_in n (by omega)) (x / 2 ^ k) 1 (by omega) (by decide)).1
  rw [e1, show (1 : Int) = ((1 : Nat) : Int) from rfl, h, Nat.and_one_is_mod]
  unfold bitK
  rw [Bool.eq_iff_iff, beq_iff_eq, decide_eq_true_iff]
  omega
end Go.Proofs.Ytedmnlfbmmlcbaa
