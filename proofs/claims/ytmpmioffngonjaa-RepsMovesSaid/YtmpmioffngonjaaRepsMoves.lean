/- It is proved that the law 'RepsMoves' of the program returns true for every input, with no condition, and leaves what was handed in as it was. The frame was written by a program; the walk is by hand. -/
import Derived.Test.YtmpmioffngonjaaRows
import Derived.WalkKit
import Derived.ProofKit
import Derived.OpenShut
import Derived.ShutString
import Derived.ChangeOld
import Derived.Below
import Derived.Test.YtmpmioffngonjaaBase
import Derived.Test.YtmpmioffngonjaaRs
namespace Go.Proofs.Ytmpmioffngonjaa.repsMoves
open Go.ChangeShapes Go.WideShapes Go.ChangeAt Go.RowKit Go.Deep
open Go.ChangeMaps (open_string shut_string)
set_option linter.unusedVariables false
set_option maxRecDepth 100000

theorem own : ownKnob Try.prog.godebug = none := by kernel_rfl
theorem laidOut : laidOutB Try.prog = true := by kernel_rfl

set_option maxHeartbeats 1600000 in
theorem moves_out0 (r0 r1 r2 r3 n d : Int) (w : World) (n0 : 0 ≤ n) (n1 : n ≤ 255) (d0 : 0 ≤ d) (d1 : d ≤ 255)  (h : r0 < 1 ∨ 67108864 < r0) : Calls Try.prog 8 #[.agg #[.int .i64 r0, .int .i64 r1, .int .i64 r2, .int .i64 r3], .int .u8 n, .int .u8 d] w fun e w' => e = .returned (.bool true) ∧ Below w.heap.size w w' := by
  rcases h with h | h
  all_goals
    go_enter Try.func8, Try.ntmps8
    go_wp2_with fail
    refine wp_loop_rounds 5 ?_
    rw [rounds_succ]
    go_wp2_with fail
    refine (awake17 _).mono ?_; rintro e w1 ⟨rfl, hb1⟩
    have hc : Below w.heap.size w w1 := Below.trans (by go_grown) (hb1.mono (by first | (simp; done) | (simp; omega) | omega))
    go_wp2_with fail
    go_ret
    exact ⟨rfl, hc⟩
set_option maxHeartbeats 1600000 in
theorem moves_out1 (r0 r1 r2 r3 n d : Int) (w : World) (n0 : 0 ≤ n) (n1 : n ≤ 255) (d0 : 0 ≤ d) (d1 : d ≤ 255) (g0 : 1 ≤ r0) (k0 : r0 ≤ 67108864) (h : r1 < 1 ∨ 67108864 < r1) : Calls Try.prog 8 #[.agg #[.int .i64 r0, .int .i64 r1, .int .i64 r2, .int .i64 r3], .int .u8 n, .int .u8 d] w fun e w' => e = .returned (.bool true) ∧ Below w.heap.size w w' := by
  rcases h with h | h
  all_goals
    go_enter Try.func8, Try.ntmps8
    go_wp2_with fail
    refine wp_loop_rounds 5 ?_
    rw [rounds_succ]
    go_wp2_with fail
    rw [rounds_succ]
    go_wp2_with fail
    refine (awake17 _).mono ?_; rintro e w1 ⟨rfl, hb1⟩
    have hc : Below w.heap.size w w1 := Below.trans (by go_grown) (hb1.mono (by first | (simp; done) | (simp; omega) | omega))
    go_wp2_with fail
    go_ret
    exact ⟨rfl, hc⟩
set_option maxHeartbeats 1600000 in
theorem moves_out2 (r0 r1 r2 r3 n d : Int) (w : World) (n0 : 0 ≤ n) (n1 : n ≤ 255) (d0 : 0 ≤ d) (d1 : d ≤ 255) (g0 : 1 ≤ r0) (k0 : r0 ≤ 67108864) (g1 : 1 ≤ r1) (k1 : r1 ≤ 67108864) (h : r2 < 1 ∨ 67108864 < r2) : Calls Try.prog 8 #[.agg #[.int .i64 r0, .int .i64 r1, .int .i64 r2, .int .i64 r3], .int .u8 n, .int .u8 d] w fun e w' => e = .returned (.bool true) ∧ Below w.heap.size w w' := by
  rcases h with h | h
  all_goals
    go_enter Try.func8, Try.ntmps8
    go_wp2_with fail
    refine wp_loop_rounds 5 ?_
    rw [rounds_succ]
    go_wp2_with fail
    rw [rounds_succ]
    go_wp2_with fail
    rw [rounds_succ]
    go_wp2_with fail
    refine (awake17 _).mono ?_; rintro e w1 ⟨rfl, hb1⟩
    have hc : Below w.heap.size w w1 := Below.trans (by go_grown) (hb1.mono (by first | (simp; done) | (simp; omega) | omega))
    go_wp2_with fail
    go_ret
    exact ⟨rfl, hc⟩
set_option maxHeartbeats 1600000 in
theorem moves_out3 (r0 r1 r2 r3 n d : Int) (w : World) (n0 : 0 ≤ n) (n1 : n ≤ 255) (d0 : 0 ≤ d) (d1 : d ≤ 255) (g0 : 1 ≤ r0) (k0 : r0 ≤ 67108864) (g1 : 1 ≤ r1) (k1 : r1 ≤ 67108864) (g2 : 1 ≤ r2) (k2 : r2 ≤ 67108864) (h : r3 < 1 ∨ 67108864 < r3) : Calls Try.prog 8 #[.agg #[.int .i64 r0, .int .i64 r1, .int .i64 r2, .int .i64 r3], .int .u8 n, .int .u8 d] w fun e w' => e = .returned (.bool true) ∧ Below w.heap.size w w' := by
  rcases h with h | h
  all_goals
    go_enter Try.func8, Try.ntmps8
    go_wp2_with fail
    refine wp_loop_rounds 5 ?_
    rw [rounds_succ]
    go_wp2_with fail
    rw [rounds_succ]
    go_wp2_with fail
    rw [rounds_succ]
    go_wp2_with fail
    rw [rounds_succ]
    go_wp2_with fail
    refine (awake17 _).mono ?_; rintro e w1 ⟨rfl, hb1⟩
    have hc : Below w.heap.size w w1 := Below.trans (by go_grown) (hb1.mono (by first | (simp; done) | (simp; omega) | omega))
    go_wp2_with fail
    go_ret
    exact ⟨rfl, hc⟩
set_option maxHeartbeats 3200000 in
theorem moves_in0 (r0 r1 r2 r3 n d : Int) (w : World) (n0 : 0 ≤ n) (n1 : n ≤ 255) (d0 : 0 ≤ d) (d1 : d ≤ 255) (g0 : 1 ≤ r0) (k0 : r0 ≤ 67108864) (g1 : 1 ≤ r1) (k1 : r1 ≤ 67108864) (g2 : 1 ≤ r2) (k2 : r2 ≤ 67108864) (g3 : 1 ≤ r3) (k3 : r3 ≤ 67108864) (hk : n % 4 = 0) : Calls Try.prog 8 #[.agg #[.int .i64 r0, .int .i64 r1, .int .i64 r2, .int .i64 r3], .int .u8 n, .int .u8 d] w fun e w' => e = .returned (.bool true) ∧ Below w.heap.size w w' := by
  have e1 : ∀ w, (binOp .neq 47 (.agg #[.int .i64 r0, .int .i64 r1, .int .i64 r2, .int .i64 r3]) (.agg #[.int .i64 r0, .int .i64 r1, .int .i64 r2, .int .i64 r3])).run Try.prog w = .ok (.bool false) w := fun w => by
    rw [run_neq_ints4 47 3 _ r0 r1 r2 r3 r0 r1 r2 r3 w (by kernel_rfl) (by kernel_rfl) rfl (by kernel_rfl)]; simp
  go_enter Try.func8, Try.ntmps8
  go_wp2_with fail
  refine wp_loop_rounds 5 ?_
  rw [rounds_succ]
  go_wp2_with fail
  rw [rounds_succ]
  go_wp2_with fail
  rw [rounds_succ]
  go_wp2_with fail
  rw [rounds_succ]
  go_wp2_with fail
  rw [rounds_succ]
  go_wp2_with fail
  refine (use_rep0 r0 r1 r2 r3 0 3 0 (by unfold OkTok; omega) (by omega) (by omega) _).mono ?_; rintro e w2 ⟨rfl, hb2⟩
  have z2 := hb2.size
  simp at z2
  have l0 : w.heap.size < w2.heap.size := by omega
  have or0 : w2.cell? ⟨w.heap.size, 0, none⟩ = some (.int .i64 r0) := by rw [hb2.cell (by first | (simp; done) | (simp; omega) | omega)]; first | assumption | (simp; done) | (simp [go_sem]; done) | (simp [go_sem, *]; done)
  have or1 : w2.cell? ⟨w.heap.size, 1, none⟩ = some (.int .i64 r1) := by rw [hb2.cell (by first | (simp; done) | (simp; omega) | omega)]; first | assumption | (simp; done) | (simp [go_sem]; done) | (simp [go_sem, *]; done)
  have or2 : w2.cell? ⟨w.heap.size, 2, none⟩ = some (.int .i64 r2) := by rw [hb2.cell (by first | (simp; done) | (simp; omega) | omega)]; first | assumption | (simp; done) | (simp [go_sem]; done) | (simp [go_sem, *]; done)
  have or3 : w2.cell? ⟨w.heap.size, 3, none⟩ = some (.int .i64 r3) := by rw [hb2.cell (by first | (simp; done) | (simp; omega) | omega)]; first | assumption | (simp; done) | (simp [go_sem]; done) | (simp [go_sem, *]; done)
  have hc2 : Below w.heap.size w w2 := Below.trans (by go_grown) (hb2.mono (by first | (simp; done) | (simp; omega) | omega))
  clear hb2
  go_wp2_with fail
  refine (use_copy r0 r1 r2 r3 0 3 (d + 1) 0 (by unfold OkTok; omega) _).mono ?_; rintro e w3 ⟨rfl, hb3⟩
  have z3 := hb3.size
  simp at z3
  have l1 : w.heap.size < w3.heap.size := by omega
  have l2 : w2.heap.size < w3.heap.size := by omega
  have pr0 : w3.cell? ⟨w.heap.size, 0, none⟩ = some (.int .i64 r0) := by rw [hb3.cell (by first | (simp; done) | (simp; omega) | omega)]; first | assumption | (simp; done) | (simp [go_sem]; done) | (simp [go_sem, *]; done)
  have pr1 : w3.cell? ⟨w.heap.size, 1, none⟩ = some (.int .i64 r1) := by rw [hb3.cell (by first | (simp; done) | (simp; omega) | omega)]; first | assumption | (simp; done) | (simp [go_sem]; done) | (simp [go_sem, *]; done)
  have pr2 : w3.cell? ⟨w.heap.size, 2, none⟩ = some (.int .i64 r2) := by rw [hb3.cell (by first | (simp; done) | (simp; omega) | omega)]; first | assumption | (simp; done) | (simp [go_sem]; done) | (simp [go_sem, *]; done)
  have pr3 : w3.cell? ⟨w.heap.size, 3, none⟩ = some (.int .i64 r3) := by rw [hb3.cell (by first | (simp; done) | (simp; omega) | omega)]; first | assumption | (simp; done) | (simp [go_sem]; done) | (simp [go_sem, *]; done)
  have pa0 : w3.cell? ⟨w2.heap.size, 0, none⟩ = some (.int .i64 r0) := by rw [hb3.cell (by first | (simp; done) | (simp; omega) | omega)]; first | assumption | (simp; done) | (simp [go_sem]; done) | (simp [go_sem, *]; done)
  have pa1 : w3.cell? ⟨w2.heap.size, 1, none⟩ = some (.int .i64 r1) := by rw [hb3.cell (by first | (simp; done) | (simp; omega) | omega)]; first | assumption | (simp; done) | (simp [go_sem]; done) | (simp [go_sem, *]; done)
  have pa2 : w3.cell? ⟨w2.heap.size, 2, none⟩ = some (.int .i64 r2) := by rw [hb3.cell (by first | (simp; done) | (simp; omega) | omega)]; first | assumption | (simp; done) | (simp [go_sem]; done) | (simp [go_sem, *]; done)
  have pa3 : w3.cell? ⟨w2.heap.size, 3, none⟩ = some (.int .i64 r3) := by rw [hb3.cell (by first | (simp; done) | (simp; omega) | omega)]; first | assumption | (simp; done) | (simp [go_sem]; done) | (simp [go_sem, *]; done)
  have hc3 : Below w.heap.size w w3 := Below.trans (by go_grown) (hb3.mono (by first | (simp; done) | (simp; omega) | omega))
  clear hb3 hc2
  go_wp2_with fail
  refine (use_lit r0 r1 r2 r3 d 0 0 0 (by unfold OkTok; omega) _).mono ?_; rintro e w4 ⟨rfl, hb4⟩
  have z4 := hb4.size
  simp at z4
  have l3 : w.heap.size < w4.heap.size := by omega
  have l4 : w2.heap.size < w4.heap.size := by omega
  have l5 : w3.heap.size < w4.heap.size := by omega
  have qr0 : w4.cell? ⟨w.heap.size, 0, none⟩ = some (.int .i64 r0) := by rw [hb4.cell (by first | (simp; done) | (simp; omega) | omega)]; first | assumption | (simp; done) | (simp [go_sem]; done) | (simp [go_sem, *]; done)
  have qr1 : w4.cell? ⟨w.heap.size, 1, none⟩ = some (.int .i64 r1) := by rw [hb4.cell (by first | (simp; done) | (simp; omega) | omega)]; first | assumption | (simp; done) | (simp [go_sem]; done) | (simp [go_sem, *]; done)
  have qr2 : w4.cell? ⟨w.heap.size, 2, none⟩ = some (.int .i64 r2) := by rw [hb4.cell (by first | (simp; done) | (simp; omega) | omega)]; first | assumption | (simp; done) | (simp [go_sem]; done) | (simp [go_sem, *]; done)
  have qr3 : w4.cell? ⟨w.heap.size, 3, none⟩ = some (.int .i64 r3) := by rw [hb4.cell (by first | (simp; done) | (simp; omega) | omega)]; first | assumption | (simp; done) | (simp [go_sem]; done) | (simp [go_sem, *]; done)
  have qa0 : w4.cell? ⟨w2.heap.size, 0, none⟩ = some (.int .i64 r0) := by rw [hb4.cell (by first | (simp; done) | (simp; omega) | omega)]; first | assumption | (simp; done) | (simp [go_sem]; done) | (simp [go_sem, *]; done)
  have qa1 : w4.cell? ⟨w2.heap.size, 1, none⟩ = some (.int .i64 r1) := by rw [hb4.cell (by first | (simp; done) | (simp; omega) | omega)]; first | assumption | (simp; done) | (simp [go_sem]; done) | (simp [go_sem, *]; done)
  have qa2 : w4.cell? ⟨w2.heap.size, 2, none⟩ = some (.int .i64 r2) := by rw [hb4.cell (by first | (simp; done) | (simp; omega) | omega)]; first | assumption | (simp; done) | (simp [go_sem]; done) | (simp [go_sem, *]; done)
  have qa3 : w4.cell? ⟨w2.heap.size, 3, none⟩ = some (.int .i64 r3) := by rw [hb4.cell (by first | (simp; done) | (simp; omega) | omega)]; first | assumption | (simp; done) | (simp [go_sem]; done) | (simp [go_sem, *]; done)
  have qb0 : w4.cell? ⟨w3.heap.size, 0, none⟩ = some (.int .i64 (d + 1)) := by rw [hb4.cell (by first | (simp; done) | (simp; omega) | omega)]; first | assumption | (simp; done) | (simp [go_sem]; done) | (simp [go_sem, *]; done)
  have qb1 : w4.cell? ⟨w3.heap.size, 1, none⟩ = some (.int .i64 r0) := by rw [hb4.cell (by first | (simp; done) | (simp; omega) | omega)]; first | assumption | (simp; done) | (simp [go_sem]; done) | (simp [go_sem, *]; done)
  have qb2 : w4.cell? ⟨w3.heap.size, 2, none⟩ = some (.int .i64 r1) := by rw [hb4.cell (by first | (simp; done) | (simp; omega) | omega)]; first | assumption | (simp; done) | (simp [go_sem]; done) | (simp [go_sem, *]; done)
  have qb3 : w4.cell? ⟨w3.heap.size, 3, none⟩ = some (.int .i64 r2) := by rw [hb4.cell (by first | (simp; done) | (simp; omega) | omega)]; first | assumption | (simp; done) | (simp [go_sem]; done) | (simp [go_sem, *]; done)
  have hc4 : Below w.heap.size w w4 := Below.trans (by go_grown) (hb4.mono (by first | (simp; done) | (simp; omega) | omega))
  clear hb4 hc3
  clear or0 or1 or2 or3 pr0 pr1 pr2 pr3 pa0 pa1 pa2 pa3
  go_wp2_with fail
  go_quiet (fail)
  go_wp2_with fail
  refine wp_loop_rounds 4 ?_
  rw [rounds_succ]
  go_wp2_with fail
  go_quiet (fail)
  go_wp2_with fail
  rw [rounds_succ]
  go_wp2_with fail
  go_quiet (fail)
  go_wp2_with fail
  rw [rounds_succ]
  go_wp2_with fail
  go_quiet (fail)
  go_wp2_with fail
  rw [rounds_succ]
  go_wp2_with fail
  refine (awake17 _).mono ?_; rintro e w5 ⟨rfl, hb5⟩
  have hc5 : Below w.heap.size w w5 := Below.trans (below_drewN (by go_grown) _) (hb5.mono (by first | (simp; done) | (simp; omega) | omega))
  go_wp2_with fail
  go_ret
  exact ⟨rfl, hc5⟩
set_option maxHeartbeats 3200000 in
theorem moves_in1 (r0 r1 r2 r3 n d : Int) (w : World) (n0 : 0 ≤ n) (n1 : n ≤ 255) (d0 : 0 ≤ d) (d1 : d ≤ 255) (g0 : 1 ≤ r0) (k0 : r0 ≤ 67108864) (g1 : 1 ≤ r1) (k1 : r1 ≤ 67108864) (g2 : 1 ≤ r2) (k2 : r2 ≤ 67108864) (g3 : 1 ≤ r3) (k3 : r3 ≤ 67108864) (hk : n % 4 = 1) : Calls Try.prog 8 #[.agg #[.int .i64 r0, .int .i64 r1, .int .i64 r2, .int .i64 r3], .int .u8 n, .int .u8 d] w fun e w' => e = .returned (.bool true) ∧ Below w.heap.size w w' := by
  have e1 : ∀ w, (binOp .neq 47 (.agg #[.int .i64 r0, .int .i64 r1, .int .i64 r2, .int .i64 r3]) (.agg #[.int .i64 r0, .int .i64 r1, .int .i64 r2, .int .i64 r3])).run Try.prog w = .ok (.bool false) w := fun w => by
    rw [run_neq_ints4 47 3 _ r0 r1 r2 r3 r0 r1 r2 r3 w (by kernel_rfl) (by kernel_rfl) rfl (by kernel_rfl)]; simp
  go_enter Try.func8, Try.ntmps8
  go_wp2_with fail
  refine wp_loop_rounds 5 ?_
  rw [rounds_succ]
  go_wp2_with fail
  rw [rounds_succ]
  go_wp2_with fail
  rw [rounds_succ]
  go_wp2_with fail
  rw [rounds_succ]
  go_wp2_with fail
  rw [rounds_succ]
  go_wp2_with fail
  refine (use_rep1 r0 r1 r2 r3 0 3 0 (by unfold OkTok; omega) (by omega) (by omega) _).mono ?_; rintro e w2 ⟨rfl, hb2⟩
  have z2 := hb2.size
  simp at z2
  have l0 : w.heap.size < w2.heap.size := by omega
  have or0 : w2.cell? ⟨w.heap.size, 0, none⟩ = some (.int .i64 r0) := by rw [hb2.cell (by first | (simp; done) | (simp; omega) | omega)]; first | assumption | (simp; done) | (simp [go_sem]; done) | (simp [go_sem, *]; done)
  have or1 : w2.cell? ⟨w.heap.size, 1, none⟩ = some (.int .i64 r1) := by rw [hb2.cell (by first | (simp; done) | (simp; omega) | omega)]; first | assumption | (simp; done) | (simp [go_sem]; done) | (simp [go_sem, *]; done)
  have or2 : w2.cell? ⟨w.heap.size, 2, none⟩ = some (.int .i64 r2) := by rw [hb2.cell (by first | (simp; done) | (simp; omega) | omega)]; first | assumption | (simp; done) | (simp [go_sem]; done) | (simp [go_sem, *]; done)
  have or3 : w2.cell? ⟨w.heap.size, 3, none⟩ = some (.int .i64 r3) := by rw [hb2.cell (by first | (simp; done) | (simp; omega) | omega)]; first | assumption | (simp; done) | (simp [go_sem]; done) | (simp [go_sem, *]; done)
  have hc2 : Below w.heap.size w w2 := Below.trans (by go_grown) (hb2.mono (by first | (simp; done) | (simp; omega) | omega))
  clear hb2
  go_wp2_with fail
  refine (use_copy r0 r1 r2 r3 0 3 (d + 1) 0 (by unfold OkTok; omega) _).mono ?_; rintro e w3 ⟨rfl, hb3⟩
  have z3 := hb3.size
  simp at z3
  have l1 : w.heap.size < w3.heap.size := by omega
  have l2 : w2.heap.size < w3.heap.size := by omega
  have pr0 : w3.cell? ⟨w.heap.size, 0, none⟩ = some (.int .i64 r0) := by rw [hb3.cell (by first | (simp; done) | (simp; omega) | omega)]; first | assumption | (simp; done) | (simp [go_sem]; done) | (simp [go_sem, *]; done)
  have pr1 : w3.cell? ⟨w.heap.size, 1, none⟩ = some (.int .i64 r1) := by rw [hb3.cell (by first | (simp; done) | (simp; omega) | omega)]; first | assumption | (simp; done) | (simp [go_sem]; done) | (simp [go_sem, *]; done)
  have pr2 : w3.cell? ⟨w.heap.size, 2, none⟩ = some (.int .i64 r2) := by rw [hb3.cell (by first | (simp; done) | (simp; omega) | omega)]; first | assumption | (simp; done) | (simp [go_sem]; done) | (simp [go_sem, *]; done)
  have pr3 : w3.cell? ⟨w.heap.size, 3, none⟩ = some (.int .i64 r3) := by rw [hb3.cell (by first | (simp; done) | (simp; omega) | omega)]; first | assumption | (simp; done) | (simp [go_sem]; done) | (simp [go_sem, *]; done)
  have pa0 : w3.cell? ⟨w2.heap.size, 0, none⟩ = some (.int .i64 r1) := by rw [hb3.cell (by first | (simp; done) | (simp; omega) | omega)]; first | assumption | (simp; done) | (simp [go_sem]; done) | (simp [go_sem, *]; done)
  have pa1 : w3.cell? ⟨w2.heap.size, 1, none⟩ = some (.int .i64 r0) := by rw [hb3.cell (by first | (simp; done) | (simp; omega) | omega)]; first | assumption | (simp; done) | (simp [go_sem]; done) | (simp [go_sem, *]; done)
  have pa2 : w3.cell? ⟨w2.heap.size, 2, none⟩ = some (.int .i64 r2) := by rw [hb3.cell (by first | (simp; done) | (simp; omega) | omega)]; first | assumption | (simp; done) | (simp [go_sem]; done) | (simp [go_sem, *]; done)
  have pa3 : w3.cell? ⟨w2.heap.size, 3, none⟩ = some (.int .i64 r3) := by rw [hb3.cell (by first | (simp; done) | (simp; omega) | omega)]; first | assumption | (simp; done) | (simp [go_sem]; done) | (simp [go_sem, *]; done)
  have hc3 : Below w.heap.size w w3 := Below.trans (by go_grown) (hb3.mono (by first | (simp; done) | (simp; omega) | omega))
  clear hb3 hc2
  go_wp2_with fail
  refine (use_lit r0 r1 r2 r3 d 0 0 0 (by unfold OkTok; omega) _).mono ?_; rintro e w4 ⟨rfl, hb4⟩
  have z4 := hb4.size
  simp at z4
  have l3 : w.heap.size < w4.heap.size := by omega
  have l4 : w2.heap.size < w4.heap.size := by omega
  have l5 : w3.heap.size < w4.heap.size := by omega
  have qr0 : w4.cell? ⟨w.heap.size, 0, none⟩ = some (.int .i64 r0) := by rw [hb4.cell (by first | (simp; done) | (simp; omega) | omega)]; first | assumption | (simp; done) | (simp [go_sem]; done) | (simp [go_sem, *]; done)
  have qr1 : w4.cell? ⟨w.heap.size, 1, none⟩ = some (.int .i64 r1) := by rw [hb4.cell (by first | (simp; done) | (simp; omega) | omega)]; first | assumption | (simp; done) | (simp [go_sem]; done) | (simp [go_sem, *]; done)
  have qr2 : w4.cell? ⟨w.heap.size, 2, none⟩ = some (.int .i64 r2) := by rw [hb4.cell (by first | (simp; done) | (simp; omega) | omega)]; first | assumption | (simp; done) | (simp [go_sem]; done) | (simp [go_sem, *]; done)
  have qr3 : w4.cell? ⟨w.heap.size, 3, none⟩ = some (.int .i64 r3) := by rw [hb4.cell (by first | (simp; done) | (simp; omega) | omega)]; first | assumption | (simp; done) | (simp [go_sem]; done) | (simp [go_sem, *]; done)
  have qa0 : w4.cell? ⟨w2.heap.size, 0, none⟩ = some (.int .i64 r1) := by rw [hb4.cell (by first | (simp; done) | (simp; omega) | omega)]; first | assumption | (simp; done) | (simp [go_sem]; done) | (simp [go_sem, *]; done)
  have qa1 : w4.cell? ⟨w2.heap.size, 1, none⟩ = some (.int .i64 r0) := by rw [hb4.cell (by first | (simp; done) | (simp; omega) | omega)]; first | assumption | (simp; done) | (simp [go_sem]; done) | (simp [go_sem, *]; done)
  have qa2 : w4.cell? ⟨w2.heap.size, 2, none⟩ = some (.int .i64 r2) := by rw [hb4.cell (by first | (simp; done) | (simp; omega) | omega)]; first | assumption | (simp; done) | (simp [go_sem]; done) | (simp [go_sem, *]; done)
  have qa3 : w4.cell? ⟨w2.heap.size, 3, none⟩ = some (.int .i64 r3) := by rw [hb4.cell (by first | (simp; done) | (simp; omega) | omega)]; first | assumption | (simp; done) | (simp [go_sem]; done) | (simp [go_sem, *]; done)
  have qb0 : w4.cell? ⟨w3.heap.size, 0, none⟩ = some (.int .i64 (d + 1)) := by rw [hb4.cell (by first | (simp; done) | (simp; omega) | omega)]; first | assumption | (simp; done) | (simp [go_sem]; done) | (simp [go_sem, *]; done)
  have qb1 : w4.cell? ⟨w3.heap.size, 1, none⟩ = some (.int .i64 r0) := by rw [hb4.cell (by first | (simp; done) | (simp; omega) | omega)]; first | assumption | (simp; done) | (simp [go_sem]; done) | (simp [go_sem, *]; done)
  have qb2 : w4.cell? ⟨w3.heap.size, 2, none⟩ = some (.int .i64 r1) := by rw [hb4.cell (by first | (simp; done) | (simp; omega) | omega)]; first | assumption | (simp; done) | (simp [go_sem]; done) | (simp [go_sem, *]; done)
  have qb3 : w4.cell? ⟨w3.heap.size, 3, none⟩ = some (.int .i64 r2) := by rw [hb4.cell (by first | (simp; done) | (simp; omega) | omega)]; first | assumption | (simp; done) | (simp [go_sem]; done) | (simp [go_sem, *]; done)
  have hc4 : Below w.heap.size w w4 := Below.trans (by go_grown) (hb4.mono (by first | (simp; done) | (simp; omega) | omega))
  clear hb4 hc3
  clear or0 or1 or2 or3 pr0 pr1 pr2 pr3 pa0 pa1 pa2 pa3
  go_wp2_with fail
  go_quiet (fail)
  go_wp2_with fail
  refine wp_loop_rounds 4 ?_
  rw [rounds_succ]
  go_wp2_with fail
  go_quiet (fail)
  go_wp2_with fail
  rw [rounds_succ]
  go_wp2_with fail
  go_quiet (fail)
  go_wp2_with fail
  rw [rounds_succ]
  go_wp2_with fail
  go_quiet (fail)
  go_wp2_with fail
  rw [rounds_succ]
  go_wp2_with fail
  refine (awake17 _).mono ?_; rintro e w5 ⟨rfl, hb5⟩
  have hc5 : Below w.heap.size w w5 := Below.trans (below_drewN (by go_grown) _) (hb5.mono (by first | (simp; done) | (simp; omega) | omega))
  go_wp2_with fail
  go_ret
  exact ⟨rfl, hc5⟩
set_option maxHeartbeats 3200000 in
theorem moves_in2 (r0 r1 r2 r3 n d : Int) (w : World) (n0 : 0 ≤ n) (n1 : n ≤ 255) (d0 : 0 ≤ d) (d1 : d ≤ 255) (g0 : 1 ≤ r0) (k0 : r0 ≤ 67108864) (g1 : 1 ≤ r1) (k1 : r1 ≤ 67108864) (g2 : 1 ≤ r2) (k2 : r2 ≤ 67108864) (g3 : 1 ≤ r3) (k3 : r3 ≤ 67108864) (hk : n % 4 = 2) : Calls Try.prog 8 #[.agg #[.int .i64 r0, .int .i64 r1, .int .i64 r2, .int .i64 r3], .int .u8 n, .int .u8 d] w fun e w' => e = .returned (.bool true) ∧ Below w.heap.size w w' := by
  have e1 : ∀ w, (binOp .neq 47 (.agg #[.int .i64 r0, .int .i64 r1, .int .i64 r2, .int .i64 r3]) (.agg #[.int .i64 r0, .int .i64 r1, .int .i64 r2, .int .i64 r3])).run Try.prog w = .ok (.bool false) w := fun w => by
    rw [run_neq_ints4 47 3 _ r0 r1 r2 r3 r0 r1 r2 r3 w (by kernel_rfl) (by kernel_rfl) rfl (by kernel_rfl)]; simp
  go_enter Try.func8, Try.ntmps8
  go_wp2_with fail
  refine wp_loop_rounds 5 ?_
  rw [rounds_succ]
  go_wp2_with fail
  rw [rounds_succ]
  go_wp2_with fail
  rw [rounds_succ]
  go_wp2_with fail
  rw [rounds_succ]
  go_wp2_with fail
  rw [rounds_succ]
  go_wp2_with fail
  refine (use_rep2 r0 r1 r2 r3 0 3 0 (by unfold OkTok; omega) (by omega) (by omega) _).mono ?_; rintro e w2 ⟨rfl, hb2⟩
  have z2 := hb2.size
  simp at z2
  have l0 : w.heap.size < w2.heap.size := by omega
  have or0 : w2.cell? ⟨w.heap.size, 0, none⟩ = some (.int .i64 r0) := by rw [hb2.cell (by first | (simp; done) | (simp; omega) | omega)]; first | assumption | (simp; done) | (simp [go_sem]; done) | (simp [go_sem, *]; done)
  have or1 : w2.cell? ⟨w.heap.size, 1, none⟩ = some (.int .i64 r1) := by rw [hb2.cell (by first | (simp; done) | (simp; omega) | omega)]; first | assumption | (simp; done) | (simp [go_sem]; done) | (simp [go_sem, *]; done)
  have or2 : w2.cell? ⟨w.heap.size, 2, none⟩ = some (.int .i64 r2) := by rw [hb2.cell (by first | (simp; done) | (simp; omega) | omega)]; first | assumption | (simp; done) | (simp [go_sem]; done) | (simp [go_sem, *]; done)
  have or3 : w2.cell? ⟨w.heap.size, 3, none⟩ = some (.int .i64 r3) := by rw [hb2.cell (by first | (simp; done) | (simp; omega) | omega)]; first | assumption | (simp; done) | (simp [go_sem]; done) | (simp [go_sem, *]; done)
  have hc2 : Below w.heap.size w w2 := Below.trans (by go_grown) (hb2.mono (by first | (simp; done) | (simp; omega) | omega))
  clear hb2
  go_wp2_with fail
  refine (use_copy r0 r1 r2 r3 0 3 (d + 1) 0 (by unfold OkTok; omega) _).mono ?_; rintro e w3 ⟨rfl, hb3⟩
  have z3 := hb3.size
  simp at z3
  have l1 : w.heap.size < w3.heap.size := by omega
  have l2 : w2.heap.size < w3.heap.size := by omega
  have pr0 : w3.cell? ⟨w.heap.size, 0, none⟩ = some (.int .i64 r0) := by rw [hb3.cell (by first | (simp; done) | (simp; omega) | omega)]; first | assumption | (simp; done) | (simp [go_sem]; done) | (simp [go_sem, *]; done)
  have pr1 : w3.cell? ⟨w.heap.size, 1, none⟩ = some (.int .i64 r1) := by rw [hb3.cell (by first | (simp; done) | (simp; omega) | omega)]; first | assumption | (simp; done) | (simp [go_sem]; done) | (simp [go_sem, *]; done)
  have pr2 : w3.cell? ⟨w.heap.size, 2, none⟩ = some (.int .i64 r2) := by rw [hb3.cell (by first | (simp; done) | (simp; omega) | omega)]; first | assumption | (simp; done) | (simp [go_sem]; done) | (simp [go_sem, *]; done)
  have pr3 : w3.cell? ⟨w.heap.size, 3, none⟩ = some (.int .i64 r3) := by rw [hb3.cell (by first | (simp; done) | (simp; omega) | omega)]; first | assumption | (simp; done) | (simp [go_sem]; done) | (simp [go_sem, *]; done)
  have pa0 : w3.cell? ⟨w2.heap.size, 0, none⟩ = some (.int .i64 r2) := by rw [hb3.cell (by first | (simp; done) | (simp; omega) | omega)]; first | assumption | (simp; done) | (simp [go_sem]; done) | (simp [go_sem, *]; done)
  have pa1 : w3.cell? ⟨w2.heap.size, 1, none⟩ = some (.int .i64 r0) := by rw [hb3.cell (by first | (simp; done) | (simp; omega) | omega)]; first | assumption | (simp; done) | (simp [go_sem]; done) | (simp [go_sem, *]; done)
  have pa2 : w3.cell? ⟨w2.heap.size, 2, none⟩ = some (.int .i64 r1) := by rw [hb3.cell (by first | (simp; done) | (simp; omega) | omega)]; first | assumption | (simp; done) | (simp [go_sem]; done) | (simp [go_sem, *]; done)
  have pa3 : w3.cell? ⟨w2.heap.size, 3, none⟩ = some (.int .i64 r3) := by rw [hb3.cell (by first | (simp; done) | (simp; omega) | omega)]; first | assumption | (simp; done) | (simp [go_sem]; done) | (simp [go_sem, *]; done)
  have hc3 : Below w.heap.size w w3 := Below.trans (by go_grown) (hb3.mono (by first | (simp; done) | (simp; omega) | omega))
  clear hb3 hc2
  go_wp2_with fail
  refine (use_lit r0 r1 r2 r3 d 0 0 0 (by unfold OkTok; omega) _).mono ?_; rintro e w4 ⟨rfl, hb4⟩
  have z4 := hb4.size
  simp at z4
  have l3 : w.heap.size < w4.heap.size := by omega
  have l4 : w2.heap.size < w4.heap.size := by omega
  have l5 : w3.heap.size < w4.heap.size := by omega
  have qr0 : w4.cell? ⟨w.heap.size, 0, none⟩ = some (.int .i64 r0) := by rw [hb4.cell (by first | (simp; done) | (simp; omega) | omega)]; first | assumption | (simp; done) | (simp [go_sem]; done) | (simp [go_sem, *]; done)
  have qr1 : w4.cell? ⟨w.heap.size, 1, none⟩ = some (.int .i64 r1) := by rw [hb4.cell (by first | (simp; done) | (simp; omega) | omega)]; first | assumption | (simp; done) | (simp [go_sem]; done) | (simp [go_sem, *]; done)
  have qr2 : w4.cell? ⟨w.heap.size, 2, none⟩ = some (.int .i64 r2) := by rw [hb4.cell (by first | (simp; done) | (simp; omega) | omega)]; first | assumption | (simp; done) | (simp [go_sem]; done) | (simp [go_sem, *]; done)
  have qr3 : w4.cell? ⟨w.heap.size, 3, none⟩ = some (.int .i64 r3) := by rw [hb4.cell (by first | (simp; done) | (simp; omega) | omega)]; first | assumption | (simp; done) | (simp [go_sem]; done) | (simp [go_sem, *]; done)
  have qa0 : w4.cell? ⟨w2.heap.size, 0, none⟩ = some (.int .i64 r2) := by rw [hb4.cell (by first | (simp; done) | (simp; omega) | omega)]; first | assumption | (simp; done) | (simp [go_sem]; done) | (simp [go_sem, *]; done)
  have qa1 : w4.cell? ⟨w2.heap.size, 1, none⟩ = some (.int .i64 r0) := by rw [hb4.cell (by first | (simp; done) | (simp; omega) | omega)]; first | assumption | (simp; done) | (simp [go_sem]; done) | (simp [go_sem, *]; done)
  have qa2 : w4.cell? ⟨w2.heap.size, 2, none⟩ = some (.int .i64 r1) := by rw [hb4.cell (by first | (simp; done) | (simp; omega) | omega)]; first | assumption | (simp; done) | (simp [go_sem]; done) | (simp [go_sem, *]; done)
  have qa3 : w4.cell? ⟨w2.heap.size, 3, none⟩ = some (.int .i64 r3) := by rw [hb4.cell (by first | (simp; done) | (simp; omega) | omega)]; first | assumption | (simp; done) | (simp [go_sem]; done) | (simp [go_sem, *]; done)
  have qb0 : w4.cell? ⟨w3.heap.size, 0, none⟩ = some (.int .i64 (d + 1)) := by rw [hb4.cell (by first | (simp; done) | (simp; omega) | omega)]; first | assumption | (simp; done) | (simp [go_sem]; done) | (simp [go_sem, *]; done)
  have qb1 : w4.cell? ⟨w3.heap.size, 1, none⟩ = some (.int .i64 r0) := by rw [hb4.cell (by first | (simp; done) | (simp; omega) | omega)]; first | assumption | (simp; done) | (simp [go_sem]; done) | (simp [go_sem, *]; done)
  have qb2 : w4.cell? ⟨w3.heap.size, 2, none⟩ = some (.int .i64 r1) := by rw [hb4.cell (by first | (simp; done) | (simp; omega) | omega)]; first | assumption | (simp; done) | (simp [go_sem]; done) | (simp [go_sem, *]; done)
  have qb3 : w4.cell? ⟨w3.heap.size, 3, none⟩ = some (.int .i64 r2) := by rw [hb4.cell (by first | (simp; done) | (simp; omega) | omega)]; first | assumption | (simp; done) | (simp [go_sem]; done) | (simp [go_sem, *]; done)
  have hc4 : Below w.heap.size w w4 := Below.trans (by go_grown) (hb4.mono (by first | (simp; done) | (simp; omega) | omega))
  clear hb4 hc3
  clear or0 or1 or2 or3 pr0 pr1 pr2 pr3 pa0 pa1 pa2 pa3
  go_wp2_with fail
  go_quiet (fail)
  go_wp2_with fail
  refine wp_loop_rounds 4 ?_
  rw [rounds_succ]
  go_wp2_with fail
  go_quiet (fail)
  go_wp2_with fail
  rw [rounds_succ]
  go_wp2_with fail
  go_quiet (fail)
  go_wp2_with fail
  rw [rounds_succ]
  go_wp2_with fail
  go_quiet (fail)
  go_wp2_with fail
  rw [rounds_succ]
  go_wp2_with fail
  refine (awake17 _).mono ?_; rintro e w5 ⟨rfl, hb5⟩
  have hc5 : Below w.heap.size w w5 := Below.trans (below_drewN (by go_grown) _) (hb5.mono (by first | (simp; done) | (simp; omega) | omega))
  go_wp2_with fail
  go_ret
  exact ⟨rfl, hc5⟩
set_option maxHeartbeats 3200000 in
theorem moves_in3 (r0 r1 r2 r3 n d : Int) (w : World) (n0 : 0 ≤ n) (n1 : n ≤ 255) (d0 : 0 ≤ d) (d1 : d ≤ 255) (g0 : 1 ≤ r0) (k0 : r0 ≤ 67108864) (g1 : 1 ≤ r1) (k1 : r1 ≤ 67108864) (g2 : 1 ≤ r2) (k2 : r2 ≤ 67108864) (g3 : 1 ≤ r3) (k3 : r3 ≤ 67108864) (hk : n % 4 = 3) : Calls Try.prog 8 #[.agg #[.int .i64 r0, .int .i64 r1, .int .i64 r2, .int .i64 r3], .int .u8 n, .int .u8 d] w fun e w' => e = .returned (.bool true) ∧ Below w.heap.size w w' := by
  have e1 : ∀ w, (binOp .neq 47 (.agg #[.int .i64 r0, .int .i64 r1, .int .i64 r2, .int .i64 r3]) (.agg #[.int .i64 r0, .int .i64 r1, .int .i64 r2, .int .i64 r3])).run Try.prog w = .ok (.bool false) w := fun w => by
    rw [run_neq_ints4 47 3 _ r0 r1 r2 r3 r0 r1 r2 r3 w (by kernel_rfl) (by kernel_rfl) rfl (by kernel_rfl)]; simp
  go_enter Try.func8, Try.ntmps8
  go_wp2_with fail
  refine wp_loop_rounds 5 ?_
  rw [rounds_succ]
  go_wp2_with fail
  rw [rounds_succ]
  go_wp2_with fail
  rw [rounds_succ]
  go_wp2_with fail
  rw [rounds_succ]
  go_wp2_with fail
  rw [rounds_succ]
  go_wp2_with fail
  refine (use_rep3 r0 r1 r2 r3 0 3 0 (by unfold OkTok; omega) (by omega) (by omega) _).mono ?_; rintro e w2 ⟨rfl, hb2⟩
  have z2 := hb2.size
  simp at z2
  have l0 : w.heap.size < w2.heap.size := by omega
  have or0 : w2.cell? ⟨w.heap.size, 0, none⟩ = some (.int .i64 r0) := by rw [hb2.cell (by first | (simp; done) | (simp; omega) | omega)]; first | assumption | (simp; done) | (simp [go_sem]; done) | (simp [go_sem, *]; done)
  have or1 : w2.cell? ⟨w.heap.size, 1, none⟩ = some (.int .i64 r1) := by rw [hb2.cell (by first | (simp; done) | (simp; omega) | omega)]; first | assumption | (simp; done) | (simp [go_sem]; done) | (simp [go_sem, *]; done)
  have or2 : w2.cell? ⟨w.heap.size, 2, none⟩ = some (.int .i64 r2) := by rw [hb2.cell (by first | (simp; done) | (simp; omega) | omega)]; first | assumption | (simp; done) | (simp [go_sem]; done) | (simp [go_sem, *]; done)
  have or3 : w2.cell? ⟨w.heap.size, 3, none⟩ = some (.int .i64 r3) := by rw [hb2.cell (by first | (simp; done) | (simp; omega) | omega)]; first | assumption | (simp; done) | (simp [go_sem]; done) | (simp [go_sem, *]; done)
  have hc2 : Below w.heap.size w w2 := Below.trans (by go_grown) (hb2.mono (by first | (simp; done) | (simp; omega) | omega))
  clear hb2
  go_wp2_with fail
  refine (use_copy r0 r1 r2 r3 0 3 (d + 1) 0 (by unfold OkTok; omega) _).mono ?_; rintro e w3 ⟨rfl, hb3⟩
  have z3 := hb3.size
  simp at z3
  have l1 : w.heap.size < w3.heap.size := by omega
  have l2 : w2.heap.size < w3.heap.size := by omega
  have pr0 : w3.cell? ⟨w.heap.size, 0, none⟩ = some (.int .i64 r0) := by rw [hb3.cell (by first | (simp; done) | (simp; omega) | omega)]; first | assumption | (simp; done) | (simp [go_sem]; done) | (simp [go_sem, *]; done)
  have pr1 : w3.cell? ⟨w.heap.size, 1, none⟩ = some (.int .i64 r1) := by rw [hb3.cell (by first | (simp; done) | (simp; omega) | omega)]; first | assumption | (simp; done) | (simp [go_sem]; done) | (simp [go_sem, *]; done)
  have pr2 : w3.cell? ⟨w.heap.size, 2, none⟩ = some (.int .i64 r2) := by rw [hb3.cell (by first | (simp; done) | (simp; omega) | omega)]; first | assumption | (simp; done) | (simp [go_sem]; done) | (simp [go_sem, *]; done)
  have pr3 : w3.cell? ⟨w.heap.size, 3, none⟩ = some (.int .i64 r3) := by rw [hb3.cell (by first | (simp; done) | (simp; omega) | omega)]; first | assumption | (simp; done) | (simp [go_sem]; done) | (simp [go_sem, *]; done)
  have pa0 : w3.cell? ⟨w2.heap.size, 0, none⟩ = some (.int .i64 r3) := by rw [hb3.cell (by first | (simp; done) | (simp; omega) | omega)]; first | assumption | (simp; done) | (simp [go_sem]; done) | (simp [go_sem, *]; done)
  have pa1 : w3.cell? ⟨w2.heap.size, 1, none⟩ = some (.int .i64 r0) := by rw [hb3.cell (by first | (simp; done) | (simp; omega) | omega)]; first | assumption | (simp; done) | (simp [go_sem]; done) | (simp [go_sem, *]; done)
  have pa2 : w3.cell? ⟨w2.heap.size, 2, none⟩ = some (.int .i64 r1) := by rw [hb3.cell (by first | (simp; done) | (simp; omega) | omega)]; first | assumption | (simp; done) | (simp [go_sem]; done) | (simp [go_sem, *]; done)
  have pa3 : w3.cell? ⟨w2.heap.size, 3, none⟩ = some (.int .i64 r2) := by rw [hb3.cell (by first | (simp; done) | (simp; omega) | omega)]; first | assumption | (simp; done) | (simp [go_sem]; done) | (simp [go_sem, *]; done)
  have hc3 : Below w.heap.size w w3 := Below.trans (by go_grown) (hb3.mono (by first | (simp; done) | (simp; omega) | omega))
  clear hb3 hc2
  go_wp2_with fail
  refine (use_lit r0 r1 r2 r3 d 0 0 0 (by unfold OkTok; omega) _).mono ?_; rintro e w4 ⟨rfl, hb4⟩
  have z4 := hb4.size
  simp at z4
  have l3 : w.heap.size < w4.heap.size := by omega
  have l4 : w2.heap.size < w4.heap.size := by omega
  have l5 : w3.heap.size < w4.heap.size := by omega
  have qr0 : w4.cell? ⟨w.heap.size, 0, none⟩ = some (.int .i64 r0) := by rw [hb4.cell (by first | (simp; done) | (simp; omega) | omega)]; first | assumption | (simp; done) | (simp [go_sem]; done) | (simp [go_sem, *]; done)
  have qr1 : w4.cell? ⟨w.heap.size, 1, none⟩ = some (.int .i64 r1) := by rw [hb4.cell (by first | (simp; done) | (simp; omega) | omega)]; first | assumption | (simp; done) | (simp [go_sem]; done) | (simp [go_sem, *]; done)
  have qr2 : w4.cell? ⟨w.heap.size, 2, none⟩ = some (.int .i64 r2) := by rw [hb4.cell (by first | (simp; done) | (simp; omega) | omega)]; first | assumption | (simp; done) | (simp [go_sem]; done) | (simp [go_sem, *]; done)
  have qr3 : w4.cell? ⟨w.heap.size, 3, none⟩ = some (.int .i64 r3) := by rw [hb4.cell (by first | (simp; done) | (simp; omega) | omega)]; first | assumption | (simp; done) | (simp [go_sem]; done) | (simp [go_sem, *]; done)
  have qa0 : w4.cell? ⟨w2.heap.size, 0, none⟩ = some (.int .i64 r3) := by rw [hb4.cell (by first | (simp; done) | (simp; omega) | omega)]; first | assumption | (simp; done) | (simp [go_sem]; done) | (simp [go_sem, *]; done)
  have qa1 : w4.cell? ⟨w2.heap.size, 1, none⟩ = some (.int .i64 r0) := by rw [hb4.cell (by first | (simp; done) | (simp; omega) | omega)]; first | assumption | (simp; done) | (simp [go_sem]; done) | (simp [go_sem, *]; done)
  have qa2 : w4.cell? ⟨w2.heap.size, 2, none⟩ = some (.int .i64 r1) := by rw [hb4.cell (by first | (simp; done) | (simp; omega) | omega)]; first | assumption | (simp; done) | (simp [go_sem]; done) | (simp [go_sem, *]; done)
  have qa3 : w4.cell? ⟨w2.heap.size, 3, none⟩ = some (.int .i64 r2) := by rw [hb4.cell (by first | (simp; done) | (simp; omega) | omega)]; first | assumption | (simp; done) | (simp [go_sem]; done) | (simp [go_sem, *]; done)
  have qb0 : w4.cell? ⟨w3.heap.size, 0, none⟩ = some (.int .i64 (d + 1)) := by rw [hb4.cell (by first | (simp; done) | (simp; omega) | omega)]; first | assumption | (simp; done) | (simp [go_sem]; done) | (simp [go_sem, *]; done)
  have qb1 : w4.cell? ⟨w3.heap.size, 1, none⟩ = some (.int .i64 r0) := by rw [hb4.cell (by first | (simp; done) | (simp; omega) | omega)]; first | assumption | (simp; done) | (simp [go_sem]; done) | (simp [go_sem, *]; done)
  have qb2 : w4.cell? ⟨w3.heap.size, 2, none⟩ = some (.int .i64 r1) := by rw [hb4.cell (by first | (simp; done) | (simp; omega) | omega)]; first | assumption | (simp; done) | (simp [go_sem]; done) | (simp [go_sem, *]; done)
  have qb3 : w4.cell? ⟨w3.heap.size, 3, none⟩ = some (.int .i64 r2) := by rw [hb4.cell (by first | (simp; done) | (simp; omega) | omega)]; first | assumption | (simp; done) | (simp [go_sem]; done) | (simp [go_sem, *]; done)
  have hc4 : Below w.heap.size w w4 := Below.trans (by go_grown) (hb4.mono (by first | (simp; done) | (simp; omega) | omega))
  clear hb4 hc3
  clear or0 or1 or2 or3 pr0 pr1 pr2 pr3 pa0 pa1 pa2 pa3
  go_wp2_with fail
  go_quiet (fail)
  go_wp2_with fail
  refine wp_loop_rounds 4 ?_
  rw [rounds_succ]
  go_wp2_with fail
  go_quiet (fail)
  go_wp2_with fail
  rw [rounds_succ]
  go_wp2_with fail
  go_quiet (fail)
  go_wp2_with fail
  rw [rounds_succ]
  go_wp2_with fail
  go_quiet (fail)
  go_wp2_with fail
  rw [rounds_succ]
  go_wp2_with fail
  refine (awake17 _).mono ?_; rintro e w5 ⟨rfl, hb5⟩
  have hc5 : Below w.heap.size w w5 := Below.trans (below_drewN (by go_grown) _) (hb5.mono (by first | (simp; done) | (simp; omega) | omega))
  go_wp2_with fail
  go_ret
  exact ⟨rfl, hc5⟩

theorem walk (b0_0 : Int) (b0_1 : Int) (b0_2 : Int) (b0_3 : Int) (a1 : Int) (a2 : Int) (w : World) (w0_0 : (Lit.int .i64 b0_0).wf = true) (w0_1 : (Lit.int .i64 b0_1).wf = true) (w0_2 : (Lit.int .i64 b0_2).wf = true) (w0_3 : (Lit.int .i64 b0_3).wf = true) (w1 : (Lit.int .u8 a1).wf = true) (w2 : (Lit.int .u8 a2).wf = true) :
    Calls Try.prog 8 #[.agg #[.int .i64 b0_0, .int .i64 b0_1, .int .i64 b0_2, .int .i64 b0_3], .int .u8 a1, .int .u8 a2] w fun e w' => e = .returned (.bool true) ∧ Below w.heap.size w w' := by
  obtain ⟨n0, n1⟩ := bounds_u8 w1
  obtain ⟨d0, d1⟩ := bounds_u8 w2
  by_cases h0 : b0_0 < 1 ∨ 67108864 < b0_0
  · exact moves_out0 _ _ _ _ _ _ w (by omega) (by omega) (by omega) (by omega) h0
  by_cases h1 : b0_1 < 1 ∨ 67108864 < b0_1
  · exact moves_out1 _ _ _ _ _ _ w (by omega) (by omega) (by omega) (by omega) (by omega) (by omega) h1
  by_cases h2 : b0_2 < 1 ∨ 67108864 < b0_2
  · exact moves_out2 _ _ _ _ _ _ w (by omega) (by omega) (by omega) (by omega) (by omega) (by omega) (by omega) (by omega) h2
  by_cases h3 : b0_3 < 1 ∨ 67108864 < b0_3
  · exact moves_out3 _ _ _ _ _ _ w (by omega) (by omega) (by omega) (by omega) (by omega) (by omega) (by omega) (by omega) (by omega) (by omega) h3
  rcases (show a1 % 4 = 0 ∨ a1 % 4 = 1 ∨ a1 % 4 = 2 ∨ a1 % 4 = 3 by omega) with hk | hk | hk | hk
  · exact moves_in0 _ _ _ _ _ _ w (by omega) (by omega) (by omega) (by omega) (by omega) (by omega) (by omega) (by omega) (by omega) (by omega) (by omega) (by omega) hk
  · exact moves_in1 _ _ _ _ _ _ w (by omega) (by omega) (by omega) (by omega) (by omega) (by omega) (by omega) (by omega) (by omega) (by omega) (by omega) (by omega) hk
  · exact moves_in2 _ _ _ _ _ _ w (by omega) (by omega) (by omega) (by omega) (by omega) (by omega) (by omega) (by omega) (by omega) (by omega) (by omega) (by omega) hk
  · exact moves_in3 _ _ _ _ _ _ w (by omega) (by omega) (by omega) (by omega) (by omega) (by omega) (by omega) (by omega) (by omega) (by omega) (by omega) (by omega) hk

theorem lifted (os : Os) (started : os.Started) (H : Type) (enc : TypeId × Value → H) :
    ReturnsInHanded {} Try.checked os 8 .any (Rows.repsMovesSpec.pre6 enc Try.prog Try.f8 Rows.repsMovesRow.domain false) (Rows.repsMovesSpec.post enc Try.prog Try.f8 false true false false) := by
  refine returnsInHanded_of_change (C := Try.checked) own started (by kernel_rfl) Try.func8
    (ChangeSpec.witness6 (enc := enc) (C := Try.checked) false ⟨#[], #[.agg #[.int .i64 0, .int .i64 0, .int .i64 0, .int .i64 0], .int .u8 0, .int .u8 0], []⟩ 8 (by kernel_rfl) (by kernel_rfl) (by kernel_rfl) (by kernel_rfl)) ?_
  intro W base args ds gs before hval0 hW hcnd _
  have hval : ∀ (j : Nat) t v, Try.f8.params[j]? = some t → args[j]? = some v → Value.okWide Try.prog W .any base t v := hval0
  have hW' := hW
  obtain ⟨p, q, hA0, hV, rfl, hfz, hnd⟩ := hW
  have hA : DataW.TrodAll enc Try.prog W 0 (fun _ => true) true Try.f8.params.toList args.toList ds p := hA0
  rw [Try.params8] at hA hval
  obtain ⟨v0, vs0, d0, ds0, p0, q0, hargs, rfl, rfl, h0, r0⟩ := trodAll_cons hA
  obtain ⟨v1, vs1, d1, ds1, p1, q1, rfl, rfl, rfl, h1, r1⟩ := trodAll_cons r0
  obtain ⟨v2, vs2, d2, ds2, p2, q2, rfl, rfl, rfl, h2, r2⟩ := trodAll_cons r1
  obtain ⟨rfl, rfl, rfl⟩ := trodAll_nil r2
  obtain rfl : args = #[v0, v1, v2] := by cases args; simp_all
  obtain ⟨rfl, rfl⟩ := trodVars_none hV
  have k0 := h0
  have lt0 : ∀ x ∈ p0, x.block < W.heap.size := by obtain ⟨m, hm⟩ := k0; exact DataW.trod_lt m _ _ _ hm
  obtain ⟨l, rfl, hl, hcs⟩ := agg_array Try.underlying47 (by kernel_rfl) (by kernel_rfl) (hval 0 47 v0 rfl rfl) h0
  obtain ⟨x0, x1, x2, x3, rfl⟩ := len4 l hl
  obtain ⟨n0, c, y, hc, hy⟩ := hcs 0 (by decide)
  simp only [List.getElem?_cons_zero, Option.some.injEq] at hc
  subst hc
  obtain ⟨b0_0, hc, -, w0_0⟩ := DataW.trod_int Try.underlying3 hy
  simp only [List.cons.injEq, and_true] at hc
  subst hc
  clear hy
  obtain ⟨n1, c, y, hc, hy⟩ := hcs 1 (by decide)
  simp only [List.getElem?_cons_zero, List.getElem?_cons_succ, Option.some.injEq] at hc
  subst hc
  obtain ⟨b0_1, hc, -, w0_1⟩ := DataW.trod_int Try.underlying3 hy
  simp only [List.cons.injEq, and_true] at hc
  subst hc
  clear hy
  obtain ⟨n2, c, y, hc, hy⟩ := hcs 2 (by decide)
  simp only [List.getElem?_cons_zero, List.getElem?_cons_succ, Option.some.injEq] at hc
  subst hc
  obtain ⟨b0_2, hc, -, w0_2⟩ := DataW.trod_int Try.underlying3 hy
  simp only [List.cons.injEq, and_true] at hc
  subst hc
  clear hy
  obtain ⟨n3, c, y, hc, hy⟩ := hcs 3 (by decide)
  simp only [List.getElem?_cons_zero, List.getElem?_cons_succ, Option.some.injEq] at hc
  subst hc
  obtain ⟨b0_3, hc, -, w0_3⟩ := DataW.trod_int Try.underlying3 hy
  simp only [List.cons.injEq, and_true] at hc
  subst hc
  clear hy
  clear hl hcs
  have k1 := h1
  have lt1 : ∀ x ∈ p1, x.block < W.heap.size := by obtain ⟨m, hm⟩ := k1; exact DataW.trod_lt m _ _ _ hm
  obtain ⟨a1, rfl, rfl, rfl, w1⟩ := open_int Try.underlying5 (hval 1 5 v1 rfl rfl) h1
  have k2 := h2
  have lt2 : ∀ x ∈ p2, x.block < W.heap.size := by obtain ⟨m, hm⟩ := k2; exact DataW.trod_lt m _ _ _ hm
  obtain ⟨a2, rfl, rfl, rfl, w2⟩ := open_int Try.underlying5 (hval 2 5 v2 rfl rfl) h2
  clear hA0 hval0
  refine (walk b0_0 b0_1 b0_2 b0_3 a1 a2 W w0_0 w0_1 w0_2 w0_3 w1 w2).mono fun e W' ⟨he, bel⟩ => ?_
  subst he
  exact ⟨_, rfl, _, _, _, [], _, [], hW', trodAll_mk1 (shut_bool Try.underlying4 _), (trodAll_cons_mk (Below.trod laidOut (by kernel_rfl) (of_decide_eq_true (by kernel_rfl)) k0 bel lt0) (trodAll_cons_mk (Below.trod laidOut (by kernel_rfl) (of_decide_eq_true (by kernel_rfl)) k1 bel lt1) (trodAll_cons_mk (Below.trod laidOut (by kernel_rfl) (of_decide_eq_true (by kernel_rfl)) k2 bel lt2) trodAll_mk0))), rfl, bel.frame _, fun h => by cases h⟩

theorem over : Rows.repsMovesRow.holds Try.pinned (OpenSpec.ofChange Rows.repsMovesSpec) :=
  OpenClaim.holds_of_wide 8 Try.f8 rfl rfl rfl rfl rfl rfl rfl ⟨rfl, rfl, rfl, rfl, rfl⟩ rfl rfl rfl rfl rfl (by kernel_rfl) Try.func8 (by kernel_rfl)
    (of_decide_eq_true (by kernel_rfl)) (by unfold Func.isWrapper; first | (rw [if_pos (by decide +kernel)]; kernel_rfl) | (rw [if_neg (by decide +kernel)]; exact ⟨rfl, rfl⟩))
    (fun os started H enc _ => lifted os started H enc)

theorem proved : Rows.RepsMovesSaid := over
#print axioms proved
end Go.Proofs.Ytmpmioffngonjaa.repsMoves
