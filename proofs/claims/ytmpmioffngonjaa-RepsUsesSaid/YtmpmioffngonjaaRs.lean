/- Contracts of layer 17's Find and Start with their worlds. -/
import Derived.Test.YtmpmioffngonjaaRq
namespace Go.Proofs.Ytmpmioffngonjaa
open Go.ChangeShapes Go.WideShapes Go.ChangeAt Go.RowKit
set_option linter.unusedVariables false
set_option maxRecDepth 100000
set_option maxHeartbeats 800000 in
theorem refFind_any (r0 r1 r2 r3 d : Int) (w : World) : Calls Try.prog 37 #[.agg #[.int .i64 r0, .int .i64 r1, .int .i64 r2, .int .i64 r3], .int .i64 d] w fun e w' => e = .returned (.int .i64 (find r0 r1 r2 r3 d)) ∧ Below w.heap.size w w' := by
  go_enter Try.func37, Try.ntmps37
  go_wp2
  refine wp_loop_rounds 5 ?_
  repeat any_goals (rw [rounds_succ]; go_wp2)
  · have h0 : r0 = d := by simpa using ‹(r0 == d) = true›
    go_ret
    exact ⟨ret_i (by unfold find; rw [if_pos h0]), by go_grown⟩
  · have h0 : ¬ r0 = d := by simpa using ‹(r0 == d) = false›
    have h1 : r1 = d := by simpa using ‹(r1 == d) = true›
    go_ret
    exact ⟨ret_i (by unfold find; rw [if_neg h0, if_pos h1]), by go_grown⟩
  · have h0 : ¬ r0 = d := by simpa using ‹(r0 == d) = false›
    have h1 : ¬ r1 = d := by simpa using ‹(r1 == d) = false›
    have h2 : r2 = d := by simpa using ‹(r2 == d) = true›
    go_ret
    exact ⟨ret_i (by unfold find; rw [if_neg h0, if_neg h1, if_pos h2]), by go_grown⟩
  · have h0 : ¬ r0 = d := by simpa using ‹(r0 == d) = false›
    have h1 : ¬ r1 = d := by simpa using ‹(r1 == d) = false›
    have h2 : ¬ r2 = d := by simpa using ‹(r2 == d) = false›
    have h3 : r3 = d := by simpa using ‹(r3 == d) = true›
    go_ret
    exact ⟨ret_i (by unfold find; rw [if_neg h0, if_neg h1, if_neg h2, if_pos h3]), by go_grown⟩
  · have h0 : ¬ r0 = d := by simpa using ‹(r0 == d) = false›
    have h1 : ¬ r1 = d := by simpa using ‹(r1 == d) = false›
    have h2 : ¬ r2 = d := by simpa using ‹(r2 == d) = false›
    have h3 : ¬ r3 = d := by simpa using ‹(r3 == d) = false›
    go_ret
    exact ⟨ret_i (by unfold find; rw [if_neg h0, if_neg h1, if_neg h2, if_neg h3]), by go_grown⟩
set_option maxHeartbeats 1600000 in
theorem awake17 (w : World) : Calls Try.prog 40 #[] w fun e w' => e = .returned (.bool true) ∧ Below w.heap.size w w' := by
  have e1 : ∀ w, (binOp .eql 47 (.agg #[.int .i64 3, .int .i64 1, .int .i64 2, .int .i64 4]) (.agg #[.int .i64 3, .int .i64 1, .int .i64 2, .int .i64 4])).run Try.prog w = .ok (.bool true) w := fun _ => by kernel_rfl
  have e2 : ∀ w, (binOp .eql 47 (.agg #[.int .i64 9, .int .i64 3, .int .i64 1, .int .i64 2]) (.agg #[.int .i64 9, .int .i64 3, .int .i64 1, .int .i64 2])).run Try.prog w = .ok (.bool true) w := fun _ => by kernel_rfl
  go_enter Try.func40, Try.ntmps40
  go_wp2_with fail
  refine (start_any _).mono ?_; rintro e w1 ⟨rfl, hb1⟩
  have hc1 := hb1; clear hb1
  go_wp2_with fail
  refine (use_rep2 1 2 3 4 0 2 0 (by unfold OkTok; omega) (by omega) (by omega) _).mono ?_; rintro e w2 ⟨rfl, hb2⟩
  have z2 := hb2.size
  have z1 := hc1.size
  have hc2 : Below w.heap.size w w2 := hc1.trans (hb2.mono hc1.size)
  clear hb2 hc1
  go_wp2_with fail
  refine (use_copy 3 1 2 4 0 2 9 0 (by unfold OkTok; omega) _).mono ?_; rintro e w3 ⟨rfl, hb3⟩
  have z3 := hb3.size
  simp at z3
  have l1 : w2.heap.size < w3.heap.size := by omega
  have pa0 : w3.cell? ⟨w2.heap.size, 0, none⟩ = some (.int .i64 3) := by rw [hb3.cell (by first | (simp; done) | (simp; omega) | omega)]; first | assumption | (simp; done) | (simp [go_sem]; done) | (simp [go_sem, *]; done)
  have pa1 : w3.cell? ⟨w2.heap.size, 1, none⟩ = some (.int .i64 1) := by rw [hb3.cell (by first | (simp; done) | (simp; omega) | omega)]; first | assumption | (simp; done) | (simp [go_sem]; done) | (simp [go_sem, *]; done)
  have pa2 : w3.cell? ⟨w2.heap.size, 2, none⟩ = some (.int .i64 2) := by rw [hb3.cell (by first | (simp; done) | (simp; omega) | omega)]; first | assumption | (simp; done) | (simp [go_sem]; done) | (simp [go_sem, *]; done)
  have pa3 : w3.cell? ⟨w2.heap.size, 3, none⟩ = some (.int .i64 4) := by rw [hb3.cell (by first | (simp; done) | (simp; omega) | omega)]; first | assumption | (simp; done) | (simp [go_sem]; done) | (simp [go_sem, *]; done)
  have hc3 : Below w.heap.size w w3 := Below.trans (by go_grown) (hb3.mono (by simp; omega))
  clear hb3 hc2
  go_wp2_with fail
  refine (use_off0 0 0 0 0 0 2 0 (by unfold OkTok; omega) (by omega) _).mono ?_; rintro e w4 ⟨rfl, hb4⟩
  have z4 := hb4.size
  simp at z4
  have l2 : w2.heap.size < w4.heap.size := by omega
  have l3 : w3.heap.size < w4.heap.size := by omega
  have qa0 : w4.cell? ⟨w2.heap.size, 0, none⟩ = some (.int .i64 3) := by rw [hb4.cell (by first | (simp; done) | (simp; omega) | omega)]; first | assumption | (simp; done) | (simp [go_sem]; done) | (simp [go_sem, *]; done)
  have qa1 : w4.cell? ⟨w2.heap.size, 1, none⟩ = some (.int .i64 1) := by rw [hb4.cell (by first | (simp; done) | (simp; omega) | omega)]; first | assumption | (simp; done) | (simp [go_sem]; done) | (simp [go_sem, *]; done)
  have qa2 : w4.cell? ⟨w2.heap.size, 2, none⟩ = some (.int .i64 2) := by rw [hb4.cell (by first | (simp; done) | (simp; omega) | omega)]; first | assumption | (simp; done) | (simp [go_sem]; done) | (simp [go_sem, *]; done)
  have qa3 : w4.cell? ⟨w2.heap.size, 3, none⟩ = some (.int .i64 4) := by rw [hb4.cell (by first | (simp; done) | (simp; omega) | omega)]; first | assumption | (simp; done) | (simp [go_sem]; done) | (simp [go_sem, *]; done)
  have qb0 : w4.cell? ⟨w3.heap.size, 0, none⟩ = some (.int .i64 9) := by rw [hb4.cell (by first | (simp; done) | (simp; omega) | omega)]; first | assumption | (simp; done) | (simp [go_sem]; done) | (simp [go_sem, *]; done)
  have qb1 : w4.cell? ⟨w3.heap.size, 1, none⟩ = some (.int .i64 3) := by rw [hb4.cell (by first | (simp; done) | (simp; omega) | omega)]; first | assumption | (simp; done) | (simp [go_sem]; done) | (simp [go_sem, *]; done)
  have qb2 : w4.cell? ⟨w3.heap.size, 2, none⟩ = some (.int .i64 1) := by rw [hb4.cell (by first | (simp; done) | (simp; omega) | omega)]; first | assumption | (simp; done) | (simp [go_sem]; done) | (simp [go_sem, *]; done)
  have qb3 : w4.cell? ⟨w3.heap.size, 3, none⟩ = some (.int .i64 2) := by rw [hb4.cell (by first | (simp; done) | (simp; omega) | omega)]; first | assumption | (simp; done) | (simp [go_sem]; done) | (simp [go_sem, *]; done)
  have hc4 : Below w.heap.size w w4 := Below.trans (by go_grown) (hb4.mono (by simp; omega))
  clear hb4 hc3
  go_wp2_with fail
  refine (find_any 9 3 1 2 1 _).mono ?_; rintro e w5 ⟨rfl, hb5⟩
  have z5 := hb5.size
  simp at z5
  have l4 : w3.heap.size < w5.heap.size := by omega
  have rb0 : w5.cell? ⟨w3.heap.size, 0, none⟩ = some (.int .i64 9) := by rw [hb5.cell (by first | (simp; done) | (simp; omega) | omega)]; first | assumption | (simp; done) | (simp [go_sem]; done) | (simp [go_sem, *]; done)
  have rb1 : w5.cell? ⟨w3.heap.size, 1, none⟩ = some (.int .i64 3) := by rw [hb5.cell (by first | (simp; done) | (simp; omega) | omega)]; first | assumption | (simp; done) | (simp [go_sem]; done) | (simp [go_sem, *]; done)
  have rb2 : w5.cell? ⟨w3.heap.size, 2, none⟩ = some (.int .i64 1) := by rw [hb5.cell (by first | (simp; done) | (simp; omega) | omega)]; first | assumption | (simp; done) | (simp [go_sem]; done) | (simp [go_sem, *]; done)
  have rb3 : w5.cell? ⟨w3.heap.size, 3, none⟩ = some (.int .i64 2) := by rw [hb5.cell (by first | (simp; done) | (simp; omega) | omega)]; first | assumption | (simp; done) | (simp [go_sem]; done) | (simp [go_sem, *]; done)
  have hc5 : Below w.heap.size w w5 := Below.trans (by go_grown) (hb5.mono (by simp; omega))
  clear hb5 hc4
  go_wp2_with fail
  refine (find_any 9 3 1 2 4 _).mono ?_; rintro e w6 ⟨rfl, hb6⟩
  have hc6 : Below w.heap.size w w6 := hc5.trans (hb6.mono hc5.size)
  clear hb6
  go_wp2_with fail
  go_ret
  exact ⟨rfl, hc6⟩
end Go.Proofs.Ytmpmioffngonjaa
