/- Contracts of layer 17's Use, the program's and the document's. -/
import Derived.Test.YtjpmfaodkldobaaT2
namespace Go.Proofs.Ytjpmfaodkldobaa
open Go.ChangeShapes Go.WideShapes Go.ChangeAt Go.RowKit
set_option linter.unusedVariables false
set_option maxRecDepth 100000

theorem ok_any (k b l d r : Int) (h : OkTok k b l d r) (w : World) : Calls Try.prog 96 #[.agg #[.int .i64 k, .int .i64 b, .int .i64 l, .int .i64 d, .int .i64 r]] w fun e w' => e = .returned (.int .i64 0) ∧ w' = w.alloc (.cells #[.int .i64 k, .int .i64 b, .int .i64 l, .int .i64 d, .int .i64 r] 53) := by
  have := check_ex k b l d r w; rwa [← chk_yes h] at this
theorem no_any (k b l d r : Int) (h : ¬ OkTok k b l d r) (w : World) : Calls Try.prog 96 #[.agg #[.int .i64 k, .int .i64 b, .int .i64 l, .int .i64 d, .int .i64 r]] w fun e w' => e = .returned (.int .i64 10) ∧ w' = w.alloc (.cells #[.int .i64 k, .int .i64 b, .int .i64 l, .int .i64 d, .int .i64 r] 53) := by
  have := check_ex k b l d r w; rwa [← chk_no h] at this
theorem refOk_any (k b l d r : Int) (h : OkTok k b l d r) (w : World) : Calls Try.prog 66 #[.agg #[.int .i64 k, .int .i64 b, .int .i64 l, .int .i64 d, .int .i64 r]] w fun e w' => e = .returned (.int .i64 0) ∧ w' = w.alloc (.cells #[.int .i64 k, .int .i64 b, .int .i64 l, .int .i64 d, .int .i64 r] 53) := by
  have := refCheck_ex k b l d r w; rwa [← chk_yes h] at this
theorem refNo_any (k b l d r : Int) (h : ¬ OkTok k b l d r) (w : World) : Calls Try.prog 66 #[.agg #[.int .i64 k, .int .i64 b, .int .i64 l, .int .i64 d, .int .i64 r]] w fun e w' => e = .returned (.int .i64 10) ∧ w' = w.alloc (.cells #[.int .i64 k, .int .i64 b, .int .i64 l, .int .i64 d, .int .i64 r] 53) := by
  have := refCheck_ex k b l d r w; rwa [← chk_no h] at this
theorem zeros_lit : True := trivial
set_option maxHeartbeats 800000 in
theorem use_bad (r0 r1 r2 r3 k b l d r : Int) (h : ¬ OkTok k b l d r) (w : World) : Calls Try.prog 64 #[.agg #[.int .i64 r0, .int .i64 r1, .int .i64 r2, .int .i64 r3], .agg #[.int .i64 k, .int .i64 b, .int .i64 l, .int .i64 d, .int .i64 r]] w fun e w' => e = .returned (.tuple #[.agg #[.int .i64 0, .int .i64 0, .int .i64 0, .int .i64 0], .int .i64 0, .int .i64 10]) ∧ Below w.heap.size w w' := by
  have H := Lib.hid (no_any k b l d r h); clear h
  go_enter Try.func64, Try.ntmps64
  go_wp2_with fail
  refine (H.out _).mono ?_; rintro e w1 ⟨rfl, rfl⟩
  go_wp2_with fail
  all_goals
    refine bodyPost_ret (v := .tuple #[.agg #[.int .i64 0, .int .i64 0, .int .i64 0, .int .i64 0], .int .i64 0, .int .i64 10]) (by simp [results, Try.results64, go_sem]) rfl ⟨rfl, ?_⟩
    go_grown
set_option maxHeartbeats 800000 in
theorem use_lit (r0 r1 r2 r3 b l d r : Int) (h : OkTok 0 b l d r) (w : World) : Calls Try.prog 64 #[.agg #[.int .i64 r0, .int .i64 r1, .int .i64 r2, .int .i64 r3], .agg #[.int .i64 0, .int .i64 b, .int .i64 l, .int .i64 d, .int .i64 r]] w fun e w' => e = .returned (.tuple #[.agg #[.int .i64 r0, .int .i64 r1, .int .i64 r2, .int .i64 r3], .int .i64 0, .int .i64 0]) ∧ Below w.heap.size w w' := by
  have H := Lib.hid (ok_any 0 b l d r h); clear h
  go_enter Try.func64, Try.ntmps64
  go_wp2_with fail
  refine (H.out _).mono ?_; rintro e w1 ⟨rfl, rfl⟩
  go_wp2_with fail
  all_goals
    refine bodyPost_ret (v := .tuple #[.agg #[.int .i64 r0, .int .i64 r1, .int .i64 r2, .int .i64 r3], .int .i64 0, .int .i64 0]) (by simp [results, Try.results64, go_sem]) rfl ⟨rfl, ?_⟩
    go_grown
set_option maxHeartbeats 800000 in
theorem use_copy (r0 r1 r2 r3 b l d r : Int) (h : OkTok 1 b l d r) (w : World) : Calls Try.prog 64 #[.agg #[.int .i64 r0, .int .i64 r1, .int .i64 r2, .int .i64 r3], .agg #[.int .i64 1, .int .i64 b, .int .i64 l, .int .i64 d, .int .i64 r]] w fun e w' => e = .returned (.tuple #[.agg #[.int .i64 d, .int .i64 r0, .int .i64 r1, .int .i64 r2], .int .i64 d, .int .i64 0]) ∧ Below w.heap.size w w' := by
  have H := Lib.hid (ok_any 1 b l d r h); clear h
  go_enter Try.func64, Try.ntmps64
  go_wp2_with fail
  refine (H.out _).mono ?_; rintro e w1 ⟨rfl, rfl⟩
  go_wp2_with fail
  go_region_with (go_at_call 97; refine (ahead_3 _ _ _ _ _ _).mono ?_; rintro e w2 ⟨rfl, rfl⟩)
  all_goals (try go_wp2_with fail)
  all_goals
    refine bodyPost_ret (v := .tuple #[.agg #[.int .i64 d, .int .i64 r0, .int .i64 r1, .int .i64 r2], .int .i64 d, .int .i64 0]) (by simp [results, Try.results64, go_sem]) rfl ⟨rfl, ?_⟩
    go_grown
set_option maxHeartbeats 1600000 in
theorem use_rep0 (r0 r1 r2 r3 b l d : Int) (h : OkTok 2 b l d 0) (h1 : 1 ≤ r0) (h2 : r0 ≤ 67108864) (w : World) : Calls Try.prog 64 #[.agg #[.int .i64 r0, .int .i64 r1, .int .i64 r2, .int .i64 r3], .agg #[.int .i64 2, .int .i64 b, .int .i64 l, .int .i64 d, .int .i64 0]] w fun e w' => e = .returned (.tuple #[.agg #[.int .i64 r0, .int .i64 r1, .int .i64 r2, .int .i64 r3], .int .i64 r0, .int .i64 0]) ∧ Below w.heap.size w w' := by
  have H := Lib.hid (ok_any 2 b l d 0 h); clear h
  have i0 : ∀ w, (Instr.index 41 (.agg #[.int .i64 r0, .int .i64 r1, .int .i64 r2, .int .i64 r3]) (.int .i64 0)).run Try.prog w = .ok (.int .i64 r0) w := fun _ => by kernel_rfl
  have i1 : ∀ w, (Instr.index 41 (.agg #[.int .i64 r0, .int .i64 r1, .int .i64 r2, .int .i64 r3]) (.int .i64 1)).run Try.prog w = .ok (.int .i64 r1) w := fun _ => by kernel_rfl
  have i2 : ∀ w, (Instr.index 41 (.agg #[.int .i64 r0, .int .i64 r1, .int .i64 r2, .int .i64 r3]) (.int .i64 2)).run Try.prog w = .ok (.int .i64 r2) w := fun _ => by kernel_rfl
  have i3 : ∀ w, (Instr.index 41 (.agg #[.int .i64 r0, .int .i64 r1, .int .i64 r2, .int .i64 r3]) (.int .i64 3)).run Try.prog w = .ok (.int .i64 r3) w := fun _ => by kernel_rfl
  go_enter Try.func64, Try.ntmps64
  go_wp2_with fail
  refine (H.out _).mono ?_; rintro e w1 ⟨rfl, rfl⟩
  go_wp2_with fail
  refine (ahead_0 _ _ _ _ _ _).mono ?_; rintro e w2 ⟨rfl, rfl⟩
  go_wp2_with fail
  all_goals
    refine bodyPost_ret (v := .tuple #[.agg #[.int .i64 r0, .int .i64 r1, .int .i64 r2, .int .i64 r3], .int .i64 r0, .int .i64 0]) (by simp [results, Try.results64, go_sem]) rfl ⟨rfl, ?_⟩
    go_grown
set_option maxHeartbeats 800000 in
theorem use_off0 (r0 r1 r2 r3 b l d : Int) (h : OkTok 2 b l d 0) (h1 : r0 < 1 ∨ 67108864 < r0) (w : World) : Calls Try.prog 64 #[.agg #[.int .i64 r0, .int .i64 r1, .int .i64 r2, .int .i64 r3], .agg #[.int .i64 2, .int .i64 b, .int .i64 l, .int .i64 d, .int .i64 0]] w fun e w' => e = .returned (.tuple #[.agg #[.int .i64 0, .int .i64 0, .int .i64 0, .int .i64 0], .int .i64 0, .int .i64 10]) ∧ Below w.heap.size w w' := by
  have H := Lib.hid (ok_any 2 b l d 0 h); clear h
  have i0 : ∀ w, (Instr.index 41 (.agg #[.int .i64 r0, .int .i64 r1, .int .i64 r2, .int .i64 r3]) (.int .i64 0)).run Try.prog w = .ok (.int .i64 r0) w := fun _ => by kernel_rfl
  have i1 : ∀ w, (Instr.index 41 (.agg #[.int .i64 r0, .int .i64 r1, .int .i64 r2, .int .i64 r3]) (.int .i64 1)).run Try.prog w = .ok (.int .i64 r1) w := fun _ => by kernel_rfl
  have i2 : ∀ w, (Instr.index 41 (.agg #[.int .i64 r0, .int .i64 r1, .int .i64 r2, .int .i64 r3]) (.int .i64 2)).run Try.prog w = .ok (.int .i64 r2) w := fun _ => by kernel_rfl
  have i3 : ∀ w, (Instr.index 41 (.agg #[.int .i64 r0, .int .i64 r1, .int .i64 r2, .int .i64 r3]) (.int .i64 3)).run Try.prog w = .ok (.int .i64 r3) w := fun _ => by kernel_rfl
  rcases h1 with h1 | h1
  all_goals
    go_enter Try.func64, Try.ntmps64
    go_wp2_with fail
    refine (H.out _).mono ?_; rintro e w1 ⟨rfl, rfl⟩
    go_wp2_with fail
    all_goals
      refine bodyPost_ret (v := .tuple #[.agg #[.int .i64 0, .int .i64 0, .int .i64 0, .int .i64 0], .int .i64 0, .int .i64 10]) (by simp [results, Try.results64, go_sem]) rfl ⟨rfl, ?_⟩
      go_grown
set_option maxHeartbeats 1600000 in
theorem use_rep1 (r0 r1 r2 r3 b l d : Int) (h : OkTok 2 b l d 1) (h1 : 1 ≤ r1) (h2 : r1 ≤ 67108864) (w : World) : Calls Try.prog 64 #[.agg #[.int .i64 r0, .int .i64 r1, .int .i64 r2, .int .i64 r3], .agg #[.int .i64 2, .int .i64 b, .int .i64 l, .int .i64 d, .int .i64 1]] w fun e w' => e = .returned (.tuple #[.agg #[.int .i64 r1, .int .i64 r0, .int .i64 r2, .int .i64 r3], .int .i64 r1, .int .i64 0]) ∧ Below w.heap.size w w' := by
  have H := Lib.hid (ok_any 2 b l d 1 h); clear h
  have i0 : ∀ w, (Instr.index 41 (.agg #[.int .i64 r0, .int .i64 r1, .int .i64 r2, .int .i64 r3]) (.int .i64 0)).run Try.prog w = .ok (.int .i64 r0) w := fun _ => by kernel_rfl
  have i1 : ∀ w, (Instr.index 41 (.agg #[.int .i64 r0, .int .i64 r1, .int .i64 r2, .int .i64 r3]) (.int .i64 1)).run Try.prog w = .ok (.int .i64 r1) w := fun _ => by kernel_rfl
  have i2 : ∀ w, (Instr.index 41 (.agg #[.int .i64 r0, .int .i64 r1, .int .i64 r2, .int .i64 r3]) (.int .i64 2)).run Try.prog w = .ok (.int .i64 r2) w := fun _ => by kernel_rfl
  have i3 : ∀ w, (Instr.index 41 (.agg #[.int .i64 r0, .int .i64 r1, .int .i64 r2, .int .i64 r3]) (.int .i64 3)).run Try.prog w = .ok (.int .i64 r3) w := fun _ => by kernel_rfl
  go_enter Try.func64, Try.ntmps64
  go_wp2_with fail
  refine (H.out _).mono ?_; rintro e w1 ⟨rfl, rfl⟩
  go_wp2_with fail
  refine (ahead_1 _ _ _ _ _ _).mono ?_; rintro e w2 ⟨rfl, rfl⟩
  go_wp2_with fail
  all_goals
    refine bodyPost_ret (v := .tuple #[.agg #[.int .i64 r1, .int .i64 r0, .int .i64 r2, .int .i64 r3], .int .i64 r1, .int .i64 0]) (by simp [results, Try.results64, go_sem]) rfl ⟨rfl, ?_⟩
    go_grown
set_option maxHeartbeats 800000 in
theorem use_off1 (r0 r1 r2 r3 b l d : Int) (h : OkTok 2 b l d 1) (h1 : r1 < 1 ∨ 67108864 < r1) (w : World) : Calls Try.prog 64 #[.agg #[.int .i64 r0, .int .i64 r1, .int .i64 r2, .int .i64 r3], .agg #[.int .i64 2, .int .i64 b, .int .i64 l, .int .i64 d, .int .i64 1]] w fun e w' => e = .returned (.tuple #[.agg #[.int .i64 0, .int .i64 0, .int .i64 0, .int .i64 0], .int .i64 0, .int .i64 10]) ∧ Below w.heap.size w w' := by
  have H := Lib.hid (ok_any 2 b l d 1 h); clear h
  have i0 : ∀ w, (Instr.index 41 (.agg #[.int .i64 r0, .int .i64 r1, .int .i64 r2, .int .i64 r3]) (.int .i64 0)).run Try.prog w = .ok (.int .i64 r0) w := fun _ => by kernel_rfl
  have i1 : ∀ w, (Instr.index 41 (.agg #[.int .i64 r0, .int .i64 r1, .int .i64 r2, .int .i64 r3]) (.int .i64 1)).run Try.prog w = .ok (.int .i64 r1) w := fun _ => by kernel_rfl
  have i2 : ∀ w, (Instr.index 41 (.agg #[.int .i64 r0, .int .i64 r1, .int .i64 r2, .int .i64 r3]) (.int .i64 2)).run Try.prog w = .ok (.int .i64 r2) w := fun _ => by kernel_rfl
  have i3 : ∀ w, (Instr.index 41 (.agg #[.int .i64 r0, .int .i64 r1, .int .i64 r2, .int .i64 r3]) (.int .i64 3)).run Try.prog w = .ok (.int .i64 r3) w := fun _ => by kernel_rfl
  rcases h1 with h1 | h1
  all_goals
    go_enter Try.func64, Try.ntmps64
    go_wp2_with fail
    refine (H.out _).mono ?_; rintro e w1 ⟨rfl, rfl⟩
    go_wp2_with fail
    all_goals
      refine bodyPost_ret (v := .tuple #[.agg #[.int .i64 0, .int .i64 0, .int .i64 0, .int .i64 0], .int .i64 0, .int .i64 10]) (by simp [results, Try.results64, go_sem]) rfl ⟨rfl, ?_⟩
      go_grown
set_option maxHeartbeats 1600000 in
theorem use_rep2 (r0 r1 r2 r3 b l d : Int) (h : OkTok 2 b l d 2) (h1 : 1 ≤ r2) (h2 : r2 ≤ 67108864) (w : World) : Calls Try.prog 64 #[.agg #[.int .i64 r0, .int .i64 r1, .int .i64 r2, .int .i64 r3], .agg #[.int .i64 2, .int .i64 b, .int .i64 l, .int .i64 d, .int .i64 2]] w fun e w' => e = .returned (.tuple #[.agg #[.int .i64 r2, .int .i64 r0, .int .i64 r1, .int .i64 r3], .int .i64 r2, .int .i64 0]) ∧ Below w.heap.size w w' := by
  have H := Lib.hid (ok_any 2 b l d 2 h); clear h
  have i0 : ∀ w, (Instr.index 41 (.agg #[.int .i64 r0, .int .i64 r1, .int .i64 r2, .int .i64 r3]) (.int .i64 0)).run Try.prog w = .ok (.int .i64 r0) w := fun _ => by kernel_rfl
  have i1 : ∀ w, (Instr.index 41 (.agg #[.int .i64 r0, .int .i64 r1, .int .i64 r2, .int .i64 r3]) (.int .i64 1)).run Try.prog w = .ok (.int .i64 r1) w := fun _ => by kernel_rfl
  have i2 : ∀ w, (Instr.index 41 (.agg #[.int .i64 r0, .int .i64 r1, .int .i64 r2, .int .i64 r3]) (.int .i64 2)).run Try.prog w = .ok (.int .i64 r2) w := fun _ => by kernel_rfl
  have i3 : ∀ w, (Instr.index 41 (.agg #[.int .i64 r0, .int .i64 r1, .int .i64 r2, .int .i64 r3]) (.int .i64 3)).run Try.prog w = .ok (.int .i64 r3) w := fun _ => by kernel_rfl
  go_enter Try.func64, Try.ntmps64
  go_wp2_with fail
  refine (H.out _).mono ?_; rintro e w1 ⟨rfl, rfl⟩
  go_wp2_with fail
  refine (ahead_2 _ _ _ _ _ _).mono ?_; rintro e w2 ⟨rfl, rfl⟩
  go_wp2_with fail
  all_goals
    refine bodyPost_ret (v := .tuple #[.agg #[.int .i64 r2, .int .i64 r0, .int .i64 r1, .int .i64 r3], .int .i64 r2, .int .i64 0]) (by simp [results, Try.results64, go_sem]) rfl ⟨rfl, ?_⟩
    go_grown
set_option maxHeartbeats 800000 in
theorem use_off2 (r0 r1 r2 r3 b l d : Int) (h : OkTok 2 b l d 2) (h1 : r2 < 1 ∨ 67108864 < r2) (w : World) : Calls Try.prog 64 #[.agg #[.int .i64 r0, .int .i64 r1, .int .i64 r2, .int .i64 r3], .agg #[.int .i64 2, .int .i64 b, .int .i64 l, .int .i64 d, .int .i64 2]] w fun e w' => e = .returned (.tuple #[.agg #[.int .i64 0, .int .i64 0, .int .i64 0, .int .i64 0], .int .i64 0, .int .i64 10]) ∧ Below w.heap.size w w' := by
  have H := Lib.hid (ok_any 2 b l d 2 h); clear h
  have i0 : ∀ w, (Instr.index 41 (.agg #[.int .i64 r0, .int .i64 r1, .int .i64 r2, .int .i64 r3]) (.int .i64 0)).run Try.prog w = .ok (.int .i64 r0) w := fun _ => by kernel_rfl
  have i1 : ∀ w, (Instr.index 41 (.agg #[.int .i64 r0, .int .i64 r1, .int .i64 r2, .int .i64 r3]) (.int .i64 1)).run Try.prog w = .ok (.int .i64 r1) w := fun _ => by kernel_rfl
  have i2 : ∀ w, (Instr.index 41 (.agg #[.int .i64 r0, .int .i64 r1, .int .i64 r2, .int .i64 r3]) (.int .i64 2)).run Try.prog w = .ok (.int .i64 r2) w := fun _ => by kernel_rfl
  have i3 : ∀ w, (Instr.index 41 (.agg #[.int .i64 r0, .int .i64 r1, .int .i64 r2, .int .i64 r3]) (.int .i64 3)).run Try.prog w = .ok (.int .i64 r3) w := fun _ => by kernel_rfl
  rcases h1 with h1 | h1
  all_goals
    go_enter Try.func64, Try.ntmps64
    go_wp2_with fail
    refine (H.out _).mono ?_; rintro e w1 ⟨rfl, rfl⟩
    go_wp2_with fail
    all_goals
      refine bodyPost_ret (v := .tuple #[.agg #[.int .i64 0, .int .i64 0, .int .i64 0, .int .i64 0], .int .i64 0, .int .i64 10]) (by simp [results, Try.results64, go_sem]) rfl ⟨rfl, ?_⟩
      go_grown
set_option maxHeartbeats 1600000 in
theorem use_rep3 (r0 r1 r2 r3 b l d : Int) (h : OkTok 2 b l d 3) (h1 : 1 ≤ r3) (h2 : r3 ≤ 67108864) (w : World) : Calls Try.prog 64 #[.agg #[.int .i64 r0, .int .i64 r1, .int .i64 r2, .int .i64 r3], .agg #[.int .i64 2, .int .i64 b, .int .i64 l, .int .i64 d, .int .i64 3]] w fun e w' => e = .returned (.tuple #[.agg #[.int .i64 r3, .int .i64 r0, .int .i64 r1, .int .i64 r2], .int .i64 r3, .int .i64 0]) ∧ Below w.heap.size w w' := by
  have H := Lib.hid (ok_any 2 b l d 3 h); clear h
  have i0 : ∀ w, (Instr.index 41 (.agg #[.int .i64 r0, .int .i64 r1, .int .i64 r2, .int .i64 r3]) (.int .i64 0)).run Try.prog w = .ok (.int .i64 r0) w := fun _ => by kernel_rfl
  have i1 : ∀ w, (Instr.index 41 (.agg #[.int .i64 r0, .int .i64 r1, .int .i64 r2, .int .i64 r3]) (.int .i64 1)).run Try.prog w = .ok (.int .i64 r1) w := fun _ => by kernel_rfl
  have i2 : ∀ w, (Instr.index 41 (.agg #[.int .i64 r0, .int .i64 r1, .int .i64 r2, .int .i64 r3]) (.int .i64 2)).run Try.prog w = .ok (.int .i64 r2) w := fun _ => by kernel_rfl
  have i3 : ∀ w, (Instr.index 41 (.agg #[.int .i64 r0, .int .i64 r1, .int .i64 r2, .int .i64 r3]) (.int .i64 3)).run Try.prog w = .ok (.int .i64 r3) w := fun _ => by kernel_rfl
  go_enter Try.func64, Try.ntmps64
  go_wp2_with fail
  refine (H.out _).mono ?_; rintro e w1 ⟨rfl, rfl⟩
  go_wp2_with fail
  refine (ahead_3 _ _ _ _ _ _).mono ?_; rintro e w2 ⟨rfl, rfl⟩
  go_wp2_with fail
  all_goals
    refine bodyPost_ret (v := .tuple #[.agg #[.int .i64 r3, .int .i64 r0, .int .i64 r1, .int .i64 r2], .int .i64 r3, .int .i64 0]) (by simp [results, Try.results64, go_sem]) rfl ⟨rfl, ?_⟩
    go_grown
set_option maxHeartbeats 800000 in
theorem use_off3 (r0 r1 r2 r3 b l d : Int) (h : OkTok 2 b l d 3) (h1 : r3 < 1 ∨ 67108864 < r3) (w : World) : Calls Try.prog 64 #[.agg #[.int .i64 r0, .int .i64 r1, .int .i64 r2, .int .i64 r3], .agg #[.int .i64 2, .int .i64 b, .int .i64 l, .int .i64 d, .int .i64 3]] w fun e w' => e = .returned (.tuple #[.agg #[.int .i64 0, .int .i64 0, .int .i64 0, .int .i64 0], .int .i64 0, .int .i64 10]) ∧ Below w.heap.size w w' := by
  have H := Lib.hid (ok_any 2 b l d 3 h); clear h
  have i0 : ∀ w, (Instr.index 41 (.agg #[.int .i64 r0, .int .i64 r1, .int .i64 r2, .int .i64 r3]) (.int .i64 0)).run Try.prog w = .ok (.int .i64 r0) w := fun _ => by kernel_rfl
  have i1 : ∀ w, (Instr.index 41 (.agg #[.int .i64 r0, .int .i64 r1, .int .i64 r2, .int .i64 r3]) (.int .i64 1)).run Try.prog w = .ok (.int .i64 r1) w := fun _ => by kernel_rfl
  have i2 : ∀ w, (Instr.index 41 (.agg #[.int .i64 r0, .int .i64 r1, .int .i64 r2, .int .i64 r3]) (.int .i64 2)).run Try.prog w = .ok (.int .i64 r2) w := fun _ => by kernel_rfl
  have i3 : ∀ w, (Instr.index 41 (.agg #[.int .i64 r0, .int .i64 r1, .int .i64 r2, .int .i64 r3]) (.int .i64 3)).run Try.prog w = .ok (.int .i64 r3) w := fun _ => by kernel_rfl
  rcases h1 with h1 | h1
  all_goals
    go_enter Try.func64, Try.ntmps64
    go_wp2_with fail
    refine (H.out _).mono ?_; rintro e w1 ⟨rfl, rfl⟩
    go_wp2_with fail
    all_goals
      refine bodyPost_ret (v := .tuple #[.agg #[.int .i64 0, .int .i64 0, .int .i64 0, .int .i64 0], .int .i64 0, .int .i64 10]) (by simp [results, Try.results64, go_sem]) rfl ⟨rfl, ?_⟩
      go_grown
set_option maxHeartbeats 800000 in
theorem refUse_bad (r0 r1 r2 r3 k b l d r : Int) (h : ¬ OkTok k b l d r) (w : World) : Calls Try.prog 65 #[.agg #[.int .i64 r0, .int .i64 r1, .int .i64 r2, .int .i64 r3], .agg #[.int .i64 k, .int .i64 b, .int .i64 l, .int .i64 d, .int .i64 r]] w fun e w' => e = .returned (.tuple #[.agg #[.int .i64 0, .int .i64 0, .int .i64 0, .int .i64 0], .int .i64 0, .int .i64 10]) ∧ Below w.heap.size w w' := by
  have H := Lib.hid (refNo_any k b l d r h); clear h
  go_enter Try.func65, Try.ntmps65
  go_wp2_with fail
  refine (H.out _).mono ?_; rintro e w1 ⟨rfl, rfl⟩
  go_wp2_with fail
  all_goals
    refine bodyPost_ret (v := .tuple #[.agg #[.int .i64 0, .int .i64 0, .int .i64 0, .int .i64 0], .int .i64 0, .int .i64 10]) (by simp [results, Try.results65, go_sem]) rfl ⟨rfl, ?_⟩
    go_grown
set_option maxHeartbeats 800000 in
theorem refUse_lit (r0 r1 r2 r3 b l d r : Int) (h : OkTok 0 b l d r) (w : World) : Calls Try.prog 65 #[.agg #[.int .i64 r0, .int .i64 r1, .int .i64 r2, .int .i64 r3], .agg #[.int .i64 0, .int .i64 b, .int .i64 l, .int .i64 d, .int .i64 r]] w fun e w' => e = .returned (.tuple #[.agg #[.int .i64 r0, .int .i64 r1, .int .i64 r2, .int .i64 r3], .int .i64 0, .int .i64 0]) ∧ Below w.heap.size w w' := by
  have H := Lib.hid (refOk_any 0 b l d r h); clear h
  go_enter Try.func65, Try.ntmps65
  go_wp2_with fail
  refine (H.out _).mono ?_; rintro e w1 ⟨rfl, rfl⟩
  go_wp2_with fail
  all_goals
    refine bodyPost_ret (v := .tuple #[.agg #[.int .i64 r0, .int .i64 r1, .int .i64 r2, .int .i64 r3], .int .i64 0, .int .i64 0]) (by simp [results, Try.results65, go_sem]) rfl ⟨rfl, ?_⟩
    go_grown
set_option maxHeartbeats 800000 in
theorem refUse_copy (r0 r1 r2 r3 b l d r : Int) (h : OkTok 1 b l d r) (w : World) : Calls Try.prog 65 #[.agg #[.int .i64 r0, .int .i64 r1, .int .i64 r2, .int .i64 r3], .agg #[.int .i64 1, .int .i64 b, .int .i64 l, .int .i64 d, .int .i64 r]] w fun e w' => e = .returned (.tuple #[.agg #[.int .i64 d, .int .i64 r0, .int .i64 r1, .int .i64 r2], .int .i64 d, .int .i64 0]) ∧ Below w.heap.size w w' := by
  have H := Lib.hid (refOk_any 1 b l d r h); clear h
  have i0 : ∀ w, (Instr.index 41 (.agg #[.int .i64 r0, .int .i64 r1, .int .i64 r2, .int .i64 r3]) (.int .i64 0)).run Try.prog w = .ok (.int .i64 r0) w := fun _ => by kernel_rfl
  have i1 : ∀ w, (Instr.index 41 (.agg #[.int .i64 r0, .int .i64 r1, .int .i64 r2, .int .i64 r3]) (.int .i64 1)).run Try.prog w = .ok (.int .i64 r1) w := fun _ => by kernel_rfl
  have i2 : ∀ w, (Instr.index 41 (.agg #[.int .i64 r0, .int .i64 r1, .int .i64 r2, .int .i64 r3]) (.int .i64 2)).run Try.prog w = .ok (.int .i64 r2) w := fun _ => by kernel_rfl
  have i3 : ∀ w, (Instr.index 41 (.agg #[.int .i64 r0, .int .i64 r1, .int .i64 r2, .int .i64 r3]) (.int .i64 3)).run Try.prog w = .ok (.int .i64 r3) w := fun _ => by kernel_rfl
  go_enter Try.func65, Try.ntmps65
  go_wp2_with fail
  refine (H.out _).mono ?_; rintro e w1 ⟨rfl, rfl⟩
  go_wp2_with fail
  go_region
  all_goals go_wp2_with fail
  all_goals
    refine bodyPost_ret (v := .tuple #[.agg #[.int .i64 d, .int .i64 r0, .int .i64 r1, .int .i64 r2], .int .i64 d, .int .i64 0]) (by simp [results, Try.results65, go_sem]) rfl ⟨rfl, ?_⟩
    go_grown
set_option maxHeartbeats 1600000 in
theorem refUse_rep0 (r0 r1 r2 r3 b l d : Int) (h : OkTok 2 b l d 0) (h1 : 1 ≤ r0) (h2 : r0 ≤ 67108864) (w : World) : Calls Try.prog 65 #[.agg #[.int .i64 r0, .int .i64 r1, .int .i64 r2, .int .i64 r3], .agg #[.int .i64 2, .int .i64 b, .int .i64 l, .int .i64 d, .int .i64 0]] w fun e w' => e = .returned (.tuple #[.agg #[.int .i64 r0, .int .i64 r1, .int .i64 r2, .int .i64 r3], .int .i64 r0, .int .i64 0]) ∧ Below w.heap.size w w' := by
  have H := Lib.hid (refOk_any 2 b l d 0 h); clear h
  have i0 : ∀ w, (Instr.index 41 (.agg #[.int .i64 r0, .int .i64 r1, .int .i64 r2, .int .i64 r3]) (.int .i64 0)).run Try.prog w = .ok (.int .i64 r0) w := fun _ => by kernel_rfl
  have i1 : ∀ w, (Instr.index 41 (.agg #[.int .i64 r0, .int .i64 r1, .int .i64 r2, .int .i64 r3]) (.int .i64 1)).run Try.prog w = .ok (.int .i64 r1) w := fun _ => by kernel_rfl
  have i2 : ∀ w, (Instr.index 41 (.agg #[.int .i64 r0, .int .i64 r1, .int .i64 r2, .int .i64 r3]) (.int .i64 2)).run Try.prog w = .ok (.int .i64 r2) w := fun _ => by kernel_rfl
  have i3 : ∀ w, (Instr.index 41 (.agg #[.int .i64 r0, .int .i64 r1, .int .i64 r2, .int .i64 r3]) (.int .i64 3)).run Try.prog w = .ok (.int .i64 r3) w := fun _ => by kernel_rfl
  go_enter Try.func65, Try.ntmps65
  go_wp2_with fail
  refine (H.out _).mono ?_; rintro e w1 ⟨rfl, rfl⟩
  go_wp2_with fail
  refine wp_loop_rounds 5 ?_
  repeat any_goals (rw [rounds_succ]; go_wp2)
  all_goals
    refine bodyPost_ret (v := .tuple #[.agg #[.int .i64 r0, .int .i64 r1, .int .i64 r2, .int .i64 r3], .int .i64 r0, .int .i64 0]) (by simp [results, Try.results65, go_sem]) rfl ⟨rfl, ?_⟩
    go_grown
set_option maxHeartbeats 800000 in
theorem refUse_off0 (r0 r1 r2 r3 b l d : Int) (h : OkTok 2 b l d 0) (h1 : r0 < 1 ∨ 67108864 < r0) (w : World) : Calls Try.prog 65 #[.agg #[.int .i64 r0, .int .i64 r1, .int .i64 r2, .int .i64 r3], .agg #[.int .i64 2, .int .i64 b, .int .i64 l, .int .i64 d, .int .i64 0]] w fun e w' => e = .returned (.tuple #[.agg #[.int .i64 0, .int .i64 0, .int .i64 0, .int .i64 0], .int .i64 0, .int .i64 10]) ∧ Below w.heap.size w w' := by
  have H := Lib.hid (refOk_any 2 b l d 0 h); clear h
  have i0 : ∀ w, (Instr.index 41 (.agg #[.int .i64 r0, .int .i64 r1, .int .i64 r2, .int .i64 r3]) (.int .i64 0)).run Try.prog w = .ok (.int .i64 r0) w := fun _ => by kernel_rfl
  have i1 : ∀ w, (Instr.index 41 (.agg #[.int .i64 r0, .int .i64 r1, .int .i64 r2, .int .i64 r3]) (.int .i64 1)).run Try.prog w = .ok (.int .i64 r1) w := fun _ => by kernel_rfl
  have i2 : ∀ w, (Instr.index 41 (.agg #[.int .i64 r0, .int .i64 r1, .int .i64 r2, .int .i64 r3]) (.int .i64 2)).run Try.prog w = .ok (.int .i64 r2) w := fun _ => by kernel_rfl
  have i3 : ∀ w, (Instr.index 41 (.agg #[.int .i64 r0, .int .i64 r1, .int .i64 r2, .int .i64 r3]) (.int .i64 3)).run Try.prog w = .ok (.int .i64 r3) w := fun _ => by kernel_rfl
  rcases h1 with h1 | h1
  all_goals
    go_enter Try.func65, Try.ntmps65
    go_wp2_with fail
    refine (H.out _).mono ?_; rintro e w1 ⟨rfl, rfl⟩
    go_wp2_with fail
    all_goals
      refine bodyPost_ret (v := .tuple #[.agg #[.int .i64 0, .int .i64 0, .int .i64 0, .int .i64 0], .int .i64 0, .int .i64 10]) (by simp [results, Try.results65, go_sem]) rfl ⟨rfl, ?_⟩
      go_grown
set_option maxHeartbeats 1600000 in
theorem refUse_rep1 (r0 r1 r2 r3 b l d : Int) (h : OkTok 2 b l d 1) (h1 : 1 ≤ r1) (h2 : r1 ≤ 67108864) (w : World) : Calls Try.prog 65 #[.agg #[.int .i64 r0, .int .i64 r1, .int .i64 r2, .int .i64 r3], .agg #[.int .i64 2, .int .i64 b, .int .i64 l, .int .i64 d, .int .i64 1]] w fun e w' => e = .returned (.tuple #[.agg #[.int .i64 r1, .int .i64 r0, .int .i64 r2, .int .i64 r3], .int .i64 r1, .int .i64 0]) ∧ Below w.heap.size w w' := by
  have H := Lib.hid (refOk_any 2 b l d 1 h); clear h
  have i0 : ∀ w, (Instr.index 41 (.agg #[.int .i64 r0, .int .i64 r1, .int .i64 r2, .int .i64 r3]) (.int .i64 0)).run Try.prog w = .ok (.int .i64 r0) w := fun _ => by kernel_rfl
  have i1 : ∀ w, (Instr.index 41 (.agg #[.int .i64 r0, .int .i64 r1, .int .i64 r2, .int .i64 r3]) (.int .i64 1)).run Try.prog w = .ok (.int .i64 r1) w := fun _ => by kernel_rfl
  have i2 : ∀ w, (Instr.index 41 (.agg #[.int .i64 r0, .int .i64 r1, .int .i64 r2, .int .i64 r3]) (.int .i64 2)).run Try.prog w = .ok (.int .i64 r2) w := fun _ => by kernel_rfl
  have i3 : ∀ w, (Instr.index 41 (.agg #[.int .i64 r0, .int .i64 r1, .int .i64 r2, .int .i64 r3]) (.int .i64 3)).run Try.prog w = .ok (.int .i64 r3) w := fun _ => by kernel_rfl
  go_enter Try.func65, Try.ntmps65
  go_wp2_with fail
  refine (H.out _).mono ?_; rintro e w1 ⟨rfl, rfl⟩
  go_wp2_with fail
  refine wp_loop_rounds 5 ?_
  repeat any_goals (rw [rounds_succ]; go_wp2)
  all_goals
    refine bodyPost_ret (v := .tuple #[.agg #[.int .i64 r1, .int .i64 r0, .int .i64 r2, .int .i64 r3], .int .i64 r1, .int .i64 0]) (by simp [results, Try.results65, go_sem]) rfl ⟨rfl, ?_⟩
    go_grown
set_option maxHeartbeats 800000 in
theorem refUse_off1 (r0 r1 r2 r3 b l d : Int) (h : OkTok 2 b l d 1) (h1 : r1 < 1 ∨ 67108864 < r1) (w : World) : Calls Try.prog 65 #[.agg #[.int .i64 r0, .int .i64 r1, .int .i64 r2, .int .i64 r3], .agg #[.int .i64 2, .int .i64 b, .int .i64 l, .int .i64 d, .int .i64 1]] w fun e w' => e = .returned (.tuple #[.agg #[.int .i64 0, .int .i64 0, .int .i64 0, .int .i64 0], .int .i64 0, .int .i64 10]) ∧ Below w.heap.size w w' := by
  have H := Lib.hid (refOk_any 2 b l d 1 h); clear h
  have i0 : ∀ w, (Instr.index 41 (.agg #[.int .i64 r0, .int .i64 r1, .int .i64 r2, .int .i64 r3]) (.int .i64 0)).run Try.prog w = .ok (.int .i64 r0) w := fun _ => by kernel_rfl
  have i1 : ∀ w, (Instr.index 41 (.agg #[.int .i64 r0, .int .i64 r1, .int .i64 r2, .int .i64 r3]) (.int .i64 1)).run Try.prog w = .ok (.int .i64 r1) w := fun _ => by kernel_rfl
  have i2 : ∀ w, (Instr.index 41 (.agg #[.int .i64 r0, .int .i64 r1, .int .i64 r2, .int .i64 r3]) (.int .i64 2)).run Try.prog w = .ok (.int .i64 r2) w := fun _ => by kernel_rfl
  have i3 : ∀ w, (Instr.index 41 (.agg #[.int .i64 r0, .int .i64 r1, .int .i64 r2, .int .i64 r3]) (.int .i64 3)).run Try.prog w = .ok (.int .i64 r3) w := fun _ => by kernel_rfl
  rcases h1 with h1 | h1
  all_goals
    go_enter Try.func65, Try.ntmps65
    go_wp2_with fail
    refine (H.out _).mono ?_; rintro e w1 ⟨rfl, rfl⟩
    go_wp2_with fail
    all_goals
      refine bodyPost_ret (v := .tuple #[.agg #[.int .i64 0, .int .i64 0, .int .i64 0, .int .i64 0], .int .i64 0, .int .i64 10]) (by simp [results, Try.results65, go_sem]) rfl ⟨rfl, ?_⟩
      go_grown
set_option maxHeartbeats 1600000 in
theorem refUse_rep2 (r0 r1 r2 r3 b l d : Int) (h : OkTok 2 b l d 2) (h1 : 1 ≤ r2) (h2 : r2 ≤ 67108864) (w : World) : Calls Try.prog 65 #[.agg #[.int .i64 r0, .int .i64 r1, .int .i64 r2, .int .i64 r3], .agg #[.int .i64 2, .int .i64 b, .int .i64 l, .int .i64 d, .int .i64 2]] w fun e w' => e = .returned (.tuple #[.agg #[.int .i64 r2, .int .i64 r0, .int .i64 r1, .int .i64 r3], .int .i64 r2, .int .i64 0]) ∧ Below w.heap.size w w' := by
  have H := Lib.hid (refOk_any 2 b l d 2 h); clear h
  have i0 : ∀ w, (Instr.index 41 (.agg #[.int .i64 r0, .int .i64 r1, .int .i64 r2, .int .i64 r3]) (.int .i64 0)).run Try.prog w = .ok (.int .i64 r0) w := fun _ => by kernel_rfl
  have i1 : ∀ w, (Instr.index 41 (.agg #[.int .i64 r0, .int .i64 r1, .int .i64 r2, .int .i64 r3]) (.int .i64 1)).run Try.prog w = .ok (.int .i64 r1) w := fun _ => by kernel_rfl
  have i2 : ∀ w, (Instr.index 41 (.agg #[.int .i64 r0, .int .i64 r1, .int .i64 r2, .int .i64 r3]) (.int .i64 2)).run Try.prog w = .ok (.int .i64 r2) w := fun _ => by kernel_rfl
  have i3 : ∀ w, (Instr.index 41 (.agg #[.int .i64 r0, .int .i64 r1, .int .i64 r2, .int .i64 r3]) (.int .i64 3)).run Try.prog w = .ok (.int .i64 r3) w := fun _ => by kernel_rfl
  go_enter Try.func65, Try.ntmps65
  go_wp2_with fail
  refine (H.out _).mono ?_; rintro e w1 ⟨rfl, rfl⟩
  go_wp2_with fail
  refine wp_loop_rounds 5 ?_
  repeat any_goals (rw [rounds_succ]; go_wp2)
  all_goals
    refine bodyPost_ret (v := .tuple #[.agg #[.int .i64 r2, .int .i64 r0, .int .i64 r1, .int .i64 r3], .int .i64 r2, .int .i64 0]) (by simp [results, Try.results65, go_sem]) rfl ⟨rfl, ?_⟩
    go_grown
set_option maxHeartbeats 800000 in
theorem refUse_off2 (r0 r1 r2 r3 b l d : Int) (h : OkTok 2 b l d 2) (h1 : r2 < 1 ∨ 67108864 < r2) (w : World) : Calls Try.prog 65 #[.agg #[.int .i64 r0, .int .i64 r1, .int .i64 r2, .int .i64 r3], .agg #[.int .i64 2, .int .i64 b, .int .i64 l, .int .i64 d, .int .i64 2]] w fun e w' => e = .returned (.tuple #[.agg #[.int .i64 0, .int .i64 0, .int .i64 0, .int .i64 0], .int .i64 0, .int .i64 10]) ∧ Below w.heap.size w w' := by
  have H := Lib.hid (refOk_any 2 b l d 2 h); clear h
  have i0 : ∀ w, (Instr.index 41 (.agg #[.int .i64 r0, .int .i64 r1, .int .i64 r2, .int .i64 r3]) (.int .i64 0)).run Try.prog w = .ok (.int .i64 r0) w := fun _ => by kernel_rfl
  have i1 : ∀ w, (Instr.index 41 (.agg #[.int .i64 r0, .int .i64 r1, .int .i64 r2, .int .i64 r3]) (.int .i64 1)).run Try.prog w = .ok (.int .i64 r1) w := fun _ => by kernel_rfl
  have i2 : ∀ w, (Instr.index 41 (.agg #[.int .i64 r0, .int .i64 r1, .int .i64 r2, .int .i64 r3]) (.int .i64 2)).run Try.prog w = .ok (.int .i64 r2) w := fun _ => by kernel_rfl
  have i3 : ∀ w, (Instr.index 41 (.agg #[.int .i64 r0, .int .i64 r1, .int .i64 r2, .int .i64 r3]) (.int .i64 3)).run Try.prog w = .ok (.int .i64 r3) w := fun _ => by kernel_rfl
  rcases h1 with h1 | h1
  all_goals
    go_enter Try.func65, Try.ntmps65
    go_wp2_with fail
    refine (H.out _).mono ?_; rintro e w1 ⟨rfl, rfl⟩
    go_wp2_with fail
    all_goals
      refine bodyPost_ret (v := .tuple #[.agg #[.int .i64 0, .int .i64 0, .int .i64 0, .int .i64 0], .int .i64 0, .int .i64 10]) (by simp [results, Try.results65, go_sem]) rfl ⟨rfl, ?_⟩
      go_grown
set_option maxHeartbeats 1600000 in
theorem refUse_rep3 (r0 r1 r2 r3 b l d : Int) (h : OkTok 2 b l d 3) (h1 : 1 ≤ r3) (h2 : r3 ≤ 67108864) (w : World) : Calls Try.prog 65 #[.agg #[.int .i64 r0, .int .i64 r1, .int .i64 r2, .int .i64 r3], .agg #[.int .i64 2, .int .i64 b, .int .i64 l, .int .i64 d, .int .i64 3]] w fun e w' => e = .returned (.tuple #[.agg #[.int .i64 r3, .int .i64 r0, .int .i64 r1, .int .i64 r2], .int .i64 r3, .int .i64 0]) ∧ Below w.heap.size w w' := by
  have H := Lib.hid (refOk_any 2 b l d 3 h); clear h
  have i0 : ∀ w, (Instr.index 41 (.agg #[.int .i64 r0, .int .i64 r1, .int .i64 r2, .int .i64 r3]) (.int .i64 0)).run Try.prog w = .ok (.int .i64 r0) w := fun _ => by kernel_rfl
  have i1 : ∀ w, (Instr.index 41 (.agg #[.int .i64 r0, .int .i64 r1, .int .i64 r2, .int .i64 r3]) (.int .i64 1)).run Try.prog w = .ok (.int .i64 r1) w := fun _ => by kernel_rfl
  have i2 : ∀ w, (Instr.index 41 (.agg #[.int .i64 r0, .int .i64 r1, .int .i64 r2, .int .i64 r3]) (.int .i64 2)).run Try.prog w = .ok (.int .i64 r2) w := fun _ => by kernel_rfl
  have i3 : ∀ w, (Instr.index 41 (.agg #[.int .i64 r0, .int .i64 r1, .int .i64 r2, .int .i64 r3]) (.int .i64 3)).run Try.prog w = .ok (.int .i64 r3) w := fun _ => by kernel_rfl
  go_enter Try.func65, Try.ntmps65
  go_wp2_with fail
  refine (H.out _).mono ?_; rintro e w1 ⟨rfl, rfl⟩
  go_wp2_with fail
  refine wp_loop_rounds 5 ?_
  repeat any_goals (rw [rounds_succ]; go_wp2)
  all_goals
    refine bodyPost_ret (v := .tuple #[.agg #[.int .i64 r3, .int .i64 r0, .int .i64 r1, .int .i64 r2], .int .i64 r3, .int .i64 0]) (by simp [results, Try.results65, go_sem]) rfl ⟨rfl, ?_⟩
    go_grown
set_option maxHeartbeats 800000 in
theorem refUse_off3 (r0 r1 r2 r3 b l d : Int) (h : OkTok 2 b l d 3) (h1 : r3 < 1 ∨ 67108864 < r3) (w : World) : Calls Try.prog 65 #[.agg #[.int .i64 r0, .int .i64 r1, .int .i64 r2, .int .i64 r3], .agg #[.int .i64 2, .int .i64 b, .int .i64 l, .int .i64 d, .int .i64 3]] w fun e w' => e = .returned (.tuple #[.agg #[.int .i64 0, .int .i64 0, .int .i64 0, .int .i64 0], .int .i64 0, .int .i64 10]) ∧ Below w.heap.size w w' := by
  have H := Lib.hid (refOk_any 2 b l d 3 h); clear h
  have i0 : ∀ w, (Instr.index 41 (.agg #[.int .i64 r0, .int .i64 r1, .int .i64 r2, .int .i64 r3]) (.int .i64 0)).run Try.prog w = .ok (.int .i64 r0) w := fun _ => by kernel_rfl
  have i1 : ∀ w, (Instr.index 41 (.agg #[.int .i64 r0, .int .i64 r1, .int .i64 r2, .int .i64 r3]) (.int .i64 1)).run Try.prog w = .ok (.int .i64 r1) w := fun _ => by kernel_rfl
  have i2 : ∀ w, (Instr.index 41 (.agg #[.int .i64 r0, .int .i64 r1, .int .i64 r2, .int .i64 r3]) (.int .i64 2)).run Try.prog w = .ok (.int .i64 r2) w := fun _ => by kernel_rfl
  have i3 : ∀ w, (Instr.index 41 (.agg #[.int .i64 r0, .int .i64 r1, .int .i64 r2, .int .i64 r3]) (.int .i64 3)).run Try.prog w = .ok (.int .i64 r3) w := fun _ => by kernel_rfl
  rcases h1 with h1 | h1
  all_goals
    go_enter Try.func65, Try.ntmps65
    go_wp2_with fail
    refine (H.out _).mono ?_; rintro e w1 ⟨rfl, rfl⟩
    go_wp2_with fail
    all_goals
      refine bodyPost_ret (v := .tuple #[.agg #[.int .i64 0, .int .i64 0, .int .i64 0, .int .i64 0], .int .i64 0, .int .i64 10]) (by simp [results, Try.results65, go_sem]) rfl ⟨rfl, ?_⟩
      go_grown
theorem use_both (r0 r1 r2 r3 k b l d r : Int) : ∃ x0 x1 x2 x3 y z : Int, (∀ w, Calls Try.prog 64 #[.agg #[.int .i64 r0, .int .i64 r1, .int .i64 r2, .int .i64 r3], .agg #[.int .i64 k, .int .i64 b, .int .i64 l, .int .i64 d, .int .i64 r]] w fun e w' => e = .returned (.tuple #[.agg #[.int .i64 x0, .int .i64 x1, .int .i64 x2, .int .i64 x3], .int .i64 y, .int .i64 z]) ∧ Below w.heap.size w w') ∧
    (∀ w, Calls Try.prog 65 #[.agg #[.int .i64 r0, .int .i64 r1, .int .i64 r2, .int .i64 r3], .agg #[.int .i64 k, .int .i64 b, .int .i64 l, .int .i64 d, .int .i64 r]] w fun e w' => e = .returned (.tuple #[.agg #[.int .i64 x0, .int .i64 x1, .int .i64 x2, .int .i64 x3], .int .i64 y, .int .i64 z]) ∧ Below w.heap.size w w') := by
  by_cases h : OkTok k b l d r
  · have hk : k = 0 ∨ k = 1 ∨ (k = 2 ∧ (r = 0 ∨ r = 1 ∨ r = 2 ∨ r = 3)) := by unfold OkTok at h; omega
    rcases hk with rfl | rfl | ⟨rfl, rfl | rfl | rfl | rfl⟩
    · exact ⟨r0, r1, r2, r3, 0, 0, use_lit _ _ _ _ _ _ _ _ h, refUse_lit _ _ _ _ _ _ _ _ h⟩
    · exact ⟨d, r0, r1, r2, d, 0, use_copy _ _ _ _ _ _ _ _ h, refUse_copy _ _ _ _ _ _ _ _ h⟩
    · by_cases g : r0 < 1 ∨ 67108864 < r0
      · exact ⟨0, 0, 0, 0, 0, 10, use_off0 _ _ _ _ _ _ _ h g, refUse_off0 _ _ _ _ _ _ _ h g⟩
      · exact ⟨r0, r1, r2, r3, r0, 0, use_rep0 _ _ _ _ _ _ _ h (by omega) (by omega), refUse_rep0 _ _ _ _ _ _ _ h (by omega) (by omega)⟩
    · by_cases g : r1 < 1 ∨ 67108864 < r1
      · exact ⟨0, 0, 0, 0, 0, 10, use_off1 _ _ _ _ _ _ _ h g, refUse_off1 _ _ _ _ _ _ _ h g⟩
      · exact ⟨r1, r0, r2, r3, r1, 0, use_rep1 _ _ _ _ _ _ _ h (by omega) (by omega), refUse_rep1 _ _ _ _ _ _ _ h (by omega) (by omega)⟩
    · by_cases g : r2 < 1 ∨ 67108864 < r2
      · exact ⟨0, 0, 0, 0, 0, 10, use_off2 _ _ _ _ _ _ _ h g, refUse_off2 _ _ _ _ _ _ _ h g⟩
      · exact ⟨r2, r0, r1, r3, r2, 0, use_rep2 _ _ _ _ _ _ _ h (by omega) (by omega), refUse_rep2 _ _ _ _ _ _ _ h (by omega) (by omega)⟩
    · by_cases g : r3 < 1 ∨ 67108864 < r3
      · exact ⟨0, 0, 0, 0, 0, 10, use_off3 _ _ _ _ _ _ _ h g, refUse_off3 _ _ _ _ _ _ _ h g⟩
      · exact ⟨r3, r0, r1, r2, r3, 0, use_rep3 _ _ _ _ _ _ _ h (by omega) (by omega), refUse_rep3 _ _ _ _ _ _ _ h (by omega) (by omega)⟩
  · exact ⟨0, 0, 0, 0, 0, 10, use_bad _ _ _ _ _ _ _ _ _ h, refUse_bad _ _ _ _ _ _ _ _ _ h⟩
end Go.Proofs.Ytjpmfaodkldobaa
