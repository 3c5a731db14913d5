import Derived.Test.YtipcdkemokkdfaaGreatK06
import Derived.Below
import Derived.Handy
import Derived.Outline
import Derived.WalkSmall
import Derived.WalkLawsBesides
import Derived.Laws.CopyOwn
import Derived.Test.YtipcdkemokkdfaaGreatK01
import Derived.Test.YtipcdkemokkdfaaGreatK03
/- Contracts of layer 17's small functions. -/
namespace Go.Proofs.YtipcdkemokkdfaaGreat
open Go.ChangeShapes Go.WideShapes Go.ChangeAt Go.RowKit
open Tok (OkTok chk chk_no chk_yes)
set_option linter.unusedVariables false
set_option maxRecDepth 100000

set_option maxHeartbeats 1600000 in
theorem check_ex (k b l d r : Int) (w : World) :
    Calls Tryz.prog 33 #[.agg #[.int .i64 k, .int .i64 b, .int .i64 l, .int .i64 d, .int .i64 r]] w fun e w' => e = .returned (.int .i64 (chk k b l d r)) ∧ w' = w.alloc (.cells #[.int .i64 k, .int .i64 b, .int .i64 l, .int .i64 d, .int .i64 r] 42) := by
  by_cases k0 : k = 0
  · subst k0
    go_enter Tryz.func33, Tryz.ntmps33
    go_wp2
    all_goals (go_ret; refine ⟨ret_i ?_, by first | rfl | (simp_all; done)⟩; go_light; first | exact chk_no (by unfold OkTok; (try simp at *); omega) | exact chk_yes (by unfold OkTok; (try simp at *); omega))
  · skip
    by_cases k1 : k = 1
    · subst k1
      have C := Lib.hid (length_any l)
      by_cases hl : 2 ≤ l ∧ l ≤ 258
      · have e : (decide (2 ≤ l) && decide (l ≤ 258)) = true := by simp [hl.1, hl.2]
        rw [e] at C; clear e
        go_enter Tryz.func33, Tryz.ntmps33
        go_wp2_with fail
        refine (C.out _).mono ?_; rintro e w' ⟨rfl, rfl⟩
        go_wp2
        all_goals (go_ret; refine ⟨ret_i ?_, by first | rfl | (simp_all; done)⟩; go_light; first | exact chk_no (by unfold OkTok; (try simp at *); omega) | exact chk_yes (by unfold OkTok; (try simp at *); omega))
      · have e : (decide (2 ≤ l) && decide (l ≤ 258)) = false := by rw [Bool.and_eq_false_iff, decide_eq_false_iff_not, decide_eq_false_iff_not]; omega
        rw [e] at C; clear e
        go_enter Tryz.func33, Tryz.ntmps33
        go_wp2_with fail
        refine (C.out _).mono ?_; rintro e w' ⟨rfl, rfl⟩
        go_wp2
        all_goals (go_ret; refine ⟨ret_i ?_, by first | rfl | (simp_all; done)⟩; go_light; first | exact chk_no (by unfold OkTok; (try simp at *); omega) | exact chk_yes (by unfold OkTok; (try simp at *); omega))
    · skip
      by_cases k2 : k = 2
      · subst k2
        have C := Lib.hid (length_any l)
        by_cases hl : 2 ≤ l ∧ l ≤ 258
        · have e : (decide (2 ≤ l) && decide (l ≤ 258)) = true := by simp [hl.1, hl.2]
          rw [e] at C; clear e
          go_enter Tryz.func33, Tryz.ntmps33
          go_wp2_with fail
          refine (C.out _).mono ?_; rintro e w' ⟨rfl, rfl⟩
          go_wp2
          all_goals (go_ret; refine ⟨ret_i ?_, by first | rfl | (simp_all; done)⟩; go_light; first | exact chk_no (by unfold OkTok; (try simp at *); omega) | exact chk_yes (by unfold OkTok; (try simp at *); omega))
        · have e : (decide (2 ≤ l) && decide (l ≤ 258)) = false := by rw [Bool.and_eq_false_iff, decide_eq_false_iff_not, decide_eq_false_iff_not]; omega
          rw [e] at C; clear e
          go_enter Tryz.func33, Tryz.ntmps33
          go_wp2_with fail
          refine (C.out _).mono ?_; rintro e w' ⟨rfl, rfl⟩
          go_wp2
          all_goals (go_ret; refine ⟨ret_i ?_, by first | rfl | (simp_all; done)⟩; go_light; first | exact chk_no (by unfold OkTok; (try simp at *); omega) | exact chk_yes (by unfold OkTok; (try simp at *); omega))
      · skip
        have q0 : (k == 0) = false := by rw [beq_eq_false_iff_ne]; exact k0
        have q1 : (k == 1) = false := by rw [beq_eq_false_iff_ne]; exact k1
        have q2 : (k == 2) = false := by rw [beq_eq_false_iff_ne]; exact k2
        have e : chk k b l d r = 10 := (chk_no (by unfold OkTok; omega)).symm
        rw [e]; clear e
        go_enter Tryz.func33, Tryz.ntmps33
        go_wp2
        all_goals (go_ret; exact ⟨rfl, rfl⟩)

set_option maxHeartbeats 1600000 in
theorem refCheck_ex (k b l d r : Int) (w : World) :
    Calls Tryz.prog 22 #[.agg #[.int .i64 k, .int .i64 b, .int .i64 l, .int .i64 d, .int .i64 r]] w fun e w' => e = .returned (.int .i64 (chk k b l d r)) ∧ w' = w.alloc (.cells #[.int .i64 k, .int .i64 b, .int .i64 l, .int .i64 d, .int .i64 r] 42) := by
  by_cases k0 : k = 0
  · subst k0
    go_enter Tryz.func22, Tryz.ntmps22
    go_wp2
    all_goals (go_ret; refine ⟨ret_i ?_, by first | rfl | (simp_all; done)⟩; go_light; first | exact chk_no (by unfold OkTok; (try simp at *); omega) | exact chk_yes (by unfold OkTok; (try simp at *); omega))
  · skip
    by_cases k1 : k = 1
    · subst k1
      go_enter Tryz.func22, Tryz.ntmps22
      go_wp2
      all_goals (go_ret; refine ⟨ret_i ?_, by first | rfl | (simp_all; done)⟩; go_light; first | exact chk_no (by unfold OkTok; (try simp at *); omega) | exact chk_yes (by unfold OkTok; (try simp at *); omega))
    · skip
      by_cases k2 : k = 2
      · subst k2
        go_enter Tryz.func22, Tryz.ntmps22
        go_wp2
        all_goals (go_ret; refine ⟨ret_i ?_, by first | rfl | (simp_all; done)⟩; go_light; first | exact chk_no (by unfold OkTok; (try simp at *); omega) | exact chk_yes (by unfold OkTok; (try simp at *); omega))
      · skip
        have q0 : (k == 0) = false := by rw [beq_eq_false_iff_ne]; exact k0
        have q1 : (k == 1) = false := by rw [beq_eq_false_iff_ne]; exact k1
        have q2 : (k == 2) = false := by rw [beq_eq_false_iff_ne]; exact k2
        have e : chk k b l d r = 10 := (chk_no (by unfold OkTok; omega)).symm
        rw [e]; clear e
        go_enter Tryz.func22, Tryz.ntmps22
        go_wp2
        all_goals (go_ret; exact ⟨rfl, rfl⟩)
theorem src3 (w : World) (l : List Value) (t : TypeId) (B C : Obj) (cs : List Value) (m : Nat) (h : l.take m = cs) :
    ∀ j v, cs[j]? = some v → (((w.alloc (.cells l.toArray t)).alloc B).alloc C).cell? ((⟨w.heap.size, 0, none⟩ : Addr).add j) = some v := by
  refine cells_of (fun j hj => ?_)
  have hb : (((w.alloc (.cells l.toArray t)).alloc B).alloc C).heap[w.heap.size]? = some (.cells l.toArray t (0, 0)) := by
    rw [Below.heap_alloc _ _ _ (by simp; omega), Below.heap_alloc _ _ _ (by simp), heap_alloc_new]
  rw [cell_in hb, Nat.zero_add, ← h]
  rw [← h, List.length_take] at hj
  rw [List.getElem?_take, if_pos (by omega)]; simp
set_option maxHeartbeats 800000 in
theorem ahead_3 (r0 r1 r2 r3 d : Int) (w : World) : Calls Tryz.prog 34 #[.agg #[.int .i64 r0, .int .i64 r1, .int .i64 r2, .int .i64 r3], .int .i64 3, .int .i64 d] w fun e w' => e = .returned (.agg #[.int .i64 d, .int .i64 r0, .int .i64 r1, .int .i64 r2]) ∧ w' = (((w.alloc (.cells #[.int .i64 r0, .int .i64 r1, .int .i64 r2, .int .i64 r3] 23)).alloc (.cells #[.int .i64 d, .int .i64 r0, .int .i64 r1, .int .i64 r2] 23)).alloc (.cells #[.int .i64 d, .int .i64 r0, .int .i64 r1, .int .i64 r2] 23)).drew := by
  go_enter Tryz.func34, Tryz.ntmps34
  go_wp2
  go_region_law (refine step_copy_last rfl (.tmp 9) (.tmp 11) 65 65 rfl 3 Tryz.underlying65 (by kernel_rfl) _ (w.heap.size + 1 + 1) (by simp) ⟨w.heap.size, 0, none⟩ 1 3 3 3 4 rfl rfl [.int .i64 r0, .int .i64 r1, .int .i64 r2, .int .i64 r3] [.int .i64 r0, .int .i64 r1, .int .i64 r2] [.int .i64 r0, .int .i64 r0, .int .i64 r1, .int .i64 r2] 23 rfl (src3 w _ 23 _ _ _ 3 rfl) (by simp) (by simp [Value.oneCell']) rfl ?_)
  all_goals go_wp2
  all_goals exact bodyPost_ret (v := .agg #[_, _, _, _]) (by simp [results, Tryz.results34, go_sem]) rfl ⟨rfl, rfl⟩
set_option maxHeartbeats 800000 in
theorem ahead_2 (r0 r1 r2 r3 d : Int) (w : World) : Calls Tryz.prog 34 #[.agg #[.int .i64 r0, .int .i64 r1, .int .i64 r2, .int .i64 r3], .int .i64 2, .int .i64 d] w fun e w' => e = .returned (.agg #[.int .i64 d, .int .i64 r0, .int .i64 r1, .int .i64 r3]) ∧ w' = (((w.alloc (.cells #[.int .i64 r0, .int .i64 r1, .int .i64 r2, .int .i64 r3] 23)).alloc (.cells #[.int .i64 d, .int .i64 r0, .int .i64 r1, .int .i64 r3] 23)).alloc (.cells #[.int .i64 d, .int .i64 r0, .int .i64 r1, .int .i64 r3] 23)).drew := by
  go_enter Tryz.func34, Tryz.ntmps34
  go_wp2
  go_region_law (refine step_copy_last rfl (.tmp 9) (.tmp 11) 65 65 rfl 3 Tryz.underlying65 (by kernel_rfl) _ (w.heap.size + 1 + 1) (by simp) ⟨w.heap.size, 0, none⟩ 1 3 3 2 4 rfl rfl [.int .i64 r0, .int .i64 r1, .int .i64 r2, .int .i64 r3] [.int .i64 r0, .int .i64 r1] [.int .i64 r0, .int .i64 r0, .int .i64 r1, .int .i64 r3] 23 rfl (src3 w _ 23 _ _ _ 2 rfl) (by simp) (by simp [Value.oneCell']) rfl ?_)
  all_goals go_wp2
  all_goals exact bodyPost_ret (v := .agg #[_, _, _, _]) (by simp [results, Tryz.results34, go_sem]) rfl ⟨rfl, rfl⟩
set_option maxHeartbeats 800000 in
theorem ahead_1 (r0 r1 r2 r3 d : Int) (w : World) : Calls Tryz.prog 34 #[.agg #[.int .i64 r0, .int .i64 r1, .int .i64 r2, .int .i64 r3], .int .i64 1, .int .i64 d] w fun e w' => e = .returned (.agg #[.int .i64 d, .int .i64 r0, .int .i64 r2, .int .i64 r3]) ∧ w' = (((w.alloc (.cells #[.int .i64 r0, .int .i64 r1, .int .i64 r2, .int .i64 r3] 23)).alloc (.cells #[.int .i64 d, .int .i64 r0, .int .i64 r2, .int .i64 r3] 23)).alloc (.cells #[.int .i64 d, .int .i64 r0, .int .i64 r2, .int .i64 r3] 23)).drew := by
  go_enter Tryz.func34, Tryz.ntmps34
  go_wp2
  go_region_law (refine step_copy_last rfl (.tmp 9) (.tmp 11) 65 65 rfl 3 Tryz.underlying65 (by kernel_rfl) _ (w.heap.size + 1 + 1) (by simp) ⟨w.heap.size, 0, none⟩ 1 3 3 1 4 rfl rfl [.int .i64 r0, .int .i64 r1, .int .i64 r2, .int .i64 r3] [.int .i64 r0] [.int .i64 r0, .int .i64 r0, .int .i64 r2, .int .i64 r3] 23 rfl (src3 w _ 23 _ _ _ 1 rfl) (by simp) (by simp [Value.oneCell']) rfl ?_)
  all_goals go_wp2
  all_goals exact bodyPost_ret (v := .agg #[_, _, _, _]) (by simp [results, Tryz.results34, go_sem]) rfl ⟨rfl, rfl⟩
set_option maxHeartbeats 800000 in
theorem ahead_0 (r0 r1 r2 r3 d : Int) (w : World) : Calls Tryz.prog 34 #[.agg #[.int .i64 r0, .int .i64 r1, .int .i64 r2, .int .i64 r3], .int .i64 0, .int .i64 d] w fun e w' => e = .returned (.agg #[.int .i64 d, .int .i64 r1, .int .i64 r2, .int .i64 r3]) ∧ w' = (((w.alloc (.cells #[.int .i64 r0, .int .i64 r1, .int .i64 r2, .int .i64 r3] 23)).alloc (.cells #[.int .i64 d, .int .i64 r1, .int .i64 r2, .int .i64 r3] 23)).alloc (.cells #[.int .i64 d, .int .i64 r1, .int .i64 r2, .int .i64 r3] 23)).drew := by
  go_enter Tryz.func34, Tryz.ntmps34
  go_wp2
  go_region_law (refine step_copy_last rfl (.tmp 9) (.tmp 11) 65 65 rfl 3 Tryz.underlying65 (by kernel_rfl) _ (w.heap.size + 1 + 1) (by simp) ⟨w.heap.size, 0, none⟩ 1 3 3 0 4 rfl rfl [.int .i64 r0, .int .i64 r1, .int .i64 r2, .int .i64 r3] [] [.int .i64 r0, .int .i64 r1, .int .i64 r2, .int .i64 r3] 23 rfl (src3 w _ 23 _ _ _ 0 rfl) (by simp) (by simp [Value.oneCell']) rfl ?_)
  all_goals go_wp2
  all_goals exact bodyPost_ret (v := .agg #[_, _, _, _]) (by simp [results, Tryz.results34, go_sem]) rfl ⟨rfl, rfl⟩
end Go.Proofs.YtipcdkemokkdfaaGreat

/- Contracts of layer 17's Use, the program's and the document's. -/
namespace Go.Proofs.YtipcdkemokkdfaaGreat
open Go.ChangeShapes Go.WideShapes Go.ChangeAt Go.RowKit
open Tok (OkTok chk chk_no chk_yes)
set_option linter.unusedVariables false
set_option maxRecDepth 100000

theorem ok_any (k b l d r : Int) (h : OkTok k b l d r) (w : World) : Calls Tryz.prog 33 #[.agg #[.int .i64 k, .int .i64 b, .int .i64 l, .int .i64 d, .int .i64 r]] w fun e w' => e = .returned (.int .i64 0) ∧ w' = w.alloc (.cells #[.int .i64 k, .int .i64 b, .int .i64 l, .int .i64 d, .int .i64 r] 42) := by
  have := check_ex k b l d r w; rwa [← chk_yes h] at this
theorem no_any (k b l d r : Int) (h : ¬ OkTok k b l d r) (w : World) : Calls Tryz.prog 33 #[.agg #[.int .i64 k, .int .i64 b, .int .i64 l, .int .i64 d, .int .i64 r]] w fun e w' => e = .returned (.int .i64 10) ∧ w' = w.alloc (.cells #[.int .i64 k, .int .i64 b, .int .i64 l, .int .i64 d, .int .i64 r] 42) := by
  have := check_ex k b l d r w; rwa [← chk_no h] at this
theorem refOk_any (k b l d r : Int) (h : OkTok k b l d r) (w : World) : Calls Tryz.prog 22 #[.agg #[.int .i64 k, .int .i64 b, .int .i64 l, .int .i64 d, .int .i64 r]] w fun e w' => e = .returned (.int .i64 0) ∧ w' = w.alloc (.cells #[.int .i64 k, .int .i64 b, .int .i64 l, .int .i64 d, .int .i64 r] 42) := by
  have := refCheck_ex k b l d r w; rwa [← chk_yes h] at this
theorem refNo_any (k b l d r : Int) (h : ¬ OkTok k b l d r) (w : World) : Calls Tryz.prog 22 #[.agg #[.int .i64 k, .int .i64 b, .int .i64 l, .int .i64 d, .int .i64 r]] w fun e w' => e = .returned (.int .i64 10) ∧ w' = w.alloc (.cells #[.int .i64 k, .int .i64 b, .int .i64 l, .int .i64 d, .int .i64 r] 42) := by
  have := refCheck_ex k b l d r w; rwa [← chk_no h] at this
set_option maxHeartbeats 800000 in
theorem use_bad (r0 r1 r2 r3 k b l d r : Int) (h : ¬ OkTok k b l d r) (w : World) : Calls Tryz.prog 19 #[.agg #[.int .i64 r0, .int .i64 r1, .int .i64 r2, .int .i64 r3], .agg #[.int .i64 k, .int .i64 b, .int .i64 l, .int .i64 d, .int .i64 r]] w fun e w' => e = .returned (.tuple #[.agg #[.int .i64 0, .int .i64 0, .int .i64 0, .int .i64 0], .int .i64 0, .int .i64 10]) ∧ Below w.heap.size w w' := by
  have H := Lib.hid (no_any k b l d r h); clear h
  go_enter Tryz.func19, Tryz.ntmps19
  go_wp2_with fail
  refine (H.out _).mono ?_; rintro e w1 ⟨rfl, rfl⟩
  go_wp2_with fail
  all_goals
    refine bodyPost_ret (v := .tuple #[.agg #[.int .i64 0, .int .i64 0, .int .i64 0, .int .i64 0], .int .i64 0, .int .i64 10]) (by simp [results, Tryz.results19, go_sem]) rfl ⟨rfl, ?_⟩
    go_grown
set_option maxHeartbeats 800000 in
theorem use_lit (r0 r1 r2 r3 b l d r : Int) (h : OkTok 0 b l d r) (w : World) : Calls Tryz.prog 19 #[.agg #[.int .i64 r0, .int .i64 r1, .int .i64 r2, .int .i64 r3], .agg #[.int .i64 0, .int .i64 b, .int .i64 l, .int .i64 d, .int .i64 r]] w fun e w' => e = .returned (.tuple #[.agg #[.int .i64 r0, .int .i64 r1, .int .i64 r2, .int .i64 r3], .int .i64 0, .int .i64 0]) ∧ Below w.heap.size w w' := by
  have H := Lib.hid (ok_any 0 b l d r h); clear h
  go_enter Tryz.func19, Tryz.ntmps19
  go_wp2_with fail
  refine (H.out _).mono ?_; rintro e w1 ⟨rfl, rfl⟩
  go_wp2_with fail
  all_goals
    refine bodyPost_ret (v := .tuple #[.agg #[.int .i64 r0, .int .i64 r1, .int .i64 r2, .int .i64 r3], .int .i64 0, .int .i64 0]) (by simp [results, Tryz.results19, go_sem]) rfl ⟨rfl, ?_⟩
    go_grown
set_option maxHeartbeats 800000 in
theorem use_copy (r0 r1 r2 r3 b l d r : Int) (h : OkTok 1 b l d r) (w : World) : Calls Tryz.prog 19 #[.agg #[.int .i64 r0, .int .i64 r1, .int .i64 r2, .int .i64 r3], .agg #[.int .i64 1, .int .i64 b, .int .i64 l, .int .i64 d, .int .i64 r]] w fun e w' => e = .returned (.tuple #[.agg #[.int .i64 d, .int .i64 r0, .int .i64 r1, .int .i64 r2], .int .i64 d, .int .i64 0]) ∧ Below w.heap.size w w' := by
  have H := Lib.hid (ok_any 1 b l d r h); clear h
  go_enter Tryz.func19, Tryz.ntmps19
  go_wp2_with fail
  refine (H.out _).mono ?_; rintro e w1 ⟨rfl, rfl⟩
  go_wp2_with fail
  go_region_with (go_at_call 34; refine (ahead_3 _ _ _ _ _ _).mono ?_; rintro e w2 ⟨rfl, rfl⟩)
  all_goals (try go_wp2_with fail)
  all_goals
    refine bodyPost_ret (v := .tuple #[.agg #[.int .i64 d, .int .i64 r0, .int .i64 r1, .int .i64 r2], .int .i64 d, .int .i64 0]) (by simp [results, Tryz.results19, go_sem]) rfl ⟨rfl, ?_⟩
    go_grown
set_option maxHeartbeats 1600000 in
theorem use_rep0 (r0 r1 r2 r3 b l d : Int) (h : OkTok 2 b l d 0) (h1 : 1 ≤ r0) (h2 : r0 ≤ 67108864) (w : World) : Calls Tryz.prog 19 #[.agg #[.int .i64 r0, .int .i64 r1, .int .i64 r2, .int .i64 r3], .agg #[.int .i64 2, .int .i64 b, .int .i64 l, .int .i64 d, .int .i64 0]] w fun e w' => e = .returned (.tuple #[.agg #[.int .i64 r0, .int .i64 r1, .int .i64 r2, .int .i64 r3], .int .i64 r0, .int .i64 0]) ∧ Below w.heap.size w w' := by
  have H := Lib.hid (ok_any 2 b l d 0 h); clear h
  have i0 : ∀ w, (Instr.index 23 (.agg #[.int .i64 r0, .int .i64 r1, .int .i64 r2, .int .i64 r3]) (.int .i64 0)).run Tryz.prog w = .ok (.int .i64 r0) w := fun _ => by kernel_rfl
  have i1 : ∀ w, (Instr.index 23 (.agg #[.int .i64 r0, .int .i64 r1, .int .i64 r2, .int .i64 r3]) (.int .i64 1)).run Tryz.prog w = .ok (.int .i64 r1) w := fun _ => by kernel_rfl
  have i2 : ∀ w, (Instr.index 23 (.agg #[.int .i64 r0, .int .i64 r1, .int .i64 r2, .int .i64 r3]) (.int .i64 2)).run Tryz.prog w = .ok (.int .i64 r2) w := fun _ => by kernel_rfl
  have i3 : ∀ w, (Instr.index 23 (.agg #[.int .i64 r0, .int .i64 r1, .int .i64 r2, .int .i64 r3]) (.int .i64 3)).run Tryz.prog w = .ok (.int .i64 r3) w := fun _ => by kernel_rfl
  go_enter Tryz.func19, Tryz.ntmps19
  go_wp2_with fail
  refine (H.out _).mono ?_; rintro e w1 ⟨rfl, rfl⟩
  go_wp2_with fail
  refine (ahead_0 _ _ _ _ _ _).mono ?_; rintro e w2 ⟨rfl, rfl⟩
  go_wp2_with fail
  all_goals
    refine bodyPost_ret (v := .tuple #[.agg #[.int .i64 r0, .int .i64 r1, .int .i64 r2, .int .i64 r3], .int .i64 r0, .int .i64 0]) (by simp [results, Tryz.results19, go_sem]) rfl ⟨rfl, ?_⟩
    go_grown
set_option maxHeartbeats 800000 in
theorem use_off0 (r0 r1 r2 r3 b l d : Int) (h : OkTok 2 b l d 0) (h1 : r0 < 1 ∨ 67108864 < r0) (w : World) : Calls Tryz.prog 19 #[.agg #[.int .i64 r0, .int .i64 r1, .int .i64 r2, .int .i64 r3], .agg #[.int .i64 2, .int .i64 b, .int .i64 l, .int .i64 d, .int .i64 0]] w fun e w' => e = .returned (.tuple #[.agg #[.int .i64 0, .int .i64 0, .int .i64 0, .int .i64 0], .int .i64 0, .int .i64 10]) ∧ Below w.heap.size w w' := by
  have H := Lib.hid (ok_any 2 b l d 0 h); clear h
  have i0 : ∀ w, (Instr.index 23 (.agg #[.int .i64 r0, .int .i64 r1, .int .i64 r2, .int .i64 r3]) (.int .i64 0)).run Tryz.prog w = .ok (.int .i64 r0) w := fun _ => by kernel_rfl
  have i1 : ∀ w, (Instr.index 23 (.agg #[.int .i64 r0, .int .i64 r1, .int .i64 r2, .int .i64 r3]) (.int .i64 1)).run Tryz.prog w = .ok (.int .i64 r1) w := fun _ => by kernel_rfl
  have i2 : ∀ w, (Instr.index 23 (.agg #[.int .i64 r0, .int .i64 r1, .int .i64 r2, .int .i64 r3]) (.int .i64 2)).run Tryz.prog w = .ok (.int .i64 r2) w := fun _ => by kernel_rfl
  have i3 : ∀ w, (Instr.index 23 (.agg #[.int .i64 r0, .int .i64 r1, .int .i64 r2, .int .i64 r3]) (.int .i64 3)).run Tryz.prog w = .ok (.int .i64 r3) w := fun _ => by kernel_rfl
  rcases h1 with h1 | h1
  all_goals
    go_enter Tryz.func19, Tryz.ntmps19
    go_wp2_with fail
    refine (H.out _).mono ?_; rintro e w1 ⟨rfl, rfl⟩
    go_wp2_with fail
    all_goals
      refine bodyPost_ret (v := .tuple #[.agg #[.int .i64 0, .int .i64 0, .int .i64 0, .int .i64 0], .int .i64 0, .int .i64 10]) (by simp [results, Tryz.results19, go_sem]) rfl ⟨rfl, ?_⟩
      go_grown
set_option maxHeartbeats 1600000 in
theorem use_rep1 (r0 r1 r2 r3 b l d : Int) (h : OkTok 2 b l d 1) (h1 : 1 ≤ r1) (h2 : r1 ≤ 67108864) (w : World) : Calls Tryz.prog 19 #[.agg #[.int .i64 r0, .int .i64 r1, .int .i64 r2, .int .i64 r3], .agg #[.int .i64 2, .int .i64 b, .int .i64 l, .int .i64 d, .int .i64 1]] w fun e w' => e = .returned (.tuple #[.agg #[.int .i64 r1, .int .i64 r0, .int .i64 r2, .int .i64 r3], .int .i64 r1, .int .i64 0]) ∧ Below w.heap.size w w' := by
  have H := Lib.hid (ok_any 2 b l d 1 h); clear h
  have i0 : ∀ w, (Instr.index 23 (.agg #[.int .i64 r0, .int .i64 r1, .int .i64 r2, .int .i64 r3]) (.int .i64 0)).run Tryz.prog w = .ok (.int .i64 r0) w := fun _ => by kernel_rfl
  have i1 : ∀ w, (Instr.index 23 (.agg #[.int .i64 r0, .int .i64 r1, .int .i64 r2, .int .i64 r3]) (.int .i64 1)).run Tryz.prog w = .ok (.int .i64 r1) w := fun _ => by kernel_rfl
  have i2 : ∀ w, (Instr.index 23 (.agg #[.int .i64 r0, .int .i64 r1, .int .i64 r2, .int .i64 r3]) (.int .i64 2)).run Tryz.prog w = .ok (.int .i64 r2) w := fun _ => by kernel_rfl
  have i3 : ∀ w, (Instr.index 23 (.agg #[.int .i64 r0, .int .i64 r1, .int .i64 r2, .int .i64 r3]) (.int .i64 3)).run Tryz.prog w = .ok (.int .i64 r3) w := fun _ => by kernel_rfl
  go_enter Tryz.func19, Tryz.ntmps19
  go_wp2_with fail
  refine (H.out _).mono ?_; rintro e w1 ⟨rfl, rfl⟩
  go_wp2_with fail
  refine (ahead_1 _ _ _ _ _ _).mono ?_; rintro e w2 ⟨rfl, rfl⟩
  go_wp2_with fail
  all_goals
    refine bodyPost_ret (v := .tuple #[.agg #[.int .i64 r1, .int .i64 r0, .int .i64 r2, .int .i64 r3], .int .i64 r1, .int .i64 0]) (by simp [results, Tryz.results19, go_sem]) rfl ⟨rfl, ?_⟩
    go_grown
set_option maxHeartbeats 800000 in
theorem use_off1 (r0 r1 r2 r3 b l d : Int) (h : OkTok 2 b l d 1) (h1 : r1 < 1 ∨ 67108864 < r1) (w : World) : Calls Tryz.prog 19 #[.agg #[.int .i64 r0, .int .i64 r1, .int .i64 r2, .int .i64 r3], .agg #[.int .i64 2, .int .i64 b, .int .i64 l, .int .i64 d, .int .i64 1]] w fun e w' => e = .returned (.tuple #[.agg #[.int .i64 0, .int .i64 0, .int .i64 0, .int .i64 0], .int .i64 0, .int .i64 10]) ∧ Below w.heap.size w w' := by
  have H := Lib.hid (ok_any 2 b l d 1 h); clear h
  have i0 : ∀ w, (Instr.index 23 (.agg #[.int .i64 r0, .int .i64 r1, .int .i64 r2, .int .i64 r3]) (.int .i64 0)).run Tryz.prog w = .ok (.int .i64 r0) w := fun _ => by kernel_rfl
  have i1 : ∀ w, (Instr.index 23 (.agg #[.int .i64 r0, .int .i64 r1, .int .i64 r2, .int .i64 r3]) (.int .i64 1)).run Tryz.prog w = .ok (.int .i64 r1) w := fun _ => by kernel_rfl
  have i2 : ∀ w, (Instr.index 23 (.agg #[.int .i64 r0, .int .i64 r1, .int .i64 r2, .int .i64 r3]) (.int .i64 2)).run Tryz.prog w = .ok (.int .i64 r2) w := fun _ => by kernel_rfl
  have i3 : ∀ w, (Instr.index 23 (.agg #[.int .i64 r0, .int .i64 r1, .int .i64 r2, .int .i64 r3]) (.int .i64 3)).run Tryz.prog w = .ok (.int .i64 r3) w := fun _ => by kernel_rfl
  rcases h1 with h1 | h1
  all_goals
    go_enter Tryz.func19, Tryz.ntmps19
    go_wp2_with fail
    refine (H.out _).mono ?_; rintro e w1 ⟨rfl, rfl⟩
    go_wp2_with fail
    all_goals
      refine bodyPost_ret (v := .tuple #[.agg #[.int .i64 0, .int .i64 0, .int .i64 0, .int .i64 0], .int .i64 0, .int .i64 10]) (by simp [results, Tryz.results19, go_sem]) rfl ⟨rfl, ?_⟩
      go_grown
set_option maxHeartbeats 1600000 in
theorem use_rep2 (r0 r1 r2 r3 b l d : Int) (h : OkTok 2 b l d 2) (h1 : 1 ≤ r2) (h2 : r2 ≤ 67108864) (w : World) : Calls Tryz.prog 19 #[.agg #[.int .i64 r0, .int .i64 r1, .int .i64 r2, .int .i64 r3], .agg #[.int .i64 2, .int .i64 b, .int .i64 l, .int .i64 d, .int .i64 2]] w fun e w' => e = .returned (.tuple #[.agg #[.int .i64 r2, .int .i64 r0, .int .i64 r1, .int .i64 r3], .int .i64 r2, .int .i64 0]) ∧ Below w.heap.size w w' := by
  have H := Lib.hid (ok_any 2 b l d 2 h); clear h
  have i0 : ∀ w, (Instr.index 23 (.agg #[.int .i64 r0, .int .i64 r1, .int .i64 r2, .int .i64 r3]) (.int .i64 0)).run Tryz.prog w = .ok (.int .i64 r0) w := fun _ => by kernel_rfl
  have i1 : ∀ w, (Instr.index 23 (.agg #[.int .i64 r0, .int .i64 r1, .int .i64 r2, .int .i64 r3]) (.int .i64 1)).run Tryz.prog w = .ok (.int .i64 r1) w := fun _ => by kernel_rfl
  have i2 : ∀ w, (Instr.index 23 (.agg #[.int .i64 r0, .int .i64 r1, .int .i64 r2, .int .i64 r3]) (.int .i64 2)).run Tryz.prog w = .ok (.int .i64 r2) w := fun _ => by kernel_rfl
  have i3 : ∀ w, (Instr.index 23 (.agg #[.int .i64 r0, .int .i64 r1, .int .i64 r2, .int .i64 r3]) (.int .i64 3)).run Tryz.prog w = .ok (.int .i64 r3) w := fun _ => by kernel_rfl
  go_enter Tryz.func19, Tryz.ntmps19
  go_wp2_with fail
  refine (H.out _).mono ?_; rintro e w1 ⟨rfl, rfl⟩
  go_wp2_with fail
  refine (ahead_2 _ _ _ _ _ _).mono ?_; rintro e w2 ⟨rfl, rfl⟩
  go_wp2_with fail
  all_goals
    refine bodyPost_ret (v := .tuple #[.agg #[.int .i64 r2, .int .i64 r0, .int .i64 r1, .int .i64 r3], .int .i64 r2, .int .i64 0]) (by simp [results, Tryz.results19, go_sem]) rfl ⟨rfl, ?_⟩
    go_grown
set_option maxHeartbeats 800000 in
theorem use_off2 (r0 r1 r2 r3 b l d : Int) (h : OkTok 2 b l d 2) (h1 : r2 < 1 ∨ 67108864 < r2) (w : World) : Calls Tryz.prog 19 #[.agg #[.int .i64 r0, .int .i64 r1, .int .i64 r2, .int .i64 r3], .agg #[.int .i64 2, .int .i64 b, .int .i64 l, .int .i64 d, .int .i64 2]] w fun e w' => e = .returned (.tuple #[.agg #[.int .i64 0, .int .i64 0, .int .i64 0, .int .i64 0], .int .i64 0, .int .i64 10]) ∧ Below w.heap.size w w' := by
  have H := Lib.hid (ok_any 2 b l d 2 h); clear h
  have i0 : ∀ w, (Instr.index 23 (.agg #[.int .i64 r0, .int .i64 r1, .int .i64 r2, .int .i64 r3]) (.int .i64 0)).run Tryz.prog w = .ok (.int .i64 r0) w := fun _ => by kernel_rfl
  have i1 : ∀ w, (Instr.index 23 (.agg #[.int .i64 r0, .int .i64 r1, .int .i64 r2, .int .i64 r3]) (.int .i64 1)).run Tryz.prog w = .ok (.int .i64 r1) w := fun _ => by kernel_rfl
  have i2 : ∀ w, (Instr.index 23 (.agg #[.int .i64 r0, .int .i64 r1, .int .i64 r2, .int .i64 r3]) (.int .i64 2)).run Tryz.prog w = .ok (.int .i64 r2) w := fun _ => by kernel_rfl
  have i3 : ∀ w, (Instr.index 23 (.agg #[.int .i64 r0, .int .i64 r1, .int .i64 r2, .int .i64 r3]) (.int .i64 3)).run Tryz.prog w = .ok (.int .i64 r3) w := fun _ => by kernel_rfl
  rcases h1 with h1 | h1
  all_goals
    go_enter Tryz.func19, Tryz.ntmps19
    go_wp2_with fail
    refine (H.out _).mono ?_; rintro e w1 ⟨rfl, rfl⟩
    go_wp2_with fail
    all_goals
      refine bodyPost_ret (v := .tuple #[.agg #[.int .i64 0, .int .i64 0, .int .i64 0, .int .i64 0], .int .i64 0, .int .i64 10]) (by simp [results, Tryz.results19, go_sem]) rfl ⟨rfl, ?_⟩
      go_grown
set_option maxHeartbeats 1600000 in
theorem use_rep3 (r0 r1 r2 r3 b l d : Int) (h : OkTok 2 b l d 3) (h1 : 1 ≤ r3) (h2 : r3 ≤ 67108864) (w : World) : Calls Tryz.prog 19 #[.agg #[.int .i64 r0, .int .i64 r1, .int .i64 r2, .int .i64 r3], .agg #[.int .i64 2, .int .i64 b, .int .i64 l, .int .i64 d, .int .i64 3]] w fun e w' => e = .returned (.tuple #[.agg #[.int .i64 r3, .int .i64 r0, .int .i64 r1, .int .i64 r2], .int .i64 r3, .int .i64 0]) ∧ Below w.heap.size w w' := by
  have H := Lib.hid (ok_any 2 b l d 3 h); clear h
  have i0 : ∀ w, (Instr.index 23 (.agg #[.int .i64 r0, .int .i64 r1, .int .i64 r2, .int .i64 r3]) (.int .i64 0)).run Tryz.prog w = .ok (.int .i64 r0) w := fun _ => by kernel_rfl
  have i1 : ∀ w, (Instr.index 23 (.agg #[.int .i64 r0, .int .i64 r1, .int .i64 r2, .int .i64 r3]) (.int .i64 1)).run Tryz.prog w = .ok (.int .i64 r1) w := fun _ => by kernel_rfl
  have i2 : ∀ w, (Instr.index 23 (.agg #[.int .i64 r0, .int .i64 r1, .int .i64 r2, .int .i64 r3]) (.int .i64 2)).run Tryz.prog w = .ok (.int .i64 r2) w := fun _ => by kernel_rfl
  have i3 : ∀ w, (Instr.index 23 (.agg #[.int .i64 r0, .int .i64 r1, .int .i64 r2, .int .i64 r3]) (.int .i64 3)).run Tryz.prog w = .ok (.int .i64 r3) w := fun _ => by kernel_rfl
  go_enter Tryz.func19, Tryz.ntmps19
  go_wp2_with fail
  refine (H.out _).mono ?_; rintro e w1 ⟨rfl, rfl⟩
  go_wp2_with fail
  refine (ahead_3 _ _ _ _ _ _).mono ?_; rintro e w2 ⟨rfl, rfl⟩
  go_wp2_with fail
  all_goals
    refine bodyPost_ret (v := .tuple #[.agg #[.int .i64 r3, .int .i64 r0, .int .i64 r1, .int .i64 r2], .int .i64 r3, .int .i64 0]) (by simp [results, Tryz.results19, go_sem]) rfl ⟨rfl, ?_⟩
    go_grown
set_option maxHeartbeats 800000 in
theorem use_off3 (r0 r1 r2 r3 b l d : Int) (h : OkTok 2 b l d 3) (h1 : r3 < 1 ∨ 67108864 < r3) (w : World) : Calls Tryz.prog 19 #[.agg #[.int .i64 r0, .int .i64 r1, .int .i64 r2, .int .i64 r3], .agg #[.int .i64 2, .int .i64 b, .int .i64 l, .int .i64 d, .int .i64 3]] w fun e w' => e = .returned (.tuple #[.agg #[.int .i64 0, .int .i64 0, .int .i64 0, .int .i64 0], .int .i64 0, .int .i64 10]) ∧ Below w.heap.size w w' := by
  have H := Lib.hid (ok_any 2 b l d 3 h); clear h
  have i0 : ∀ w, (Instr.index 23 (.agg #[.int .i64 r0, .int .i64 r1, .int .i64 r2, .int .i64 r3]) (.int .i64 0)).run Tryz.prog w = .ok (.int .i64 r0) w := fun _ => by kernel_rfl
  have i1 : ∀ w, (Instr.index 23 (.agg #[.int .i64 r0, .int .i64 r1, .int .i64 r2, .int .i64 r3]) (.int .i64 1)).run Tryz.prog w = .ok (.int .i64 r1) w := fun _ => by kernel_rfl
  have i2 : ∀ w, (Instr.index 23 (.agg #[.int .i64 r0, .int .i64 r1, .int .i64 r2, .int .i64 r3]) (.int .i64 2)).run Tryz.prog w = .ok (.int .i64 r2) w := fun _ => by kernel_rfl
  have i3 : ∀ w, (Instr.index 23 (.agg #[.int .i64 r0, .int .i64 r1, .int .i64 r2, .int .i64 r3]) (.int .i64 3)).run Tryz.prog w = .ok (.int .i64 r3) w := fun _ => by kernel_rfl
  rcases h1 with h1 | h1
  all_goals
    go_enter Tryz.func19, Tryz.ntmps19
    go_wp2_with fail
    refine (H.out _).mono ?_; rintro e w1 ⟨rfl, rfl⟩
    go_wp2_with fail
    all_goals
      refine bodyPost_ret (v := .tuple #[.agg #[.int .i64 0, .int .i64 0, .int .i64 0, .int .i64 0], .int .i64 0, .int .i64 10]) (by simp [results, Tryz.results19, go_sem]) rfl ⟨rfl, ?_⟩
      go_grown
set_option maxHeartbeats 800000 in
theorem refUse_bad (r0 r1 r2 r3 k b l d r : Int) (h : ¬ OkTok k b l d r) (w : World) : Calls Tryz.prog 13 #[.agg #[.int .i64 r0, .int .i64 r1, .int .i64 r2, .int .i64 r3], .agg #[.int .i64 k, .int .i64 b, .int .i64 l, .int .i64 d, .int .i64 r]] w fun e w' => e = .returned (.tuple #[.agg #[.int .i64 0, .int .i64 0, .int .i64 0, .int .i64 0], .int .i64 0, .int .i64 10]) ∧ Below w.heap.size w w' := by
  have H := Lib.hid (refNo_any k b l d r h); clear h
  go_enter Tryz.func13, Tryz.ntmps13
  go_wp2_with fail
  refine (H.out _).mono ?_; rintro e w1 ⟨rfl, rfl⟩
  go_wp2_with fail
  all_goals
    refine bodyPost_ret (v := .tuple #[.agg #[.int .i64 0, .int .i64 0, .int .i64 0, .int .i64 0], .int .i64 0, .int .i64 10]) (by simp [results, Tryz.results13, go_sem]) rfl ⟨rfl, ?_⟩
    go_grown
set_option maxHeartbeats 800000 in
theorem refUse_lit (r0 r1 r2 r3 b l d r : Int) (h : OkTok 0 b l d r) (w : World) : Calls Tryz.prog 13 #[.agg #[.int .i64 r0, .int .i64 r1, .int .i64 r2, .int .i64 r3], .agg #[.int .i64 0, .int .i64 b, .int .i64 l, .int .i64 d, .int .i64 r]] w fun e w' => e = .returned (.tuple #[.agg #[.int .i64 r0, .int .i64 r1, .int .i64 r2, .int .i64 r3], .int .i64 0, .int .i64 0]) ∧ Below w.heap.size w w' := by
  have H := Lib.hid (refOk_any 0 b l d r h); clear h
  go_enter Tryz.func13, Tryz.ntmps13
  go_wp2_with fail
  refine (H.out _).mono ?_; rintro e w1 ⟨rfl, rfl⟩
  go_wp2_with fail
  all_goals
    refine bodyPost_ret (v := .tuple #[.agg #[.int .i64 r0, .int .i64 r1, .int .i64 r2, .int .i64 r3], .int .i64 0, .int .i64 0]) (by simp [results, Tryz.results13, go_sem]) rfl ⟨rfl, ?_⟩
    go_grown
set_option maxHeartbeats 800000 in
theorem refUse_copy (r0 r1 r2 r3 b l d r : Int) (h : OkTok 1 b l d r) (w : World) : Calls Tryz.prog 13 #[.agg #[.int .i64 r0, .int .i64 r1, .int .i64 r2, .int .i64 r3], .agg #[.int .i64 1, .int .i64 b, .int .i64 l, .int .i64 d, .int .i64 r]] w fun e w' => e = .returned (.tuple #[.agg #[.int .i64 d, .int .i64 r0, .int .i64 r1, .int .i64 r2], .int .i64 d, .int .i64 0]) ∧ Below w.heap.size w w' := by
  have H := Lib.hid (refOk_any 1 b l d r h); clear h
  have i0 : ∀ w, (Instr.index 23 (.agg #[.int .i64 r0, .int .i64 r1, .int .i64 r2, .int .i64 r3]) (.int .i64 0)).run Tryz.prog w = .ok (.int .i64 r0) w := fun _ => by kernel_rfl
  have i1 : ∀ w, (Instr.index 23 (.agg #[.int .i64 r0, .int .i64 r1, .int .i64 r2, .int .i64 r3]) (.int .i64 1)).run Tryz.prog w = .ok (.int .i64 r1) w := fun _ => by kernel_rfl
  have i2 : ∀ w, (Instr.index 23 (.agg #[.int .i64 r0, .int .i64 r1, .int .i64 r2, .int .i64 r3]) (.int .i64 2)).run Tryz.prog w = .ok (.int .i64 r2) w := fun _ => by kernel_rfl
  have i3 : ∀ w, (Instr.index 23 (.agg #[.int .i64 r0, .int .i64 r1, .int .i64 r2, .int .i64 r3]) (.int .i64 3)).run Tryz.prog w = .ok (.int .i64 r3) w := fun _ => by kernel_rfl
  go_enter Tryz.func13, Tryz.ntmps13
  go_wp2_with fail
  refine (H.out _).mono ?_; rintro e w1 ⟨rfl, rfl⟩
  go_wp2_with fail
  go_region
  all_goals go_wp2_with fail
  all_goals
    refine bodyPost_ret (v := .tuple #[.agg #[.int .i64 d, .int .i64 r0, .int .i64 r1, .int .i64 r2], .int .i64 d, .int .i64 0]) (by simp [results, Tryz.results13, go_sem]) rfl ⟨rfl, ?_⟩
    go_grown
set_option maxHeartbeats 1600000 in
theorem refUse_rep0 (r0 r1 r2 r3 b l d : Int) (h : OkTok 2 b l d 0) (h1 : 1 ≤ r0) (h2 : r0 ≤ 67108864) (w : World) : Calls Tryz.prog 13 #[.agg #[.int .i64 r0, .int .i64 r1, .int .i64 r2, .int .i64 r3], .agg #[.int .i64 2, .int .i64 b, .int .i64 l, .int .i64 d, .int .i64 0]] w fun e w' => e = .returned (.tuple #[.agg #[.int .i64 r0, .int .i64 r1, .int .i64 r2, .int .i64 r3], .int .i64 r0, .int .i64 0]) ∧ Below w.heap.size w w' := by
  have H := Lib.hid (refOk_any 2 b l d 0 h); clear h
  have i0 : ∀ w, (Instr.index 23 (.agg #[.int .i64 r0, .int .i64 r1, .int .i64 r2, .int .i64 r3]) (.int .i64 0)).run Tryz.prog w = .ok (.int .i64 r0) w := fun _ => by kernel_rfl
  have i1 : ∀ w, (Instr.index 23 (.agg #[.int .i64 r0, .int .i64 r1, .int .i64 r2, .int .i64 r3]) (.int .i64 1)).run Tryz.prog w = .ok (.int .i64 r1) w := fun _ => by kernel_rfl
  have i2 : ∀ w, (Instr.index 23 (.agg #[.int .i64 r0, .int .i64 r1, .int .i64 r2, .int .i64 r3]) (.int .i64 2)).run Tryz.prog w = .ok (.int .i64 r2) w := fun _ => by kernel_rfl
  have i3 : ∀ w, (Instr.index 23 (.agg #[.int .i64 r0, .int .i64 r1, .int .i64 r2, .int .i64 r3]) (.int .i64 3)).run Tryz.prog w = .ok (.int .i64 r3) w := fun _ => by kernel_rfl
  go_enter Tryz.func13, Tryz.ntmps13
  go_wp2_with fail
  refine (H.out _).mono ?_; rintro e w1 ⟨rfl, rfl⟩
  go_wp2_with fail
  refine wp_loop_rounds 5 ?_
  repeat any_goals (rw [rounds_succ]; go_wp2)
  all_goals
    refine bodyPost_ret (v := .tuple #[.agg #[.int .i64 r0, .int .i64 r1, .int .i64 r2, .int .i64 r3], .int .i64 r0, .int .i64 0]) (by simp [results, Tryz.results13, go_sem]) rfl ⟨rfl, ?_⟩
    go_grown
set_option maxHeartbeats 800000 in
theorem refUse_off0 (r0 r1 r2 r3 b l d : Int) (h : OkTok 2 b l d 0) (h1 : r0 < 1 ∨ 67108864 < r0) (w : World) : Calls Tryz.prog 13 #[.agg #[.int .i64 r0, .int .i64 r1, .int .i64 r2, .int .i64 r3], .agg #[.int .i64 2, .int .i64 b, .int .i64 l, .int .i64 d, .int .i64 0]] w fun e w' => e = .returned (.tuple #[.agg #[.int .i64 0, .int .i64 0, .int .i64 0, .int .i64 0], .int .i64 0, .int .i64 10]) ∧ Below w.heap.size w w' := by
  have H := Lib.hid (refOk_any 2 b l d 0 h); clear h
  have i0 : ∀ w, (Instr.index 23 (.agg #[.int .i64 r0, .int .i64 r1, .int .i64 r2, .int .i64 r3]) (.int .i64 0)).run Tryz.prog w = .ok (.int .i64 r0) w := fun _ => by kernel_rfl
  have i1 : ∀ w, (Instr.index 23 (.agg #[.int .i64 r0, .int .i64 r1, .int .i64 r2, .int .i64 r3]) (.int .i64 1)).run Tryz.prog w = .ok (.int .i64 r1) w := fun _ => by kernel_rfl
  have i2 : ∀ w, (Instr.index 23 (.agg #[.int .i64 r0, .int .i64 r1, .int .i64 r2, .int .i64 r3]) (.int .i64 2)).run Tryz.prog w = .ok (.int .i64 r2) w := fun _ => by kernel_rfl
  have i3 : ∀ w, (Instr.index 23 (.agg #[.int .i64 r0, .int .i64 r1, .int .i64 r2, .int .i64 r3]) (.int .i64 3)).run Tryz.prog w = .ok (.int .i64 r3) w := fun _ => by kernel_rfl
  rcases h1 with h1 | h1
  all_goals
    go_enter Tryz.func13, Tryz.ntmps13
    go_wp2_with fail
    refine (H.out _).mono ?_; rintro e w1 ⟨rfl, rfl⟩
    go_wp2_with fail
    all_goals
      refine bodyPost_ret (v := .tuple #[.agg #[.int .i64 0, .int .i64 0, .int .i64 0, .int .i64 0], .int .i64 0, .int .i64 10]) (by simp [results, Tryz.results13, go_sem]) rfl ⟨rfl, ?_⟩
      go_grown
set_option maxHeartbeats 1600000 in
theorem refUse_rep1 (r0 r1 r2 r3 b l d : Int) (h : OkTok 2 b l d 1) (h1 : 1 ≤ r1) (h2 : r1 ≤ 67108864) (w : World) : Calls Tryz.prog 13 #[.agg #[.int .i64 r0, .int .i64 r1, .int .i64 r2, .int .i64 r3], .agg #[.int .i64 2, .int .i64 b, .int .i64 l, .int .i64 d, .int .i64 1]] w fun e w' => e = .returned (.tuple #[.agg #[.int .i64 r1, .int .i64 r0, .int .i64 r2, .int .i64 r3], .int .i64 r1, .int .i64 0]) ∧ Below w.heap.size w w' := by
  have H := Lib.hid (refOk_any 2 b l d 1 h); clear h
  have i0 : ∀ w, (Instr.index 23 (.agg #[.int .i64 r0, .int .i64 r1, .int .i64 r2, .int .i64 r3]) (.int .i64 0)).run Tryz.prog w = .ok (.int .i64 r0) w := fun _ => by kernel_rfl
  have i1 : ∀ w, (Instr.index 23 (.agg #[.int .i64 r0, .int .i64 r1, .int .i64 r2, .int .i64 r3]) (.int .i64 1)).run Tryz.prog w = .ok (.int .i64 r1) w := fun _ => by kernel_rfl
  have i2 : ∀ w, (Instr.index 23 (.agg #[.int .i64 r0, .int .i64 r1, .int .i64 r2, .int .i64 r3]) (.int .i64 2)).run Tryz.prog w = .ok (.int .i64 r2) w := fun _ => by kernel_rfl
  have i3 : ∀ w, (Instr.index 23 (.agg #[.int .i64 r0, .int .i64 r1, .int .i64 r2, .int .i64 r3]) (.int .i64 3)).run Tryz.prog w = .ok (.int .i64 r3) w := fun _ => by kernel_rfl
  go_enter Tryz.func13, Tryz.ntmps13
  go_wp2_with fail
  refine (H.out _).mono ?_; rintro e w1 ⟨rfl, rfl⟩
  go_wp2_with fail
  refine wp_loop_rounds 5 ?_
  repeat any_goals (rw [rounds_succ]; go_wp2)
  all_goals
    refine bodyPost_ret (v := .tuple #[.agg #[.int .i64 r1, .int .i64 r0, .int .i64 r2, .int .i64 r3], .int .i64 r1, .int .i64 0]) (by simp [results, Tryz.results13, go_sem]) rfl ⟨rfl, ?_⟩
    go_grown
set_option maxHeartbeats 800000 in
theorem refUse_off1 (r0 r1 r2 r3 b l d : Int) (h : OkTok 2 b l d 1) (h1 : r1 < 1 ∨ 67108864 < r1) (w : World) : Calls Tryz.prog 13 #[.agg #[.int .i64 r0, .int .i64 r1, .int .i64 r2, .int .i64 r3], .agg #[.int .i64 2, .int .i64 b, .int .i64 l, .int .i64 d, .int .i64 1]] w fun e w' => e = .returned (.tuple #[.agg #[.int .i64 0, .int .i64 0, .int .i64 0, .int .i64 0], .int .i64 0, .int .i64 10]) ∧ Below w.heap.size w w' := by
  have H := Lib.hid (refOk_any 2 b l d 1 h); clear h
  have i0 : ∀ w, (Instr.index 23 (.agg #[.int .i64 r0, .int .i64 r1, .int .i64 r2, .int .i64 r3]) (.int .i64 0)).run Tryz.prog w = .ok (.int .i64 r0) w := fun _ => by kernel_rfl
  have i1 : ∀ w, (Instr.index 23 (.agg #[.int .i64 r0, .int .i64 r1, .int .i64 r2, .int .i64 r3]) (.int .i64 1)).run Tryz.prog w = .ok (.int .i64 r1) w := fun _ => by kernel_rfl
  have i2 : ∀ w, (Instr.index 23 (.agg #[.int .i64 r0, .int .i64 r1, .int .i64 r2, .int .i64 r3]) (.int .i64 2)).run Tryz.prog w = .ok (.int .i64 r2) w := fun _ => by kernel_rfl
  have i3 : ∀ w, (Instr.index 23 (.agg #[.int .i64 r0, .int .i64 r1, .int .i64 r2, .int .i64 r3]) (.int .i64 3)).run Tryz.prog w = .ok (.int .i64 r3) w := fun _ => by kernel_rfl
  rcases h1 with h1 | h1
  all_goals
    go_enter Tryz.func13, Tryz.ntmps13
    go_wp2_with fail
    refine (H.out _).mono ?_; rintro e w1 ⟨rfl, rfl⟩
    go_wp2_with fail
    all_goals
      refine bodyPost_ret (v := .tuple #[.agg #[.int .i64 0, .int .i64 0, .int .i64 0, .int .i64 0], .int .i64 0, .int .i64 10]) (by simp [results, Tryz.results13, go_sem]) rfl ⟨rfl, ?_⟩
      go_grown
set_option maxHeartbeats 1600000 in
theorem refUse_rep2 (r0 r1 r2 r3 b l d : Int) (h : OkTok 2 b l d 2) (h1 : 1 ≤ r2) (h2 : r2 ≤ 67108864) (w : World) : Calls Tryz.prog 13 #[.agg #[.int .i64 r0, .int .i64 r1, .int .i64 r2, .int .i64 r3], .agg #[.int .i64 2, .int .i64 b, .int .i64 l, .int .i64 d, .int .i64 2]] w fun e w' => e = .returned (.tuple #[.agg #[.int .i64 r2, .int .i64 r0, .int .i64 r1, .int .i64 r3], .int .i64 r2, .int .i64 0]) ∧ Below w.heap.size w w' := by
  have H := Lib.hid (refOk_any 2 b l d 2 h); clear h
  have i0 : ∀ w, (Instr.index 23 (.agg #[.int .i64 r0, .int .i64 r1, .int .i64 r2, .int .i64 r3]) (.int .i64 0)).run Tryz.prog w = .ok (.int .i64 r0) w := fun _ => by kernel_rfl
  have i1 : ∀ w, (Instr.index 23 (.agg #[.int .i64 r0, .int .i64 r1, .int .i64 r2, .int .i64 r3]) (.int .i64 1)).run Tryz.prog w = .ok (.int .i64 r1) w := fun _ => by kernel_rfl
  have i2 : ∀ w, (Instr.index 23 (.agg #[.int .i64 r0, .int .i64 r1, .int .i64 r2, .int .i64 r3]) (.int .i64 2)).run Tryz.prog w = .ok (.int .i64 r2) w := fun _ => by kernel_rfl
  have i3 : ∀ w, (Instr.index 23 (.agg #[.int .i64 r0, .int .i64 r1, .int .i64 r2, .int .i64 r3]) (.int .i64 3)).run Tryz.prog w = .ok (.int .i64 r3) w := fun _ => by kernel_rfl
  go_enter Tryz.func13, Tryz.ntmps13
  go_wp2_with fail
  refine (H.out _).mono ?_; rintro e w1 ⟨rfl, rfl⟩
  go_wp2_with fail
  refine wp_loop_rounds 5 ?_
  repeat any_goals (rw [rounds_succ]; go_wp2)
  all_goals
    refine bodyPost_ret (v := .tuple #[.agg #[.int .i64 r2, .int .i64 r0, .int .i64 r1, .int .i64 r3], .int .i64 r2, .int .i64 0]) (by simp [results, Tryz.results13, go_sem]) rfl ⟨rfl, ?_⟩
    go_grown
set_option maxHeartbeats 800000 in
theorem refUse_off2 (r0 r1 r2 r3 b l d : Int) (h : OkTok 2 b l d 2) (h1 : r2 < 1 ∨ 67108864 < r2) (w : World) : Calls Tryz.prog 13 #[.agg #[.int .i64 r0, .int .i64 r1, .int .i64 r2, .int .i64 r3], .agg #[.int .i64 2, .int .i64 b, .int .i64 l, .int .i64 d, .int .i64 2]] w fun e w' => e = .returned (.tuple #[.agg #[.int .i64 0, .int .i64 0, .int .i64 0, .int .i64 0], .int .i64 0, .int .i64 10]) ∧ Below w.heap.size w w' := by
  have H := Lib.hid (refOk_any 2 b l d 2 h); clear h
  have i0 : ∀ w, (Instr.index 23 (.agg #[.int .i64 r0, .int .i64 r1, .int .i64 r2, .int .i64 r3]) (.int .i64 0)).run Tryz.prog w = .ok (.int .i64 r0) w := fun _ => by kernel_rfl
  have i1 : ∀ w, (Instr.index 23 (.agg #[.int .i64 r0, .int .i64 r1, .int .i64 r2, .int .i64 r3]) (.int .i64 1)).run Tryz.prog w = .ok (.int .i64 r1) w := fun _ => by kernel_rfl
  have i2 : ∀ w, (Instr.index 23 (.agg #[.int .i64 r0, .int .i64 r1, .int .i64 r2, .int .i64 r3]) (.int .i64 2)).run Tryz.prog w = .ok (.int .i64 r2) w := fun _ => by kernel_rfl
  have i3 : ∀ w, (Instr.index 23 (.agg #[.int .i64 r0, .int .i64 r1, .int .i64 r2, .int .i64 r3]) (.int .i64 3)).run Tryz.prog w = .ok (.int .i64 r3) w := fun _ => by kernel_rfl
  rcases h1 with h1 | h1
  all_goals
    go_enter Tryz.func13, Tryz.ntmps13
    go_wp2_with fail
    refine (H.out _).mono ?_; rintro e w1 ⟨rfl, rfl⟩
    go_wp2_with fail
    all_goals
      refine bodyPost_ret (v := .tuple #[.agg #[.int .i64 0, .int .i64 0, .int .i64 0, .int .i64 0], .int .i64 0, .int .i64 10]) (by simp [results, Tryz.results13, go_sem]) rfl ⟨rfl, ?_⟩
      go_grown
set_option maxHeartbeats 1600000 in
theorem refUse_rep3 (r0 r1 r2 r3 b l d : Int) (h : OkTok 2 b l d 3) (h1 : 1 ≤ r3) (h2 : r3 ≤ 67108864) (w : World) : Calls Tryz.prog 13 #[.agg #[.int .i64 r0, .int .i64 r1, .int .i64 r2, .int .i64 r3], .agg #[.int .i64 2, .int .i64 b, .int .i64 l, .int .i64 d, .int .i64 3]] w fun e w' => e = .returned (.tuple #[.agg #[.int .i64 r3, .int .i64 r0, .int .i64 r1, .int .i64 r2], .int .i64 r3, .int .i64 0]) ∧ Below w.heap.size w w' := by
  have H := Lib.hid (refOk_any 2 b l d 3 h); clear h
  have i0 : ∀ w, (Instr.index 23 (.agg #[.int .i64 r0, .int .i64 r1, .int .i64 r2, .int .i64 r3]) (.int .i64 0)).run Tryz.prog w = .ok (.int .i64 r0) w := fun _ => by kernel_rfl
  have i1 : ∀ w, (Instr.index 23 (.agg #[.int .i64 r0, .int .i64 r1, .int .i64 r2, .int .i64 r3]) (.int .i64 1)).run Tryz.prog w = .ok (.int .i64 r1) w := fun _ => by kernel_rfl
  have i2 : ∀ w, (Instr.index 23 (.agg #[.int .i64 r0, .int .i64 r1, .int .i64 r2, .int .i64 r3]) (.int .i64 2)).run Tryz.prog w = .ok (.int .i64 r2) w := fun _ => by kernel_rfl
  have i3 : ∀ w, (Instr.index 23 (.agg #[.int .i64 r0, .int .i64 r1, .int .i64 r2, .int .i64 r3]) (.int .i64 3)).run Tryz.prog w = .ok (.int .i64 r3) w := fun _ => by kernel_rfl
  go_enter Tryz.func13, Tryz.ntmps13
  go_wp2_with fail
  refine (H.out _).mono ?_; rintro e w1 ⟨rfl, rfl⟩
  go_wp2_with fail
  refine wp_loop_rounds 5 ?_
  repeat any_goals (rw [rounds_succ]; go_wp2)
  all_goals
    refine bodyPost_ret (v := .tuple #[.agg #[.int .i64 r3, .int .i64 r0, .int .i64 r1, .int .i64 r2], .int .i64 r3, .int .i64 0]) (by simp [results, Tryz.results13, go_sem]) rfl ⟨rfl, ?_⟩
    go_grown
set_option maxHeartbeats 800000 in
theorem refUse_off3 (r0 r1 r2 r3 b l d : Int) (h : OkTok 2 b l d 3) (h1 : r3 < 1 ∨ 67108864 < r3) (w : World) : Calls Tryz.prog 13 #[.agg #[.int .i64 r0, .int .i64 r1, .int .i64 r2, .int .i64 r3], .agg #[.int .i64 2, .int .i64 b, .int .i64 l, .int .i64 d, .int .i64 3]] w fun e w' => e = .returned (.tuple #[.agg #[.int .i64 0, .int .i64 0, .int .i64 0, .int .i64 0], .int .i64 0, .int .i64 10]) ∧ Below w.heap.size w w' := by
  have H := Lib.hid (refOk_any 2 b l d 3 h); clear h
  have i0 : ∀ w, (Instr.index 23 (.agg #[.int .i64 r0, .int .i64 r1, .int .i64 r2, .int .i64 r3]) (.int .i64 0)).run Tryz.prog w = .ok (.int .i64 r0) w := fun _ => by kernel_rfl
  have i1 : ∀ w, (Instr.index 23 (.agg #[.int .i64 r0, .int .i64 r1, .int .i64 r2, .int .i64 r3]) (.int .i64 1)).run Tryz.prog w = .ok (.int .i64 r1) w := fun _ => by kernel_rfl
  have i2 : ∀ w, (Instr.index 23 (.agg #[.int .i64 r0, .int .i64 r1, .int .i64 r2, .int .i64 r3]) (.int .i64 2)).run Tryz.prog w = .ok (.int .i64 r2) w := fun _ => by kernel_rfl
  have i3 : ∀ w, (Instr.index 23 (.agg #[.int .i64 r0, .int .i64 r1, .int .i64 r2, .int .i64 r3]) (.int .i64 3)).run Tryz.prog w = .ok (.int .i64 r3) w := fun _ => by kernel_rfl
  rcases h1 with h1 | h1
  all_goals
    go_enter Tryz.func13, Tryz.ntmps13
    go_wp2_with fail
    refine (H.out _).mono ?_; rintro e w1 ⟨rfl, rfl⟩
    go_wp2_with fail
    all_goals
      refine bodyPost_ret (v := .tuple #[.agg #[.int .i64 0, .int .i64 0, .int .i64 0, .int .i64 0], .int .i64 0, .int .i64 10]) (by simp [results, Tryz.results13, go_sem]) rfl ⟨rfl, ?_⟩
      go_grown
end Go.Proofs.YtipcdkemokkdfaaGreat

/- Contracts of layer 16's Size, Sym and Of, the program's and the document's; the chapter's examples. -/
namespace Go.Proofs.YtipcdkemokkdfaaGreat
open Go.ChangeShapes Go.WideShapes Go.ChangeAt Go.RowKit
open Tok (OkTok chk chk_no chk_yes)
set_option linter.unusedVariables false
set_option maxRecDepth 100000

def szTok (k b l d r : Int) : Int := if OkTok k b l d r then (if k = 0 then 1 else l) else 0

/-- A boxed token stays as it is while others call. -/
theorem boxed5 {w w1 : World} {c0 c1 c2 c3 c4 : Value} {t : TypeId} (hb : Below (w.alloc (.cells #[c0, c1, c2, c3, c4] t)).heap.size (w.alloc (.cells #[c0, c1, c2, c3, c4] t)) w1) :
    (w1.cell? ⟨w.heap.size, 0, none⟩ = some c0 ∧ w1.cell? ⟨w.heap.size, 1, none⟩ = some c1 ∧ w1.cell? ⟨w.heap.size, 2, none⟩ = some c2) ∧ w1.cell? ⟨w.heap.size, 3, none⟩ = some c3 ∧ w1.cell? ⟨w.heap.size, 4, none⟩ = some c4 := by
  have h (j : Nat) := hb.cell (p := ⟨w.heap.size, j, none⟩) (by simp)
  refine ⟨⟨?_, ?_, ?_⟩, ?_, ?_⟩ <;> (rw [h, World.cell?_alloc_new]; rfl)
theorem below_box {w w1 : World} {c : Array Value} {t : TypeId} (hb : Below (w.alloc (.cells c t)).heap.size (w.alloc (.cells c t)) w1) : Below w.heap.size w w1 :=
  ((Below.refl _ _).alloc (Nat.le_refl _) _).trans (hb.mono (by simp))
theorem ret2_i {a b a' b' : Int} (h1 : a = a') (h2 : b = b') : Ending.returned (.tuple #[.int .i64 a, .int .i64 b]) = .returned (.tuple #[.int .i64 a', .int .i64 b']) := by rw [h1, h2]

set_option maxHeartbeats 800000 in
theorem size_any (k b l d r : Int) (w : World) :
    Calls Tryz.prog 54 #[.agg #[.int .i64 k, .int .i64 b, .int .i64 l, .int .i64 d, .int .i64 r]] w fun e w' => e = .returned (.int .i64 (szTok k b l d r)) ∧ Below w.heap.size w w' := by
  have C := Lib.hid (check_any k b l d r)
  by_cases h : OkTok k b l d r
  · have e1 : chk k b l d r = 0 := (chk_yes h).symm
    rw [e1] at C
    clear e1
    by_cases k0 : k = 0
    · subst k0
      have e2 : szTok 0 b l d r = 1 := by unfold szTok; rw [if_pos h, if_pos rfl]
      rw [e2]; clear e2 h
      go_enter Tryz.func54, Tryz.ntmps54
      go_wp2_with fail
      refine (C.out _).mono ?_; rintro e w1 ⟨rfl, hb1⟩
      obtain ⟨⟨q0, q1, q2⟩, q3, q4⟩ := boxed5 hb1
      have hlt : w.heap.size < w1.heap.size := by have := hb1.size; simp at this; omega
      have hbb := below_box hb1
      clear hb1
      go_wp2
      go_ret
      exact ⟨rfl, hbb⟩
    · skip
      by_cases k1 : k = 1
      · subst k1
        have e2 : szTok 1 b l d r = l := by unfold szTok; rw [if_pos h, if_neg (by decide)]
        rw [e2]; clear e2 h
        go_enter Tryz.func54, Tryz.ntmps54
        go_wp2_with fail
        refine (C.out _).mono ?_; rintro e w1 ⟨rfl, hb1⟩
        obtain ⟨⟨q0, q1, q2⟩, q3, q4⟩ := boxed5 hb1
        have hlt : w.heap.size < w1.heap.size := by have := hb1.size; simp at this; omega
        have hbb := below_box hb1
        clear hb1
        go_wp2
        go_ret
        exact ⟨rfl, hbb⟩
      · skip
        obtain rfl : k = 2 := by unfold OkTok at h; omega
        have e2 : szTok 2 b l d r = l := by unfold szTok; rw [if_pos h, if_neg (by decide)]
        rw [e2]; clear e2 h
        go_enter Tryz.func54, Tryz.ntmps54
        go_wp2_with fail
        refine (C.out _).mono ?_; rintro e w1 ⟨rfl, hb1⟩
        obtain ⟨⟨q0, q1, q2⟩, q3, q4⟩ := boxed5 hb1
        have hlt : w.heap.size < w1.heap.size := by have := hb1.size; simp at this; omega
        have hbb := below_box hb1
        clear hb1
        go_wp2
        go_ret
        exact ⟨rfl, hbb⟩
  · have e1 : chk k b l d r = 10 := (chk_no h).symm
    have e2 : szTok k b l d r = 0 := if_neg h
    rw [e1] at C
    rw [e2]; clear e1 e2 h
    go_enter Tryz.func54, Tryz.ntmps54
    go_wp2_with fail
    refine (C.out _).mono ?_; rintro e w1 ⟨rfl, hb1⟩
    have hbb := below_box hb1
    clear hb1
    go_wp2
    go_ret
    exact ⟨rfl, hbb⟩

end Go.Proofs.YtipcdkemokkdfaaGreat

/- Layer 18: what pieces mean (mathematics). -/
namespace Go.Proofs.YtipcdkemokkdfaaGreat
open Go.ChangeShapes Go.WideShapes Go.ChangeAt Go.RowKit
open Tok (OkTok chk chk_no chk_yes)
set_option linter.unusedVariables false
set_option maxRecDepth 100000
/-- Four distances. -/
structure Q4 where
  a : Int
  b : Int
  c : Int
  d : Int
def z4 : Q4 := ⟨0, 0, 0, 0⟩
def q4V (q : Q4) : Value := .agg #[.int .i64 q.a, .int .i64 q.b, .int .i64 q.c, .int .i64 q.d]
def useV (q : Q4) (t : Tk) : Q4 × Int × Int :=
  if t.ok then
    if t.k = 0 then (q, 0, 0)
    else if t.k = 1 then (⟨t.d, q.a, q.b, q.c⟩, t.d, 0)
    else if t.r = 0 then (if q.a < 1 ∨ 67108864 < q.a then (z4, 0, 10) else (q, q.a, 0))
    else if t.r = 1 then (if q.b < 1 ∨ 67108864 < q.b then (z4, 0, 10) else (⟨q.b, q.a, q.c, q.d⟩, q.b, 0))
    else if t.r = 2 then (if q.c < 1 ∨ 67108864 < q.c then (z4, 0, 10) else (⟨q.c, q.a, q.b, q.d⟩, q.c, 0))
    else (if q.d < 1 ∨ 67108864 < q.d then (z4, 0, 10) else (⟨q.d, q.a, q.b, q.c⟩, q.d, 0))
  else (z4, 0, 10)
theorem tk_kinds {t : Tk} (h : t.ok) : t.k = 0 ∨ t.k = 1 ∨ (t.k = 2 ∧ (t.r = 0 ∨ t.r = 1 ∨ t.r = 2 ∨ t.r = 3)) := by
  unfold Tk.ok OkTok at h; omega
def UsePost (q : Q4) (t : Tk) (w : World) (e : Ending) (w' : World) : Prop := e = .returned (.tuple #[q4V (useV q t).1, .int .i64 (useV q t).2.1, .int .i64 (useV q t).2.2]) ∧ Below w.heap.size w w'
theorem use_post {q : Q4} {t : Tk} {x : Q4} {y z : Int} (h : useV q t = (x, y, z)) {w : World} {e : Ending} {w' : World} (h2 : e = .returned (.tuple #[q4V x, .int .i64 y, .int .i64 z]) ∧ Below w.heap.size w w') : UsePost q t w e w' := by
  unfold UsePost; rw [h]; exact h2
theorem pUse (q : Q4) (t : Tk) (w : World) : Calls Tryz.prog 19 #[q4V q, tkV t] w (UsePost q t w) := by
  obtain ⟨k, b, l, d, r⟩ := t
  obtain ⟨q0, q1, q2, q3⟩ := q
  by_cases h : OkTok k b l d r
  · have hok : Tk.ok ⟨k, b, l, d, r⟩ := h
    have hk := tk_kinds hok
    simp only at hk
    rcases hk with rfl | rfl | ⟨rfl, rfl | rfl | rfl | rfl⟩
    · exact (use_lit q0 q1 q2 q3 b l d r h w).mono fun e w' h2 => use_post (x := ⟨q0, q1, q2, q3⟩) (by unfold useV; rw [if_pos hok]; rfl) h2
    · exact (use_copy q0 q1 q2 q3 b l d r h w).mono fun e w' h2 => use_post (x := ⟨d, q0, q1, q2⟩) (by unfold useV; rw [if_pos hok]; rfl) h2
    · by_cases g : q0 < 1 ∨ 67108864 < q0
      · exact (use_off0 q0 q1 q2 q3 b l d h g w).mono fun e w' h2 => use_post (x := z4) (by unfold useV; rw [if_pos hok, if_neg (by simp), if_neg (by simp), if_pos rfl, if_pos g]) h2
      · exact (use_rep0 q0 q1 q2 q3 b l d h (by omega) (by omega) w).mono fun e w' h2 => use_post (x := ⟨q0, q1, q2, q3⟩) (by unfold useV; rw [if_pos hok, if_neg (by simp), if_neg (by simp), if_pos rfl, if_neg g]) h2
    · by_cases g : q1 < 1 ∨ 67108864 < q1
      · exact (use_off1 q0 q1 q2 q3 b l d h g w).mono fun e w' h2 => use_post (x := z4) (by unfold useV; rw [if_pos hok, if_neg (by simp), if_neg (by simp), if_neg (by simp), if_pos rfl, if_pos g]) h2
      · exact (use_rep1 q0 q1 q2 q3 b l d h (by omega) (by omega) w).mono fun e w' h2 => use_post (x := ⟨q1, q0, q2, q3⟩) (by unfold useV; rw [if_pos hok, if_neg (by simp), if_neg (by simp), if_neg (by simp), if_pos rfl, if_neg g]) h2
    · by_cases g : q2 < 1 ∨ 67108864 < q2
      · exact (use_off2 q0 q1 q2 q3 b l d h g w).mono fun e w' h2 => use_post (x := z4) (by unfold useV; rw [if_pos hok, if_neg (by simp), if_neg (by simp), if_neg (by simp), if_neg (by simp), if_pos rfl, if_pos g]) h2
      · exact (use_rep2 q0 q1 q2 q3 b l d h (by omega) (by omega) w).mono fun e w' h2 => use_post (x := ⟨q2, q0, q1, q3⟩) (by unfold useV; rw [if_pos hok, if_neg (by simp), if_neg (by simp), if_neg (by simp), if_neg (by simp), if_pos rfl, if_neg g]) h2
    · by_cases g : q3 < 1 ∨ 67108864 < q3
      · exact (use_off3 q0 q1 q2 q3 b l d h g w).mono fun e w' h2 => use_post (x := z4) (by unfold useV; rw [if_pos hok, if_neg (by simp), if_neg (by simp), if_neg (by simp), if_neg (by simp), if_neg (by simp), if_pos g]) h2
      · exact (use_rep3 q0 q1 q2 q3 b l d h (by omega) (by omega) w).mono fun e w' h2 => use_post (x := ⟨q3, q0, q1, q2⟩) (by unfold useV; rw [if_pos hok, if_neg (by simp), if_neg (by simp), if_neg (by simp), if_neg (by simp), if_neg (by simp), if_neg g]) h2
  · exact (use_bad q0 q1 q2 q3 k b l d r h w).mono fun e w' h2 => use_post (x := z4) (by unfold useV; rw [if_neg (show ¬ Tk.ok ⟨k, b, l, d, r⟩ from h)]) h2
theorem dUse (q : Q4) (t : Tk) (w : World) : Calls Tryz.prog 13 #[q4V q, tkV t] w (UsePost q t w) := by
  obtain ⟨k, b, l, d, r⟩ := t
  obtain ⟨q0, q1, q2, q3⟩ := q
  by_cases h : OkTok k b l d r
  · have hok : Tk.ok ⟨k, b, l, d, r⟩ := h
    have hk := tk_kinds hok
    simp only at hk
    rcases hk with rfl | rfl | ⟨rfl, rfl | rfl | rfl | rfl⟩
    · exact (refUse_lit q0 q1 q2 q3 b l d r h w).mono fun e w' h2 => use_post (x := ⟨q0, q1, q2, q3⟩) (by unfold useV; rw [if_pos hok]; rfl) h2
    · exact (refUse_copy q0 q1 q2 q3 b l d r h w).mono fun e w' h2 => use_post (x := ⟨d, q0, q1, q2⟩) (by unfold useV; rw [if_pos hok]; rfl) h2
    · by_cases g : q0 < 1 ∨ 67108864 < q0
      · exact (refUse_off0 q0 q1 q2 q3 b l d h g w).mono fun e w' h2 => use_post (x := z4) (by unfold useV; rw [if_pos hok, if_neg (by simp), if_neg (by simp), if_pos rfl, if_pos g]) h2
      · exact (refUse_rep0 q0 q1 q2 q3 b l d h (by omega) (by omega) w).mono fun e w' h2 => use_post (x := ⟨q0, q1, q2, q3⟩) (by unfold useV; rw [if_pos hok, if_neg (by simp), if_neg (by simp), if_pos rfl, if_neg g]) h2
    · by_cases g : q1 < 1 ∨ 67108864 < q1
      · exact (refUse_off1 q0 q1 q2 q3 b l d h g w).mono fun e w' h2 => use_post (x := z4) (by unfold useV; rw [if_pos hok, if_neg (by simp), if_neg (by simp), if_neg (by simp), if_pos rfl, if_pos g]) h2
      · exact (refUse_rep1 q0 q1 q2 q3 b l d h (by omega) (by omega) w).mono fun e w' h2 => use_post (x := ⟨q1, q0, q2, q3⟩) (by unfold useV; rw [if_pos hok, if_neg (by simp), if_neg (by simp), if_neg (by simp), if_pos rfl, if_neg g]) h2
    · by_cases g : q2 < 1 ∨ 67108864 < q2
      · exact (refUse_off2 q0 q1 q2 q3 b l d h g w).mono fun e w' h2 => use_post (x := z4) (by unfold useV; rw [if_pos hok, if_neg (by simp), if_neg (by simp), if_neg (by simp), if_neg (by simp), if_pos rfl, if_pos g]) h2
      · exact (refUse_rep2 q0 q1 q2 q3 b l d h (by omega) (by omega) w).mono fun e w' h2 => use_post (x := ⟨q2, q0, q1, q3⟩) (by unfold useV; rw [if_pos hok, if_neg (by simp), if_neg (by simp), if_neg (by simp), if_neg (by simp), if_pos rfl, if_neg g]) h2
    · by_cases g : q3 < 1 ∨ 67108864 < q3
      · exact (refUse_off3 q0 q1 q2 q3 b l d h g w).mono fun e w' h2 => use_post (x := z4) (by unfold useV; rw [if_pos hok, if_neg (by simp), if_neg (by simp), if_neg (by simp), if_neg (by simp), if_neg (by simp), if_pos g]) h2
      · exact (refUse_rep3 q0 q1 q2 q3 b l d h (by omega) (by omega) w).mono fun e w' h2 => use_post (x := ⟨q3, q0, q1, q2⟩) (by unfold useV; rw [if_pos hok, if_neg (by simp), if_neg (by simp), if_neg (by simp), if_neg (by simp), if_neg (by simp), if_neg g]) h2
  · exact (refUse_bad q0 q1 q2 q3 k b l d r h w).mono fun e w' h2 => use_post (x := z4) (by unfold useV; rw [if_neg (show ¬ Tk.ok ⟨k, b, l, d, r⟩ from h)]) h2
theorem useV_cases (q : Q4) (t : Tk) : ((useV q t).2.2 = 0 ∧ t.ok ∧ ((t.k = 0 ∧ (useV q t).2.1 = 0) ∨ (1 ≤ (useV q t).2.1 ∧ (useV q t).2.1 ≤ 67108864 ∧ 2 ≤ t.l ∧ t.l ≤ 258 ∧ t.k ≠ 0))) ∨ useV q t = (z4, 0, 10) := by
  unfold useV
  by_cases h : t.ok
  · have h' := h
    unfold Tk.ok OkTok at h'
    rw [if_pos h]
    by_cases k0 : t.k = 0
    · rw [if_pos k0]; exact .inl ⟨rfl, h, .inl ⟨k0, rfl⟩⟩
    rw [if_neg k0]
    by_cases k1 : t.k = 1
    · rw [if_pos k1]; exact .inl ⟨rfl, h, .inr ⟨by show 1 ≤ t.d; omega, by show t.d ≤ _; omega, by omega, by omega, k0⟩⟩
    rw [if_neg k1]
    have hl : 2 ≤ t.l ∧ t.l ≤ 258 := by omega
    split
    · split
      · exact .inr rfl
      · exact .inl ⟨rfl, h, .inr ⟨by show 1 ≤ q.a; omega, by show q.a ≤ _; omega, hl.1, hl.2, k0⟩⟩
    · split
      · split
        · exact .inr rfl
        · exact .inl ⟨rfl, h, .inr ⟨by show 1 ≤ q.b; omega, by show q.b ≤ _; omega, hl.1, hl.2, k0⟩⟩
      · split
        · split
          · exact .inr rfl
          · exact .inl ⟨rfl, h, .inr ⟨by show 1 ≤ q.c; omega, by show q.c ≤ _; omega, hl.1, hl.2, k0⟩⟩
        · split
          · exact .inr rfl
          · exact .inl ⟨rfl, h, .inr ⟨by show 1 ≤ q.d; omega, by show q.d ≤ _; omega, hl.1, hl.2, k0⟩⟩
  · rw [if_neg h]; exact .inr rfl
def errC (have_ : Nat) (n d win : Int) : Int := if n < 0 ∨ 258 < n ∨ win < 1 ∨ 67108864 < win then 1 else if d < 1 ∨ win < d ∨ (have_ : Int) < d then 10 else 0
theorem errC_zero {h : Nat} {n d win : Int} (e : errC h n d win = 0) : 0 ≤ n ∧ n ≤ 258 ∧ 1 ≤ win ∧ win ≤ 67108864 ∧ 1 ≤ d ∧ d ≤ win ∧ d ≤ h := by
  unfold errC at e
  split at e
  · cases e
  · split at e
    · cases e
    · omega
def byteOf (b : Int) : UInt8 := UInt8.ofNat (b % 256).toNat
/-- One piece. -/
def stepS (win : Int) (t : Tk) (q : Q4) (h : List UInt8) : List UInt8 × Q4 × Int :=
  if (useV q t).2.2 = 0 then
    if t.k = 0 then (h ++ [byteOf t.b], (useV q t).1, 0)
    else if errC h.length t.l (useV q t).2.1 win = 0 then (copyL (useV q t).2.1.toNat t.l.toNat h, (useV q t).1, 0)
    else ([], z4, errC h.length t.l (useV q t).2.1 win)
  else ([], z4, (useV q t).2.2)
def appS (win : Int) : List Tk → Q4 → List UInt8 → List UInt8 × Q4 × Int
  | [], q, h => (h, q, 0)
  | t :: ts, q, h => if (stepS win t q h).2.2 = 0 then appS win ts (stepS win t q h).2.1 (stepS win t q h).1 else stepS win t q h
def szSum : List Tk → Int
  | [] => 0
  | t :: ts => szTok t.k t.b t.l t.d t.r + szSum ts
theorem stepS_len (win : Int) (t : Tk) (q : Q4) (h : List UInt8) (e : (stepS win t q h).2.2 = 0) : ((stepS win t q h).1.length : Int) = h.length + szTok t.k t.b t.l t.d t.r ∧ (stepS win t q h).1.length ≤ h.length + 258 := by
  have hu := useV_cases q t
  unfold stepS at e ⊢
  by_cases h1 : (useV q t).2.2 = 0
  · rw [if_pos h1] at e ⊢
    rcases hu with ⟨-, hok, hu⟩ | hu
    · have hok' : OkTok t.k t.b t.l t.d t.r := hok
      by_cases h2 : t.k = 0
      · rw [if_pos h2]; unfold szTok; rw [if_pos hok', if_pos h2]; simp
      · rw [if_neg h2] at e ⊢
        by_cases h3 : errC h.length t.l (useV q t).2.1 win = 0
        · rw [if_pos h3]; unfold szTok; rw [if_pos hok', if_neg h2]
          have := errC_zero h3
          show ((copyL _ _ _).length : Int) = _ ∧ _
          rw [copyL_len]
          omega
        · rw [if_neg h3] at e; exact absurd e h3
    · rw [hu] at h1; cases h1
  · rw [if_neg h1] at e; exact absurd e h1
theorem appS_len (win : Int) : ∀ (l : List Tk) (q : Q4) (h : List UInt8), (appS win l q h).2.2 = 0 → ((appS win l q h).1.length : Int) = h.length + szSum l ∧ (appS win l q h).1.length ≤ h.length + 258 * l.length
  | [], q, h, e => by simp [appS, szSum]
  | t :: ts, q, h, e => by
    rw [appS] at e ⊢
    split
    · rename_i h1
      rw [if_pos h1] at e
      have h2 := stepS_len win t q h h1
      have h3 := appS_len win ts _ _ e
      rw [szSum, List.length_cons]
      omega
    · rename_i h1
      rw [if_neg h1] at e
      exact absurd e h1
theorem appS_drop (win : Int) (l : List Tk) (k : Nat) (hk : k < l.length) (q : Q4) (h : List UInt8) : appS win (l.drop k) q h = if (stepS win l[k] q h).2.2 = 0 then appS win (l.drop (k + 1)) (stepS win l[k] q h).2.1 (stepS win l[k] q h).1 else stepS win l[k] q h := by
  rw [List.drop_eq_getElem_cons hk, appS]
end Go.Proofs.YtipcdkemokkdfaaGreat

/- Layer 30: blocks, decoded (mathematics): what is done with a window is what pieces mean. -/
namespace Go.Proofs.YtipcdkemokkdfaaGreat
open Go.ChangeShapes Go.WideShapes Go.ChangeAt Go.RowKit
open Tok (OkTok chk chk_no chk_yes)
set_option linter.unusedVariables false
set_option linter.unusedSimpArgs false
set_option maxRecDepth 100000
/-- What a piece tells of a window that holds H: its bytes, and the error's number. -/
def actS (t : Tk) (D : Int) (H : List UInt8) : List UInt8 × Int := if t.k = 0 then ([byteOf t.b], 0) else copyS H t.l D
/-- A piece's bytes, told by the window, are those that it means behind all. -/
theorem act_step (size : Nat) (h1 : 1 ≤ size) (h2 : size ≤ 67108864) (t : Tk) (q : Q4) (hh : List UInt8) (hU : (useV q t).2.2 = 0) :
    ((stepS size t q hh).2.2 = 0 ∧ (stepS size t q hh).2.1 = (useV q t).1 ∧ ∃ T, actS t (useV q t).2.1 (lastN size hh) = (T, 0) ∧ (stepS size t q hh).1 = hh ++ T) ∨
    (stepS size t q hh = ([], z4, 10) ∧ actS t (useV q t).2.1 (lastN size hh) = ([], 10)) := by
  have hl := lastN_len size hh
  unfold stepS actS
  rw [if_pos hU]
  by_cases hk : t.k = 0
  · rw [if_pos hk, if_pos hk]
    exact .inl ⟨rfl, rfl, _, rfl, rfl⟩
  · rw [if_neg hk, if_neg hk]
    have hu : 1 ≤ (useV q t).2.1 ∧ (useV q t).2.1 ≤ 67108864 ∧ 2 ≤ t.l ∧ t.l ≤ 258 := by
      rcases useV_cases q t with ⟨-, -, ⟨h, -⟩ | ⟨a, b, c, d, -⟩⟩ | h
      · exact absurd h hk
      · exact ⟨a, b, c, d⟩
      · rw [h] at hU; exact absurd hU (by decide)
    generalize (useV q t).2.1 = D at *
    obtain ⟨u1, u2, u3, u4⟩ := hu
    have hcs : copyS (lastN size hh) t.l D = if ((lastN size hh).length : Int) < D then ([], 10) else (toldL D.toNat t.l.toNat (lastN size hh), 0) := by
      unfold copyS
      rw [if_neg (show ¬ (t.l < 0 ∨ 258 < t.l) by omega)]
      by_cases hd : ((lastN size hh).length : Int) < D
      · rw [if_pos (.inr hd), if_pos hd]
      · rw [if_neg (show ¬ (D < 1 ∨ ((lastN size hh).length : Int) < D) by omega), if_neg hd]
    rw [hcs]
    have n1 : ¬ (t.l < 0 ∨ 258 < t.l ∨ (size : Int) < 1 ∨ 67108864 < (size : Int)) := by omega
    by_cases hd : ((lastN size hh).length : Int) < D
    · right
      have e : errC hh.length t.l D size = 10 := by unfold errC; rw [if_neg n1, if_pos (by omega)]
      rw [if_pos hd, e]
      exact ⟨by rw [if_neg (by decide)], rfl⟩
    · left
      have e : errC hh.length t.l D size = 0 := by unfold errC; rw [if_neg n1, if_neg (by omega)]
      rw [if_neg hd, if_pos e]
      refine ⟨rfl, rfl, _, rfl, ?_⟩
      show copyL D.toNat t.l.toNat hh = _
      rw [copyL_told, toldL_lastN D.toNat t.l.toNat size hh (by omega) (by omega)]
theorem actS_len (t : Tk) (D : Int) (H T : List UInt8) (h : actS t D H = (T, 0)) (ht : t.ok) : (T.length : Int) = szTok t.k t.b t.l t.d t.r := by
  unfold actS at h
  have hok : OkTok t.k t.b t.l t.d t.r := ht
  unfold szTok
  rw [if_pos hok]
  by_cases hk : t.k = 0
  · rw [if_pos hk] at h ⊢
    injection h with e1 e2
    subst e1; rfl
  · rw [if_neg hk] at h ⊢
    unfold copyS at h
    split at h
    · injection h with e1 e2; cases e2
    · rename_i h0
      split at h
      · injection h with e1 e2; cases e2
      · injection h with e1 e2
        rw [← e1, toldL_len]; omega
theorem useV_ok {q : Q4} {t : Tk} (h : (useV q t).2.2 = 0) : t.ok := by
  rcases useV_cases q t with ⟨-, h1, -⟩ | h1
  · exact h1
  · rw [h1] at h; exact absurd h (by decide)
theorem useV_bad {q : Q4} {t : Tk} (h : (useV q t).2.2 ≠ 0) : useV q t = (z4, 0, 10) := by
  rcases useV_cases q t with ⟨h1, -⟩ | h1
  · exact absurd h1 h
  · exact h1
end Go.Proofs.YtipcdkemokkdfaaGreat
