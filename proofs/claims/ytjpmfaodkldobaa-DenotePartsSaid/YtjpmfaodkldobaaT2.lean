/- Contracts of layer 17's small functions. -/
import Derived.Test.YtjpmfaodkldobaaT1
import Derived.Below
import Derived.Handy
import Derived.Outline
import Derived.WalkSmall
import Derived.WalkLawsBesides
import Derived.Laws.CopyOwn
import Derived.Test.YtjpmfaodkldobaaOwn
namespace Go.Proofs.Ytjpmfaodkldobaa
open Go.ChangeShapes Go.WideShapes Go.ChangeAt Go.RowKit
set_option linter.unusedVariables false
set_option maxRecDepth 100000

set_option maxHeartbeats 1600000 in
theorem check_ex (k b l d r : Int) (w : World) :
    Calls Try.prog 96 #[.agg #[.int .i64 k, .int .i64 b, .int .i64 l, .int .i64 d, .int .i64 r]] w fun e w' => e = .returned (.int .i64 (chk k b l d r)) ∧ w' = w.alloc (.cells #[.int .i64 k, .int .i64 b, .int .i64 l, .int .i64 d, .int .i64 r] 53) := by
  by_cases k0 : k = 0
  · subst k0
    go_enter Try.func96, Try.ntmps96
    go_wp2
    all_goals (go_ret; refine ⟨ret_i ?_, by first | rfl | (simp_all; done)⟩; go_light; first | exact chk_no (by unfold OkTok; (try simp at *); omega) | exact chk_yes (by unfold OkTok; (try simp at *); omega))
  · skip
    by_cases k1 : k = 1
    · subst k1
      have C := Lib.hid (length_any l)
      by_cases hl : 2 ≤ l ∧ l ≤ 258
      · have e : (decide (2 ≤ l) && decide (l ≤ 258)) = true := by simp [hl.1, hl.2]
        rw [e] at C; clear e
        go_enter Try.func96, Try.ntmps96
        go_wp2_with fail
        refine (C.out _).mono ?_; rintro e w' ⟨rfl, rfl⟩
        go_wp2
        all_goals (go_ret; refine ⟨ret_i ?_, by first | rfl | (simp_all; done)⟩; go_light; first | exact chk_no (by unfold OkTok; (try simp at *); omega) | exact chk_yes (by unfold OkTok; (try simp at *); omega))
      · have e : (decide (2 ≤ l) && decide (l ≤ 258)) = false := by rw [Bool.and_eq_false_iff, decide_eq_false_iff_not, decide_eq_false_iff_not]; omega
        rw [e] at C; clear e
        go_enter Try.func96, Try.ntmps96
        go_wp2_with fail
        refine (C.out _).mono ?_; rintro e w' ⟨rfl, rfl⟩
        go_wp2
        all_goals (go_ret; refine ⟨ret_i ?_, by first | rfl | (simp_all; done)⟩; go_light; first | exact chk_no (by unfold OkTok; (try simp at *); omega) | exact chk_yes (by unfold OkTok; (try simp at *); omega))
    · skip
      by_cases k2 : k = 2
      · subst k2
        have C := Lib.hid (length_any l)
        by_cases hl : 2 ≤ l ∧ l ≤ 258
        · have e : (decide (2 ≤ l) && decide (l ≤ 258)) = true := by simp [hl.1, hl.2]
          rw [e] at C; clear e
          go_enter Try.func96, Try.ntmps96
          go_wp2_with fail
          refine (C.out _).mono ?_; rintro e w' ⟨rfl, rfl⟩
          go_wp2
          all_goals (go_ret; refine ⟨ret_i ?_, by first | rfl | (simp_all; done)⟩; go_light; first | exact chk_no (by unfold OkTok; (try simp at *); omega) | exact chk_yes (by unfold OkTok; (try simp at *); omega))
        · have e : (decide (2 ≤ l) && decide (l ≤ 258)) = false := by rw [Bool.and_eq_false_iff, decide_eq_false_iff_not, decide_eq_false_iff_not]; omega
          rw [e] at C; clear e
          go_enter Try.func96, Try.ntmps96
          go_wp2_with fail
          refine (C.out _).mono ?_; rintro e w' ⟨rfl, rfl⟩
          go_wp2
          all_goals (go_ret; refine ⟨ret_i ?_, by first | rfl | (simp_all; done)⟩; go_light; first | exact chk_no (by unfold OkTok; (try simp at *); omega) | exact chk_yes (by unfold OkTok; (try simp at *); omega))
      · skip
        have q0 : (k == 0) = false := by rw [beq_eq_false_iff_ne]; exact k0
        have q1 : (k == 1) = false := by rw [beq_eq_false_iff_ne]; exact k1
        have q2 : (k == 2) = false := by rw [beq_eq_false_iff_ne]; exact k2
        have e : chk k b l d r = 10 := (chk_no (by unfold OkTok; omega)).symm
        rw [e]; clear e
        go_enter Try.func96, Try.ntmps96
        go_wp2
        all_goals (go_ret; exact ⟨rfl, rfl⟩)

set_option maxHeartbeats 1600000 in
theorem refCheck_ex (k b l d r : Int) (w : World) :
    Calls Try.prog 66 #[.agg #[.int .i64 k, .int .i64 b, .int .i64 l, .int .i64 d, .int .i64 r]] w fun e w' => e = .returned (.int .i64 (chk k b l d r)) ∧ w' = w.alloc (.cells #[.int .i64 k, .int .i64 b, .int .i64 l, .int .i64 d, .int .i64 r] 53) := by
  by_cases k0 : k = 0
  · subst k0
    go_enter Try.func66, Try.ntmps66
    go_wp2
    all_goals (go_ret; refine ⟨ret_i ?_, by first | rfl | (simp_all; done)⟩; go_light; first | exact chk_no (by unfold OkTok; (try simp at *); omega) | exact chk_yes (by unfold OkTok; (try simp at *); omega))
  · skip
    by_cases k1 : k = 1
    · subst k1
      go_enter Try.func66, Try.ntmps66
      go_wp2
      all_goals (go_ret; refine ⟨ret_i ?_, by first | rfl | (simp_all; done)⟩; go_light; first | exact chk_no (by unfold OkTok; (try simp at *); omega) | exact chk_yes (by unfold OkTok; (try simp at *); omega))
    · skip
      by_cases k2 : k = 2
      · subst k2
        go_enter Try.func66, Try.ntmps66
        go_wp2
        all_goals (go_ret; refine ⟨ret_i ?_, by first | rfl | (simp_all; done)⟩; go_light; first | exact chk_no (by unfold OkTok; (try simp at *); omega) | exact chk_yes (by unfold OkTok; (try simp at *); omega))
      · skip
        have q0 : (k == 0) = false := by rw [beq_eq_false_iff_ne]; exact k0
        have q1 : (k == 1) = false := by rw [beq_eq_false_iff_ne]; exact k1
        have q2 : (k == 2) = false := by rw [beq_eq_false_iff_ne]; exact k2
        have e : chk k b l d r = 10 := (chk_no (by unfold OkTok; omega)).symm
        rw [e]; clear e
        go_enter Try.func66, Try.ntmps66
        go_wp2
        all_goals (go_ret; exact ⟨rfl, rfl⟩)
def find (r0 r1 r2 r3 d : Int) : Int := if r0 = d then 0 else if r1 = d then 1 else if r2 = d then 2 else if r3 = d then 3 else -1
theorem src3 (w : World) (l : List Value) (t : TypeId) (B C : Obj) (cs : List Value) (m : Nat) (h : l.take m = cs) :
    ∀ j v, cs[j]? = some v → (((w.alloc (.cells l.toArray t)).alloc B).alloc C).cell? ((⟨w.heap.size, 0, none⟩ : Addr).add j) = some v := by
  refine cells_of (fun j hj => ?_)
  have hb : (((w.alloc (.cells l.toArray t)).alloc B).alloc C).heap[w.heap.size]? = some (.cells l.toArray t (0, 0)) := by
    rw [Below.heap_alloc _ _ _ (by simp; omega), Below.heap_alloc _ _ _ (by simp), heap_alloc_new]
  rw [cell_in hb, Nat.zero_add, ← h]
  rw [← h, List.length_take] at hj
  rw [List.getElem?_take, if_pos (by omega)]; simp
set_option maxHeartbeats 800000 in
theorem ahead_3 (r0 r1 r2 r3 d : Int) (w : World) : Calls Try.prog 97 #[.agg #[.int .i64 r0, .int .i64 r1, .int .i64 r2, .int .i64 r3], .int .i64 3, .int .i64 d] w fun e w' => e = .returned (.agg #[.int .i64 d, .int .i64 r0, .int .i64 r1, .int .i64 r2]) ∧ w' = (((w.alloc (.cells #[.int .i64 r0, .int .i64 r1, .int .i64 r2, .int .i64 r3] 41)).alloc (.cells #[.int .i64 d, .int .i64 r0, .int .i64 r1, .int .i64 r2] 41)).alloc (.cells #[.int .i64 d, .int .i64 r0, .int .i64 r1, .int .i64 r2] 41)).drew := by
  go_enter Try.func97, Try.ntmps97
  go_wp2
  go_region_law (refine step_copy_last rfl (.tmp 9) (.tmp 11) 31 31 rfl 3 Try.underlying31 (by kernel_rfl) _ (w.heap.size + 1 + 1) (by simp) ⟨w.heap.size, 0, none⟩ 1 3 3 3 4 rfl rfl [.int .i64 r0, .int .i64 r1, .int .i64 r2, .int .i64 r3] [.int .i64 r0, .int .i64 r1, .int .i64 r2] [.int .i64 r0, .int .i64 r0, .int .i64 r1, .int .i64 r2] 41 rfl (src3 w _ 41 _ _ _ 3 rfl) (by simp) (by simp [Value.oneCell']) rfl ?_)
  all_goals go_wp2
  all_goals exact bodyPost_ret (v := .agg #[_, _, _, _]) (by simp [results, Try.results97, go_sem]) rfl ⟨rfl, rfl⟩
set_option maxHeartbeats 800000 in
theorem ahead_2 (r0 r1 r2 r3 d : Int) (w : World) : Calls Try.prog 97 #[.agg #[.int .i64 r0, .int .i64 r1, .int .i64 r2, .int .i64 r3], .int .i64 2, .int .i64 d] w fun e w' => e = .returned (.agg #[.int .i64 d, .int .i64 r0, .int .i64 r1, .int .i64 r3]) ∧ w' = (((w.alloc (.cells #[.int .i64 r0, .int .i64 r1, .int .i64 r2, .int .i64 r3] 41)).alloc (.cells #[.int .i64 d, .int .i64 r0, .int .i64 r1, .int .i64 r3] 41)).alloc (.cells #[.int .i64 d, .int .i64 r0, .int .i64 r1, .int .i64 r3] 41)).drew := by
  go_enter Try.func97, Try.ntmps97
  go_wp2
  go_region_law (refine step_copy_last rfl (.tmp 9) (.tmp 11) 31 31 rfl 3 Try.underlying31 (by kernel_rfl) _ (w.heap.size + 1 + 1) (by simp) ⟨w.heap.size, 0, none⟩ 1 3 3 2 4 rfl rfl [.int .i64 r0, .int .i64 r1, .int .i64 r2, .int .i64 r3] [.int .i64 r0, .int .i64 r1] [.int .i64 r0, .int .i64 r0, .int .i64 r1, .int .i64 r3] 41 rfl (src3 w _ 41 _ _ _ 2 rfl) (by simp) (by simp [Value.oneCell']) rfl ?_)
  all_goals go_wp2
  all_goals exact bodyPost_ret (v := .agg #[_, _, _, _]) (by simp [results, Try.results97, go_sem]) rfl ⟨rfl, rfl⟩
set_option maxHeartbeats 800000 in
theorem ahead_1 (r0 r1 r2 r3 d : Int) (w : World) : Calls Try.prog 97 #[.agg #[.int .i64 r0, .int .i64 r1, .int .i64 r2, .int .i64 r3], .int .i64 1, .int .i64 d] w fun e w' => e = .returned (.agg #[.int .i64 d, .int .i64 r0, .int .i64 r2, .int .i64 r3]) ∧ w' = (((w.alloc (.cells #[.int .i64 r0, .int .i64 r1, .int .i64 r2, .int .i64 r3] 41)).alloc (.cells #[.int .i64 d, .int .i64 r0, .int .i64 r2, .int .i64 r3] 41)).alloc (.cells #[.int .i64 d, .int .i64 r0, .int .i64 r2, .int .i64 r3] 41)).drew := by
  go_enter Try.func97, Try.ntmps97
  go_wp2
  go_region_law (refine step_copy_last rfl (.tmp 9) (.tmp 11) 31 31 rfl 3 Try.underlying31 (by kernel_rfl) _ (w.heap.size + 1 + 1) (by simp) ⟨w.heap.size, 0, none⟩ 1 3 3 1 4 rfl rfl [.int .i64 r0, .int .i64 r1, .int .i64 r2, .int .i64 r3] [.int .i64 r0] [.int .i64 r0, .int .i64 r0, .int .i64 r2, .int .i64 r3] 41 rfl (src3 w _ 41 _ _ _ 1 rfl) (by simp) (by simp [Value.oneCell']) rfl ?_)
  all_goals go_wp2
  all_goals exact bodyPost_ret (v := .agg #[_, _, _, _]) (by simp [results, Try.results97, go_sem]) rfl ⟨rfl, rfl⟩
set_option maxHeartbeats 800000 in
theorem ahead_0 (r0 r1 r2 r3 d : Int) (w : World) : Calls Try.prog 97 #[.agg #[.int .i64 r0, .int .i64 r1, .int .i64 r2, .int .i64 r3], .int .i64 0, .int .i64 d] w fun e w' => e = .returned (.agg #[.int .i64 d, .int .i64 r1, .int .i64 r2, .int .i64 r3]) ∧ w' = (((w.alloc (.cells #[.int .i64 r0, .int .i64 r1, .int .i64 r2, .int .i64 r3] 41)).alloc (.cells #[.int .i64 d, .int .i64 r1, .int .i64 r2, .int .i64 r3] 41)).alloc (.cells #[.int .i64 d, .int .i64 r1, .int .i64 r2, .int .i64 r3] 41)).drew := by
  go_enter Try.func97, Try.ntmps97
  go_wp2
  go_region_law (refine step_copy_last rfl (.tmp 9) (.tmp 11) 31 31 rfl 3 Try.underlying31 (by kernel_rfl) _ (w.heap.size + 1 + 1) (by simp) ⟨w.heap.size, 0, none⟩ 1 3 3 0 4 rfl rfl [.int .i64 r0, .int .i64 r1, .int .i64 r2, .int .i64 r3] [] [.int .i64 r0, .int .i64 r1, .int .i64 r2, .int .i64 r3] 41 rfl (src3 w _ 41 _ _ _ 0 rfl) (by simp) (by simp [Value.oneCell']) rfl ?_)
  all_goals go_wp2
  all_goals exact bodyPost_ret (v := .agg #[_, _, _, _]) (by simp [results, Try.results97, go_sem]) rfl ⟨rfl, rfl⟩
end Go.Proofs.Ytjpmfaodkldobaa
