/- Layer 9: next. -/
import Derived.Test.YtlampmedeebekaaE2
namespace Go.Proofs.Ytlampmedeebekaa
open Go.ChangeShapes Go.WideShapes Go.ChangeAt Go.RowKit
set_option linter.unusedVariables false
set_option maxRecDepth 100000
theorem sNextNone (w : World) (g c t : Nat) (a : Option Addr) (l : List Bool) (hg : w.heap[g]? = some (.cells #[.slice a l.length c, .int .i64 t] 82 (0, 0))) (ht : t = l.length) (hl : l.length ≤ 1000000) :
    Calls Try.prog 54 #[.pointer (some ⟨g, 0, none⟩)] w fun e w' => e = .returned (.tuple #[.bool false, .bool false]) ∧ ∃ q, w' = w.drewN q := by
  have c0 := cell_in hg 0
  have c1 := cell_in hg 1
  simp only [List.getElem?_toArray, List.getElem?_cons_zero, List.getElem?_cons_succ] at c0 c1
  have hgl := block_lt hg
  subst ht
  clear hg
  go_enter Try.func54, Try.ntmps54
  go_wp2
  go_region
  all_goals go_wp2
  all_goals go_ret2
  all_goals exact ⟨rfl, 1, rfl⟩
theorem sNext (w : World) (g c t : Nat) (a : Option Addr) (l : List Bool) (hg : w.heap[g]? = some (.cells #[.slice a l.length c, .int .i64 t] 82 (0, 0))) (hb : IsBoo w a l) (hx : ∀ x, a = some x → x.block ≠ g) (ht : t < l.length) (hl : l.length ≤ 1000000) :
    Calls Try.prog 54 #[.pointer (some ⟨g, 0, none⟩)] w fun e w' => e = .returned (.tuple #[.bool (l.getD t false), .bool true]) ∧ w'.heap[g]? = some (.cells #[.slice a l.length c, .int .i64 ((t + 1 : Nat) : Int)] 82 (0, 0)) ∧ Keeps (fun k => k = g) w w' := by
  have c0 := cell_in hg 0
  have c1 := cell_in hg 1
  have f0 := free_in hg 0
  have f1 := free_in hg 1
  simp only [List.getElem?_toArray, List.getElem?_cons_zero, List.getElem?_cons_succ] at c0 c1
  have hgl := block_lt hg
  obtain ⟨x, rfl, hxb, cx⟩ := hb.at t ht
  have hne := hx x rfl
  have hneq : ((t : Int) == (l.length : Int)) = false := by rw [beq_eq_false_iff_ne]; omega
  obtain ⟨B, hB⟩ : ∃ B, l.getD t false = B := ⟨_, rfl⟩
  rw [hB] at cx
  have HB := Lib.hid hB
  have HG := Lib.hid hg
  have cx2 : ∀ u, (w.setCell ⟨g, 1, none⟩ u).cell? (x.add t) = some (.bool B) := fun u => by
    refine (World.cell?_of_block (w := w) ?_).trans cx
    rw [add_block]
    exact Below.heap_setCell _ _ _ _ hne
  clear hb hx hB hg
  go_enter Try.func54, Try.ntmps54
  go_wp2
  go_region
  all_goals (
    go_wp2
    have hg2 : (w.setCell ⟨g, 1, none⟩ (.int .i64 ((t : Int) + 1))).heap[g]? = some (.cells #[.slice (some x) l.length c, .int .i64 ((t : Int) + 1)] 82 (0, 0)) := block_set HG.out 1 (.int .i64 ((t : Int) + 1))
    have d0 := cell_in hg2 0
    have d1 := cell_in hg2 1
    simp only [List.getElem?_toArray, List.getElem?_cons_zero, List.getElem?_cons_succ] at d0 d1
    have d2 := cx2 (.int .i64 ((t : Int) + 1))
    have HK := Lib.hid ((Keeps.refl (fun k => k = g) w).setCell (p := ⟨g, 1, none⟩) (.inr rfl) (.int .i64 ((t : Int) + 1)))
    have HG2 := Lib.hid hg2
    clear hg2 cx2 c0 c1 cx
    revert d0 d1 d2 HK HG2
    generalize w.setCell ⟨g, 1, none⟩ (.int .i64 ((t : Int) + 1)) = W
    intro d0 d1 d2 HK HG2
    have ht1 : ((t : Int) + 1 - 1) = t := by omega
    go_region
    all_goals (
      go_wp2
      go_ret2
      exact ⟨by rw [HB.out]; rfl, by have := HG2.out; rw [show ((t + 1 : Nat) : Int) = (t : Int) + 1 by omega]; exact this, HK.out.drew.drew⟩))
end Go.Proofs.Ytlampmedeebekaa
