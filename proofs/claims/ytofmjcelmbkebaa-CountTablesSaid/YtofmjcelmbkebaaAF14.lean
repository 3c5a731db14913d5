/- Layer 24: Tables of a text of one symbol. -/
import Derived.Test.YtofmjcelmbkebaaAF13
namespace Go.Proofs.Ytofmjcelmbkebaa
open Go.ChangeShapes Go.WideShapes Go.ChangeAt Go.RowKit
set_option linter.unusedVariables false
set_option linter.unusedSimpArgs false
set_option maxRecDepth 100000
def tkA : Tk := ⟨0, 97, 0, 0, 0⟩
def threeA : List Tk := [tkA, tkA, tkA]
theorem frA_three : frA threeA = ((tl threeA).1, (tl threeA).2, 0) := by
  unfold frA
  rw [if_pos (by decide)]
theorem tl_three : (tl threeA).1 = (List.replicate 401 0).set 97 3 ∧ (tl threeA).2 = List.replicate 52 0 := by decide +kernel
theorem one_three : OneAt ((List.replicate 401 (0 : Int)).set 97 3) 97 3 := by
  refine ⟨by simp, by decide, fun i => ?_⟩
  rw [set_getD0 _ _ _ _ (by simp)]
  have hz : ∀ n j : Nat, (List.replicate n (0 : Int)).getD j 0 = 0 := fun n j => by
    simp only [List.getD_eq_getElem?_getD, List.getElem?_replicate]
    split <;> rfl
  rw [hz]
  by_cases e : i = 97
  · rw [if_pos e, if_pos e.symm]
  · rw [if_neg e, if_neg (fun h => e h.symm)]
theorem none_three (i : Nat) : (List.replicate 52 (0 : Int)).getD i 0 = 0 := by
  simp only [List.getD_eq_getElem?_getD, List.getElem?_replicate]
  split <;> rfl
set_option maxHeartbeats 1600000 in
theorem cTables (a : Option Addr) (c : Nat) (w : World) (h : IsTk w a threeA) :
    Calls Try.prog 17 #[.slice a 3 c] w fun e w' => ∃ u v, e = .returned (.tuple #[u, v, .int .i64 0]) ∧ OwnI w.heap.size w' u (lnL ((List.replicate 401 0).set 97 1) 401) ∧ OwnI w.heap.size w' v (lnL [] 52) ∧ Below w.heap.size w w' := by
  have CF := Lib.hid (cFreqs a c 3 threeA w rfl h (by decide))
  rw [frA_three, tl_three.1, tl_three.2] at CF
  have C1 := Lib.hid (fun a c W h => cLenOne a c 401 97 3 ((List.replicate 401 (0 : Int)).set 97 3) W (by simp) h (by decide) one_three (by decide))
  have C2 := Lib.hid (fun a c W h => cLenNone a c 52 (List.replicate 52 (0 : Int)) W (by simp) h (by decide) none_three)
  clear h
  go_enter Try.func17, Try.ntmps17
  go_wp2_with fail
  refine CF.out.mono ?_; rintro e w1 ⟨v1, v2, rfl, h1, h2, hb⟩
  obtain ⟨a1, c1, rfl, h1⟩ := h1
  obtain ⟨a2, c2, rfl, h2⟩ := h2
  rw [show ((List.replicate 401 (0 : Int)).set 97 3).length = 401 by simp, show (List.replicate 52 (0 : Int)).length = 52 by simp]
  have H1 := Lib.hid h1
  have H2 := Lib.hid h2
  have HB := Lib.hid hb
  clear h1 h2 hb CF
  go_wp2_with fail
  refine (C1.out _ _ _ H1.out).mono ?_; rintro e w2 ⟨u, rfl, hu, hb⟩
  have HU := Lib.hid (hu.base HB.out.size)
  have H2 := Lib.hid (H2.out.kept hb)
  have HB := Lib.hid (HB.out.trans (hb.mono HB.out.size))
  clear hu hb C1 H1
  go_wp2_with fail
  refine (C2.out _ _ _ H2.out).mono ?_; rintro e w3 ⟨v, rfl, hv, hb⟩
  have HV := Lib.hid (hv.base HB.out.size)
  have HU := Lib.hid (HU.out.kept hb)
  have HB := Lib.hid (HB.out.trans (hb.mono HB.out.size))
  clear hv hb C2 H2
  go_wp2_with fail
  go_ret3
  exact ⟨_, _, rfl, HU.out, HV.out, HB.out⟩
end Go.Proofs.Ytofmjcelmbkebaa
