import Derived.Test.YtmhjmoeeahepaaaGreatPP25
import Derived.Test.YtmhjmoeeahepaaaGreatPP10
/- Layer 24: Tables of a text of one symbol. -/
namespace Go.Proofs.YtmhjmoeeahepaaaGreat
open Go.ChangeShapes Go.WideShapes Go.ChangeAt Go.RowKit
set_option linter.unusedVariables false
set_option linter.unusedSimpArgs false
set_option maxRecDepth 100000
def tkA : Tk := ⟨0, 97, 0, 0, 0⟩
def threeA : List Tk := [tkA, tkA, tkA]
theorem frA_three : frA threeA = ((tl threeA).1, (tl threeA).2, 0) := by
  unfold frA
  rw [if_pos (by decide)]
theorem tl_three : (tl threeA).1 = (List.replicate 401 0).set 97 3 ∧ (tl threeA).2 = List.replicate 52 0 := by decide +kernel
theorem one_three : OneAt ((List.replicate 401 (0 : Int)).set 97 3) 97 3 := by
  refine ⟨by simp, by decide, fun i => ?_⟩
  rw [set_getD0 _ _ _ _ (by simp)]
  have hz : ∀ n j : Nat, (List.replicate n (0 : Int)).getD j 0 = 0 := fun n j => by
    simp only [List.getD_eq_getElem?_getD, List.getElem?_replicate]
    split <;> rfl
  rw [hz]
  by_cases e : i = 97
  · rw [if_pos e, if_pos e.symm]
  · rw [if_neg e, if_neg (fun h => e h.symm)]
theorem none_three (i : Nat) : (List.replicate 52 (0 : Int)).getD i 0 = 0 := by
  simp only [List.getD_eq_getElem?_getD, List.getElem?_replicate]
  split <;> rfl
set_option maxHeartbeats 1600000 in
theorem cTables (a : Option Addr) (c : Nat) (w : World) (h : IsTk w a threeA) :
    Calls Tryz.prog 7 #[.slice a 3 c] w fun e w' => ∃ u v, e = .returned (.tuple #[u, v, .int .i64 0]) ∧ OwnI w.heap.size w' u (lnL ((List.replicate 401 0).set 97 1) 401) ∧ OwnI w.heap.size w' v (lnL [] 52) ∧ Below w.heap.size w w' := by
  have CF := Lib.hid (cFreqs a c 3 threeA w rfl h (by decide))
  rw [frA_three, tl_three.1, tl_three.2] at CF
  have C1 := Lib.hid (fun a c W h => cLenOne a c 401 97 3 ((List.replicate 401 (0 : Int)).set 97 3) W (by simp) h (by decide) one_three (by decide))
  have C2 := Lib.hid (fun a c W h => cLenNone a c 52 (List.replicate 52 (0 : Int)) W (by simp) h (by decide) none_three)
  clear h
  go_enter Tryz.func7, Tryz.ntmps7
  go_wp2_with fail
  refine CF.out.mono ?_; rintro e w1 ⟨v1, v2, rfl, h1, h2, hb⟩
  obtain ⟨a1, c1, rfl, h1⟩ := h1
  obtain ⟨a2, c2, rfl, h2⟩ := h2
  rw [show ((List.replicate 401 (0 : Int)).set 97 3).length = 401 by simp, show (List.replicate 52 (0 : Int)).length = 52 by simp]
  have H1 := Lib.hid h1
  have H2 := Lib.hid h2
  have HB := Lib.hid hb
  clear h1 h2 hb CF
  go_wp2_with fail
  refine (C1.out _ _ _ H1.out).mono ?_; rintro e w2 ⟨u, rfl, hu, hb⟩
  have HU := Lib.hid (hu.base HB.out.size)
  have H2 := Lib.hid (H2.out.kept hb)
  have HB := Lib.hid (HB.out.trans (hb.mono HB.out.size))
  clear hu hb C1 H1
  go_wp2_with fail
  refine (C2.out _ _ _ H2.out).mono ?_; rintro e w3 ⟨v, rfl, hv, hb⟩
  have HV := Lib.hid (hv.base HB.out.size)
  have HU := Lib.hid (HU.out.kept hb)
  have HB := Lib.hid (HB.out.trans (hb.mono HB.out.size))
  clear hv hb C2 H2
  go_wp2_with fail
  go_ret3
  exact ⟨_, _, rfl, HU.out, HV.out, HB.out⟩
end Go.Proofs.YtmhjmoeeahepaaaGreat

/- Layer 24: the document's Check of prices. -/
namespace Go.Proofs.YtmhjmoeeahepaaaGreat
open Go.ChangeShapes Go.WideShapes Go.ChangeAt Go.RowKit
set_option linter.unusedVariables false
set_option linter.unusedSimpArgs false
set_option maxRecDepth 100000
end Go.Proofs.YtmhjmoeeahepaaaGreat

/- Layer 24: the chapter's example. -/
namespace Go.Proofs.YtmhjmoeeahepaaaGreat
open Go.ChangeShapes Go.WideShapes Go.ChangeAt Go.RowKit
set_option linter.unusedVariables false
set_option linter.unusedSimpArgs false
set_option maxRecDepth 100000
theorem isTk3 (w : World) : IsTk (w.alloc (.cells #[.int .i64 0, .int .i64 97, .int .i64 0, .int .i64 0, .int .i64 0, .int .i64 0, .int .i64 97, .int .i64 0, .int .i64 0, .int .i64 0, .int .i64 0, .int .i64 97, .int .i64 0, .int .i64 0, .int .i64 0] 35)) (some ⟨w.heap.size, 0, none⟩) threeA := by
  have hq := heap_alloc_new w (.cells #[.int .i64 0, .int .i64 97, .int .i64 0, .int .i64 0, .int .i64 0, .int .i64 0, .int .i64 97, .int .i64 0, .int .i64 0, .int .i64 0, .int .i64 0, .int .i64 97, .int .i64 0, .int .i64 0, .int .i64 0] 35)
  refine .inr ⟨_, rfl, fun i t ht => ?_⟩
  match i, ht with
  | 0, ht =>
    obtain rfl : tkA = t := by simpa [threeA] using ht
    exact ⟨cell_lit hq 0 _ rfl, cell_lit hq 1 _ rfl, cell_lit hq 2 _ rfl, cell_lit hq 3 _ rfl, cell_lit hq 4 _ rfl⟩
  | 1, ht =>
    obtain rfl : tkA = t := by simpa [threeA] using ht
    exact ⟨cell_lit hq 5 _ rfl, cell_lit hq 6 _ rfl, cell_lit hq 7 _ rfl, cell_lit hq 8 _ rfl, cell_lit hq 9 _ rfl⟩
  | 2, ht =>
    obtain rfl : tkA = t := by simpa [threeA] using ht
    exact ⟨cell_lit hq 10 _ rfl, cell_lit hq 11 _ rfl, cell_lit hq 12 _ rfl, cell_lit hq 13 _ rfl, cell_lit hq 14 _ rfl⟩
  | n + 3, ht => simp [threeA] at ht
def badA : List Tk := [⟨9, 0, 0, 0, 0⟩]
theorem frA_badA : frA badA = ([], [], 10) := by
  unfold frA
  rw [if_neg (by decide)]
theorem isTk1 (w : World) : IsTk (w.alloc (.cells #[.int .i64 9, .int .i64 0, .int .i64 0, .int .i64 0, .int .i64 0] 35)) (some ⟨w.heap.size, 0, none⟩) badA := by
  have hq := heap_alloc_new w (.cells #[.int .i64 9, .int .i64 0, .int .i64 0, .int .i64 0, .int .i64 0] 35)
  refine .inr ⟨_, rfl, fun i t ht => ?_⟩
  match i, ht with
  | 0, ht =>
    obtain rfl : (⟨9, 0, 0, 0, 0⟩ : Tk) = t := by simpa [badA] using ht
    exact ⟨cell_lit hq 0 _ rfl, cell_lit hq 1 _ rfl, cell_lit hq 2 _ rfl, cell_lit hq 3 _ rfl, cell_lit hq 4 _ rfl⟩
  | n + 1, ht => simp [badA] at ht
theorem add_lit (x : Addr) (n : Nat) (h : n ≠ 0) : x.add n = ⟨x.block, x.off + n, none⟩ := by unfold Addr.add; simp [h]
theorem add_nought (x : Addr) : x.add 0 = x := by simp [Addr.add]
def mA : List Int := lnL ((List.replicate 401 0).set 97 1) 401
theorem mA_len : mA.length = 401 := lnL_len _ _
theorem mA_97 : mA.getD 97 0 = 1 := by decide +kernel
theorem pA_97 : prA mA 97 = 1 ∧ prA mA 98 = 16 ∧ prA [] 0 = 16 := by decide +kernel
end Go.Proofs.YtmhjmoeeahepaaaGreat

/- Layer 7: what lengths cost, by both; whether they may be. -/
namespace Go.Proofs.YtmhjmoeeahepaaaGreat
open Go.ChangeShapes Go.WideShapes Go.ChangeAt Go.RowKit
set_option linter.unusedVariables false
set_option linter.unusedSimpArgs false
set_option maxRecDepth 100000
open KraftMath Pm
theorem cst_bd (x y : Int) : 0 ≤ cst x y ∧ cst x y ≤ 68719476720 := by
  unfold cst
  split
  · rename_i h
    obtain ⟨a, b, c, d⟩ := h
    have h1 : 0 ≤ x * y := Int.mul_nonneg a c
    have h2 : x * y ≤ 4294967295 * 16 := Int.le_trans (Int.mul_le_mul_of_nonneg_right b c) (Int.mul_le_mul_of_nonneg_left d (by decide))
    omega
  · omega
theorem costS_bd (l o : List Int) : ∀ k : Nat, 0 ≤ sumN (fun i => cst (l.getD i 0) (o.getD i 0)) k ∧ sumN (fun i => cst (l.getD i 0) (o.getD i 0)) k ≤ 68719476720 * (k : Int)
  | 0 => by simp [sumN]
  | k + 1 => by
    have h := costS_bd l o k
    have h2 := cst_bd (l.getD k 0) (o.getD k 0)
    simp only [sumN]
    omega
def mayB (l o : List Int) (L : Int) : Bool := decide (l.length = o.length) && decide (check o L = 0) && (List.range o.length).all (fun i => decide (0 < o.getD i 0) == decide (0 < l.getD i 0))
theorem mayB_iff (l o : List Int) (L : Int) : mayB l o L = true ↔ mayP l o L := by
  unfold mayB mayP
  simp only [Bool.and_eq_true, decide_eq_true_eq, List.all_eq_true, List.mem_range, beq_iff_eq, decide_eq_decide, and_assoc]
end Go.Proofs.YtmhjmoeeahepaaaGreat
