/- Layer 11: at, Size, Next. -/
import Derived.Test.YtbdhfmoididkgaaAL9
import Derived.Test.YtbdhfmoididkgaaD5
import Derived.Test.YtbdhfmoididkgaaBs
namespace Go.Proofs.Ytbdhfmoididkgaa
open Go.ChangeShapes Go.WideShapes Go.ChangeAt Go.RowKit Go.Lib
set_option linter.unusedVariables false
set_option linter.unusedSimpArgs false
set_option maxRecDepth 100000
open Two KraftMath CanonMath TurnMath Bits
set_option maxHeartbeats 1600000 in
theorem tAt (w : World) (B gt gs R root L P : Nat) (vl : Value) (short long : List Ent) (h : IsT2 w B gt gs R root L vl short long) (hR : 2 ^ root = R) (hr : root ≤ 15) (hP : P < 2 ^ 56) (E1 E2 E4 : Int) (E3 : Bool) (hE : short[P % R]? = some (E1, E2, E3, E4)) :
    Calls Try.prog 26 #[.pointer (some ⟨gt, 0, none⟩), .int .u64 P] w fun e w' => e = .returned (.agg #[.int .i32 E1, .int .i16 E2, .bool E3, .int .i32 E4]) ∧ Below w.heap.size w w' := by
  have hRp : 0 < R := by rw [← hR]; exact Nat.pow_pos (by decide)
  have hR15 : R ≤ 32768 := by rw [← hR]; exact Nat.le_trans (Nat.pow_le_pow_right (by decide) hr) (by decide)
  obtain ⟨H, hH⟩ : ∃ H, P % R = H := ⟨_, rfl⟩
  have hHR : H < R := by rw [← hH]; exact Nat.mod_lt _ hRp
  have hW1 : IntKind.u64.wrap ((2 : Int) ^ root) = (R : Int) := by
    have e1 : (2 : Int) ^ root = ((2 ^ root : Nat) : Int) := by simp
    rw [e1, hR]; exact wrap_u64_nat R (by omega)
  have hW3 : IntKind.u64.wrap ((R : Int) - 1) = (R : Int) - 1 := by
    rw [show (R : Int) - 1 = ((R - 1 : Nat) : Int) by omega]; exact wrap_u64_nat _ (by omega)
  have hAnd : Go.bits .and .u64 (P : Int) ((R : Int) - 1) = (H : Int) := by
    rw [show (R : Int) - 1 = ((R - 1 : Nat) : Int) by omega, and_u64 P (R - 1) (by omega) (by omega), ← hH, ← hR, Nat.and_two_pow_sub_one_eq_mod]
  rw [hH] at hE
  have t0 : w.cell? ⟨gt, 0, none⟩ = some (.slice (some ⟨gs, 0, none⟩) R R) := cell_lit h.tb 0 _ rfl
  have t1 : w.cell? ⟨gt, 1, none⟩ = some (.int .i64 root) := cell_lit h.tb 1 _ rfl
  have c0 := OwnS.cell flatT h.rs H 0 _ hE (by decide)
  have c1 := OwnS.cell flatT h.rs H 1 _ hE (by decide)
  have c2 := OwnS.cell flatT h.rs H 2 _ hE (by decide)
  have c3 := OwnS.cell flatT h.rs H 3 _ hE (by decide)
  simp only [fT, List.getElem?_cons_zero, List.getElem?_cons_succ, Nat.add_zero] at c0 c1 c2 c3
  have lgt := block_lt h.tb
  have lgs := (World.ownsRow.lt h.rs gs rfl).2
  obtain ⟨gb, hgb⟩ : ∃ gb, w.heap.size = gb := ⟨_, rfl⟩
  obtain ⟨W, hW⟩ : ∃ W, w.alloc (.cells #[.int .i32 0, .int .i16 0, .bool false, .int .i32 0] 56) = W := ⟨_, rfl⟩
  have hb : Below gb w W := by rw [← hW, ← hgb]; exact (Below.refl _ _).alloc (Nat.le_refl _) _
  have hbx : W.heap[gb]? = some (.cells #[.int .i32 0, .int .i16 0, .bool false, .int .i32 0] 56 (0, 0)) := by rw [← hW, ← hgb]; exact heap_alloc_new _ _
  have t0 : W.cell? ⟨gt, 0, none⟩ = _ := (hb.cell (p := ⟨gt, 0, none⟩) (show gt < gb by omega)).trans t0
  have t1 : W.cell? ⟨gt, 1, none⟩ = _ := (hb.cell (p := ⟨gt, 1, none⟩) (show gt < gb by omega)).trans t1
  have c0 : W.cell? ⟨gs, H * 4, none⟩ = _ := (hb.cell (p := ⟨gs, H * 4, none⟩) (show gs < gb by omega)).trans c0
  have c1 : W.cell? ⟨gs, H * 4 + 1, none⟩ = _ := (hb.cell (p := ⟨gs, H * 4 + 1, none⟩) (show gs < gb by omega)).trans c1
  have c2 : W.cell? ⟨gs, H * 4 + 2, none⟩ = _ := (hb.cell (p := ⟨gs, H * 4 + 2, none⟩) (show gs < gb by omega)).trans c2
  have c3 : W.cell? ⟨gs, H * 4 + 3, none⟩ = _ := (hb.cell (p := ⟨gs, H * 4 + 3, none⟩) (show gs < gb by omega)).trans c3
  have b0 : W.cell? ⟨gb, 0, none⟩ = some (.int .i32 0) := cell_lit hbx 0 _ rfl
  have b1 : W.cell? ⟨gb, 1, none⟩ = some (.int .i16 0) := cell_lit hbx 1 _ rfl
  have b2 : W.cell? ⟨gb, 2, none⟩ = some (.bool false) := cell_lit hbx 2 _ rfl
  have b3 : W.cell? ⟨gb, 3, none⟩ = some (.int .i32 0) := cell_lit hbx 3 _ rfl
  have f0 := free_in hbx 0
  have f1 := free_in hbx 1
  have f2 := free_in hbx 2
  have f3 := free_in hbx 3
  have hHi : (H : Int) < (R : Int) := by omega
  have hH0 : (0 : Int) ≤ (H : Int) := by omega
  have HBX := Lib.hid hbx
  have HB := Lib.hid hb
  have hmr : min root 64 = root := by omega
  have HR := Lib.hid hR
  clear h hE hH hR hbx hb hP hRp hR15
  go_enter Try.func26, Try.ntmps26
  go_wp2_with fail
  try rw [hW]
  try rw [hgb]
  clear hW
  go_still_tail 14, (by kernel_rfl)
  clear hW1 hW3 hAnd hmr hHi hH0
  change wpList _ _ _ _ _ W.drew
  go_wp2_with fail
  obtain ⟨W2, hW2⟩ : ∃ W2, ((((W.setCell ⟨gb, 0, none⟩ (.int .i32 E1)).setCell ⟨gb, 1, none⟩ (.int .i16 E2)).setCell ⟨gb, 2, none⟩ (.bool E3)).setCell ⟨gb, 3, none⟩ (.int .i32 E4)).drew = W2 := ⟨_, rfl⟩
  have hx2 : W2.heap[gb]? = some (.cells #[.int .i32 E1, .int .i16 E2, .bool E3, .int .i32 E4] 56 (0, 0)) := by
    rw [← hW2]
    exact block_set (block_set (block_set (block_set HBX.out 0 _) 1 _) 2 _) 3 _
  have HB2 := Lib.hid (show Below gb w W2 by
    rw [← hW2]
    exact ((((HB.out.setCell (p := ⟨gb, 0, none⟩) (Nat.le_refl _) _).setCell (p := ⟨gb, 1, none⟩) (Nat.le_refl _) _).setCell (p := ⟨gb, 2, none⟩) (Nat.le_refl _) _).setCell (p := ⟨gb, 3, none⟩) (Nat.le_refl _) _).drew)
  rw [hW2]
  have d0 : W2.cell? ⟨gb, 0, none⟩ = some (.int .i32 E1) := cell_lit hx2 0 _ rfl
  have d1 : W2.cell? ⟨gb, 1, none⟩ = some (.int .i16 E2) := cell_lit hx2 1 _ rfl
  have d2 : W2.cell? ⟨gb, 2, none⟩ = some (.bool E3) := cell_lit hx2 2 _ rfl
  have d3 : W2.cell? ⟨gb, 3, none⟩ = some (.int .i32 E4) := cell_lit hx2 3 _ rfl
  clear hW2 hx2
  exact bodyPost_ret (v := .agg #[_, _, _, _]) (by simp [results, Try.results26, go_sem, d0, d1, d2, d3]) rfl ⟨rfl, by rw [hgb]; exact HB2.out⟩
theorem tSizeNil (w : World) : Calls Try.prog 10 #[.pointer none] w fun e w' => e = .returned (.int .i64 0) ∧ w' = w := by
  go_enter Try.func10, Try.ntmps10
  go_wp2_with fail
  go_ret
  exact ⟨rfl, rfl⟩
theorem tSize (w : World) (B gt gs R root L N C : Nat) (ao : Option Addr) (short long : List Ent) (h : IsT2 w B gt gs R root L (.slice ao N C) short long) (hR : R ≤ 32768) (hN : N ≤ 32768) : Calls Try.prog 10 #[.pointer (some ⟨gt, 0, none⟩)] w fun e w' => e = .returned (.int .i64 ((R : Int) + N)) ∧ ∃ k, w' = w.drewN k := by
  have g1 : w.cell? ⟨gt, 0, none⟩ = some (.slice (some ⟨gs, 0, none⟩) R R) := cell_lit h.tb 0 _ rfl
  have g2 : w.cell? ⟨gt, 2, none⟩ = some (.slice ao N C) := cell_lit h.tb 2 _ rfl
  have hw : IntKind.i64.wrap ((R : Int) + N) = (R : Int) + N := by rw [IntKind.wrap_i64]; omega
  go_enter Try.func10, Try.ntmps10
  go_wp2_with fail
  go_quiet (fail)
  rename_i nq
  go_wp2_with fail
  go_ret
  exact ⟨rfl, nq, rfl⟩
end Go.Proofs.Ytbdhfmoididkgaa
