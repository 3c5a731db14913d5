import Derived.Test.YtopiiickeojpmaaJ2
import Derived.Test.YtopiiickeojpmaaJ05
import Derived.Test.YtopiiickeojpmaaJ10
/- Layer 10: fill. -/
namespace Go.Proofs.Ytopiiickeojpmaa
open Go.ChangeShapes Go.WideShapes Go.ChangeAt Go.RowKit
set_option linter.unusedVariables false
set_option linter.unusedSimpArgs false
set_option maxRecDepth 100000
open KraftMath CanonMath TurnMath Bits
def fE (p : Int × Int) : List Value := [.int .i32 p.1, .int .i32 p.2]
theorem flatE : Flat fE 2 := fun x => ⟨rfl, by intro u hu; simp [fE] at hu; rcases hu with rfl | rfl <;> rfl⟩
abbrev OwnE (B : Nat) (w : World) (v : Value) (l : List (Int × Int)) : Prop := OwnS fE 114 2 B w v l
theorem info_entry : (Try.prog.info? 114).map (fun i => (i.zero, i.size, i.bytes)) = some (some (.agg #[.int .i32 0, .int .i32 0]), 2, 8) := by kernel_rfl
structure IsTab (w : World) (B gt ge L N : Nat) (tab : List (Int × Int)) : Prop where
  tb : w.heap[gt]? = some (.cells #[.slice (some ⟨ge, 0, none⟩) N N, .int .i64 L] 111 (0, 0))
  row : OwnE B w (.slice (some ⟨ge, 0, none⟩) N N) tab
theorem IsTab.ne {w : World} {B gt ge L N : Nat} {tab : List (Int × Int)} (h : IsTab w B gt ge L N tab) : gt ≠ ge := by
  intro e
  subst e
  exact own_ne h.row h.tb (by decide) rfl
theorem IsTab.kept {w w' : World} {B gt ge L N : Nat} {tab : List (Int × Int)} (h : IsTab w B gt ge L N tab) (hb : Below w.heap.size w w') : IsTab w' B gt ge L N tab :=
  ⟨(hb.block _ (block_lt h.tb)).trans h.tb, OwnS.kept h.row hb⟩
theorem far2 {w : World} {g g' o o1 o2 : Nat} {v u1 u2 : Value} (h : w.cell? ⟨g, o, none⟩ = some v) (hne : g ≠ g') : ((w.setCell ⟨g', o1, none⟩ u1).setCell ⟨g', o2, none⟩ u2).cell? ⟨g, o, none⟩ = some v := by
  rw [World.cell?_of_block (w := w) ((Below.heap_setCell _ _ _ _ hne).trans (Below.heap_setCell _ _ _ _ hne))]; exact h
theorem IsTab.put {w : World} {B gt ge L N : Nat} {tab : List (Int × Int)} (h : IsTab w B gt ge L N tab) (i : Nat) (hi : i < tab.length) (a b : Int) : IsTab ((w.setCell ⟨ge, i * 2, none⟩ (.int .i32 a)).setCell ⟨ge, i * 2 + 1, none⟩ (.int .i32 b)) B gt ge L N (tab.set i (a, b)) :=
  ⟨((Below.heap_setCell _ _ _ _ h.ne).trans (Below.heap_setCell _ _ _ _ h.ne)).trans h.tb, OwnS.set2 flatE h.row i (a, b) _ _ rfl hi⟩
set_option maxHeartbeats 1600000 in
theorem fFill (w : World) (B gt ge L N T n s : Nat) (tab : List (Int × Int)) (h : IsTab w B gt ge L N tab) (hl : tab.length = N) (hN : N ≤ 32768) (hn : n ≤ 15) (hT : T < 2 ^ n) :
    Calls Try.prog 71 #[.pointer (some ⟨gt, 0, none⟩), .int .i64 T, .agg #[.int .i32 s, .int .i32 n]] w fun e w' => e = .returned (.tuple #[]) ∧ (∃ i, N ≤ i ∧ IsTab w' B gt ge L N (fillTo tab T (2 ^ n) i (s, n))) ∧ Keeps (fun j => j = ge) w w' := by
  have hq0 : 0 < 2 ^ n := Nat.pow_pos (by decide)
  have hq1 : 2 ^ n ≤ 2 ^ 15 := Nat.pow_le_pow_right (by decide) hn
  have hW : wrap64 ((2 : Int) ^ n) = ((2 ^ n : Nat) : Int) := by
    have e1 : (2 : Int) ^ n = ((2 ^ n : Nat) : Int) := by simp
    rw [e1]; unfold wrap64; generalize 2 ^ n = q at *; omega
  obtain ⟨q, hq⟩ : ∃ q, 2 ^ n = q := ⟨_, rfl⟩
  rw [hq] at hq0 hq1 hW hT
  have HQ := Lib.hid hq
  have HST := Lib.hid (fun i hi hlt => fillTo_step tab T q i ((s : Int), (n : Int)) hq0 hi (by rw [hl]; exact hlt))
  have HS0 := Lib.hid (fillTo_start tab T q ((s : Int), (n : Int)))
  have HFL := Lib.hid (fun i => (fillTo_len tab T q i ((s : Int), (n : Int))).trans hl)
  have HT0 := Lib.hid h
  clear hq h hl
  go_enter Try.func71, Try.ntmps71
  go_wp2_with fail
  obtain ⟨W, hWW⟩ : ∃ W, w.alloc (.cells #[.int .i32 s, .int .i32 n] 114) = W := ⟨_, rfl⟩
  obtain ⟨gb, hgb⟩ : ∃ gb, w.heap.size = gb := ⟨_, rfl⟩
  have hbox : W.heap[gb]? = some (.cells #[.int .i32 s, .int .i32 n] 114 (0, 0)) := by rw [← hWW, ← hgb]; exact heap_alloc_new _ _
  have HT1 := Lib.hid (show IsTab W B gt ge L N tab by rw [← hWW]; exact HT0.out.kept ((Below.refl _ _).alloc (Nat.le_refl _) _))
  have HK1 := Lib.hid (show Keeps (fun j => j = ge) w W by rw [← hWW]; exact (Keeps.refl _ w).alloc _)
  have hge : ge < gb := by rw [← hgb]; exact (World.ownsRow.lt HT0.out.row ge rfl).2
  have hgt : gt < gb := by rw [← hgb]; exact block_lt HT0.out.tb
  rw [hWW, hgb]
  clear hWW hgb HT0
  have HBX := Lib.hid hbox
  clear hbox
  go_loopw [6] (fun iv wr => ∃ i : Nat, iv = .int .i64 i ∧ i % q = T ∧ i ≤ N + q ∧ Hid (IsTab wr B gt ge L N (fillTo tab T q i (s, n))) ∧ Hid (wr.heap[gb]? = some (.cells #[.int .i32 s, .int .i32 n] 114 (0, 0))) ∧ Hid (Keeps (fun j => j = ge) w wr)) (fun iv _ => (N + q + 1 - (intOf iv).toNat))
  case atStart => exact ⟨T, rfl, Nat.mod_eq_of_lt hT, by omega, Lib.hid (by rw [HS0.out]; exact HT1.out), HBX, HK1⟩
  case round =>
    obtain ⟨i, rfl, him, hiN, ht, hbx, hk⟩ := hrel
    have g0 := cell_lit ht.out.tb 0 _ rfl
    have g1 : wr.cell? ⟨gt, 0, none⟩ = some (.slice (some ⟨ge, 0, none⟩) N N) := g0
    clear g0
    by_cases hlt : i < N
    · have b0 : wr.cell? ⟨gb, 0, none⟩ = some (.int .i32 s) := cell_lit hbx.out 0 _ rfl
      have b1 : wr.cell? ⟨gb, 1, none⟩ = some (.int .i32 n) := cell_lit hbx.out 1 _ rfl
      have hi0 : (0 : Int) ≤ (i : Int) := by omega
      have hi1 : (i : Int) < (N : Int) := by omega
      obtain ⟨P, hP⟩ : ∃ P : Int × Int, (fillTo tab T q i (s, n))[i]? = some P := ⟨_, List.getElem?_eq_getElem (by rw [HFL.out]; exact hlt)⟩
      have c0 := OwnS.cell flatE ht.out.row i 0 P hP (by decide)
      have c1 := OwnS.cell flatE ht.out.row i 1 P hP (by decide)
      simp only [fE, List.getElem?_cons_zero, List.getElem?_cons_succ, Nat.add_zero] at c0 c1
      have f0 := ht.out.row.free (i * 2)
      have f1 := ht.out.row.free (i * 2 + 1)
      have hne := ht.out.ne
      have hne2 : gb ≠ ge := by omega
      have HT2 := Lib.hid (show IsTab ((wr.drew.setCell ⟨ge, i * 2, none⟩ (.int .i32 s)).setCell ⟨ge, i * 2 + 1, none⟩ (.int .i32 n)) B gt ge L N (fillTo tab T q (i + q) (s, n)) by
        rw [← HST.out i him hlt]
        exact (show IsTab wr.drew B gt ge L N (fillTo tab T q i (s, n)) from ⟨ht.out.tb, ht.out.row⟩).put i (by rw [HFL.out]; exact hlt) s n)
      have HB2 := Lib.hid (show ((wr.drew.setCell ⟨ge, i * 2, none⟩ (.int .i32 s)).setCell ⟨ge, i * 2 + 1, none⟩ (.int .i32 n)).heap[gb]? = _ from ((Below.heap_setCell _ _ _ _ hne2).trans (Below.heap_setCell _ _ _ _ hne2)).trans hbx.out)
      have HK2 := Lib.hid ((hk.out.drew.setCell (p := ⟨ge, i * 2, none⟩) (.inr rfl) (.int .i32 s)).setCell (p := ⟨ge, i * 2 + 1, none⟩) (.inr rfl) (.int .i32 n))
      have HF1 := Lib.hid (far2 (w := wr.drew) (o1 := i * 2) (o2 := i * 2 + 1) (u1 := .int .i32 s) (u2 := .int .i32 n) g1 hne)
      have HF2 := Lib.hid (far2 (w := wr.drew) (o1 := i * 2) (o2 := i * 2 + 1) (u1 := .int .i32 s) (u2 := .int .i32 n) b0 hne2)
      have HF3 := Lib.hid (far2 (w := wr.drew) (o1 := i * 2) (o2 := i * 2 + 1) (u1 := .int .i32 s) (u2 := .int .i32 n) b1 hne2)
      have HG := Lib.hid (show wr.cell? ⟨gt, 0, none⟩ = some (.slice (some ⟨ge, 0, none⟩) N N) ∧ wr.cell? ⟨gb, 0, none⟩ = some (.int .i32 s) ∧ wr.cell? ⟨gb, 1, none⟩ = some (.int .i32 n) from ⟨g1, b0, b1⟩)
      go_wp2_with fail
      go_region_held3 (fun w1 => w1.cell? ⟨gt, 0, none⟩ = some (.slice (some ⟨ge, 0, none⟩) N N) ∧ w1.cell? ⟨gb, 0, none⟩ = some (.int .i32 s) ∧ w1.cell? ⟨gb, 1, none⟩ = some (.int .i32 n)) (first | exact HG.out | exact ⟨HF1.out, HF2.out, HF3.out⟩ | fail) (fail)
      have b1 : ((wr.drew.setCell ⟨ge, i * 2, none⟩ (.int .i32 s)).setCell ⟨ge, i * 2 + 1, none⟩ (.int .i32 n)).cell? ⟨gb, 1, none⟩ = some (.int .i32 n) := HF3.out
      clear c0 c1 f0 f1 hP hne hne2
      go_wp2_with fail
      go_roundw
      case rel => exact ⟨i + q, by go_num, by rw [Nat.add_mod_right]; exact him, by omega, HT2, HB2, HK2⟩
      case measure => simp [intOf]; omega
    · obtain ⟨i', hi'⟩ : ∃ i' : Nat, i' = i := ⟨_, rfl⟩
      have hNi : N ≤ i := by omega
      clear g1
      have g1 : wr.cell? ⟨gt, 0, none⟩ = some (.slice (some ⟨ge, 0, none⟩) N N) := cell_lit ht.out.tb 0 _ rfl
      go_wp2_with fail
      go_end0
      exact ⟨rfl, ⟨i, hNi, by rw [HQ.out]; exact ht.out⟩, hk.out⟩
end Go.Proofs.Ytopiiickeojpmaa
