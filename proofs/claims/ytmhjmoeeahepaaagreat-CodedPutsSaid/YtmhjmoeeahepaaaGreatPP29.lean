import Derived.Test.YtmhjmoeeahepaaaGreatPP18
import Derived.Test.YtmhjmoeeahepaaaGreatPP07
import Derived.Test.YtmhjmoeeahepaaaGreatPP12
import Derived.Test.YtmhjmoeeahepaaaGreatPP09
import Derived.Test.YtmhjmoeeahepaaaGreatPP15
import Derived.Test.YtmhjmoeeahepaaaGreatPP01
import Derived.Test.YtmhjmoeeahepaaaGreatPP17
import Derived.IntWalk
import Derived.Laws.IdiomStrings
import Derived.Test.YtmhjmoeeahepaaaGreatPP19
/- Layer 10: fill. -/
namespace Go.Proofs.YtmhjmoeeahepaaaGreat
open Go.ChangeShapes Go.WideShapes Go.ChangeAt Go.RowKit
set_option linter.unusedVariables false
set_option linter.unusedSimpArgs false
set_option maxRecDepth 100000
open KraftMath CanonMath TurnMath Bits
def fE (p : Int × Int) : List Value := [.int .i32 p.1, .int .i32 p.2]
theorem flatE : Flat fE 2 := fun x => ⟨rfl, by intro u hu; simp [fE] at hu; rcases hu with rfl | rfl <;> rfl⟩
abbrev OwnE (B : Nat) (w : World) (v : Value) (l : List (Int × Int)) : Prop := OwnS fE 183 2 B w v l
theorem info_entry : (Tryz.prog.info? 183).map (fun i => (i.zero, i.size, i.bytes)) = some (some (.agg #[.int .i32 0, .int .i32 0]), 2, 8) := by kernel_rfl
structure IsTab (w : World) (B gt ge L N : Nat) (tab : List (Int × Int)) : Prop where
  tb : w.heap[gt]? = some (.cells #[.slice (some ⟨ge, 0, none⟩) N N, .int .i64 L] 180 (0, 0))
  row : OwnE B w (.slice (some ⟨ge, 0, none⟩) N N) tab
theorem IsTab.ne {w : World} {B gt ge L N : Nat} {tab : List (Int × Int)} (h : IsTab w B gt ge L N tab) : gt ≠ ge := by
  intro e
  subst e
  exact own_ne h.row h.tb (by decide) rfl
theorem IsTab.kept {w w' : World} {B gt ge L N : Nat} {tab : List (Int × Int)} (h : IsTab w B gt ge L N tab) (hb : Below w.heap.size w w') : IsTab w' B gt ge L N tab :=
  ⟨(hb.block _ (block_lt h.tb)).trans h.tb, OwnS.kept h.row hb⟩
theorem far2 {w : World} {g g' o o1 o2 : Nat} {v u1 u2 : Value} (h : w.cell? ⟨g, o, none⟩ = some v) (hne : g ≠ g') : ((w.setCell ⟨g', o1, none⟩ u1).setCell ⟨g', o2, none⟩ u2).cell? ⟨g, o, none⟩ = some v := by
  rw [World.cell?_of_block (w := w) ((Below.heap_setCell _ _ _ _ hne).trans (Below.heap_setCell _ _ _ _ hne))]; exact h
theorem IsTab.put {w : World} {B gt ge L N : Nat} {tab : List (Int × Int)} (h : IsTab w B gt ge L N tab) (i : Nat) (hi : i < tab.length) (a b : Int) : IsTab ((w.setCell ⟨ge, i * 2, none⟩ (.int .i32 a)).setCell ⟨ge, i * 2 + 1, none⟩ (.int .i32 b)) B gt ge L N (tab.set i (a, b)) :=
  ⟨((Below.heap_setCell _ _ _ _ h.ne).trans (Below.heap_setCell _ _ _ _ h.ne)).trans h.tb, OwnS.set2 flatE h.row i (a, b) _ _ rfl hi⟩
set_option maxHeartbeats 1600000 in
theorem fFill (w : World) (B gt ge L N T n s : Nat) (tab : List (Int × Int)) (h : IsTab w B gt ge L N tab) (hl : tab.length = N) (hN : N ≤ 32768) (hn : n ≤ 15) (hT : T < 2 ^ n) :
    Calls Tryz.prog 130 #[.pointer (some ⟨gt, 0, none⟩), .int .i64 T, .agg #[.int .i32 s, .int .i32 n]] w fun e w' => e = .returned (.tuple #[]) ∧ (∃ i, N ≤ i ∧ IsTab w' B gt ge L N (fillTo tab T (2 ^ n) i (s, n))) ∧ Keeps (fun j => j = ge) w w' := by
  have hq0 : 0 < 2 ^ n := Nat.pow_pos (by decide)
  have hq1 : 2 ^ n ≤ 2 ^ 15 := Nat.pow_le_pow_right (by decide) hn
  have hW : wrap64 ((2 : Int) ^ n) = ((2 ^ n : Nat) : Int) := by
    have e1 : (2 : Int) ^ n = ((2 ^ n : Nat) : Int) := by simp
    rw [e1]; unfold wrap64; generalize 2 ^ n = q at *; omega
  obtain ⟨q, hq⟩ : ∃ q, 2 ^ n = q := ⟨_, rfl⟩
  rw [hq] at hq0 hq1 hW hT
  have HQ := Lib.hid hq
  have HST := Lib.hid (fun i hi hlt => fillTo_step tab T q i ((s : Int), (n : Int)) hq0 hi (by rw [hl]; exact hlt))
  have HS0 := Lib.hid (fillTo_start tab T q ((s : Int), (n : Int)))
  have HFL := Lib.hid (fun i => (fillTo_len tab T q i ((s : Int), (n : Int))).trans hl)
  have HT0 := Lib.hid h
  clear hq h hl
  go_enter Tryz.func130, Tryz.ntmps130
  go_wp2_with fail
  obtain ⟨W, hWW⟩ : ∃ W, w.alloc (.cells #[.int .i32 s, .int .i32 n] 183) = W := ⟨_, rfl⟩
  obtain ⟨gb, hgb⟩ : ∃ gb, w.heap.size = gb := ⟨_, rfl⟩
  have hbox : W.heap[gb]? = some (.cells #[.int .i32 s, .int .i32 n] 183 (0, 0)) := by rw [← hWW, ← hgb]; exact heap_alloc_new _ _
  have HT1 := Lib.hid (show IsTab W B gt ge L N tab by rw [← hWW]; exact HT0.out.kept ((Below.refl _ _).alloc (Nat.le_refl _) _))
  have HK1 := Lib.hid (show Keeps (fun j => j = ge) w W by rw [← hWW]; exact (Keeps.refl _ w).alloc _)
  have hge : ge < gb := by rw [← hgb]; exact (World.ownsRow.lt HT0.out.row ge rfl).2
  have hgt : gt < gb := by rw [← hgb]; exact block_lt HT0.out.tb
  rw [hWW, hgb]
  clear hWW hgb HT0
  have HBX := Lib.hid hbox
  clear hbox
  go_loopw [6] (fun iv wr => ∃ i : Nat, iv = .int .i64 i ∧ i % q = T ∧ i ≤ N + q ∧ Hid (IsTab wr B gt ge L N (fillTo tab T q i (s, n))) ∧ Hid (wr.heap[gb]? = some (.cells #[.int .i32 s, .int .i32 n] 183 (0, 0))) ∧ Hid (Keeps (fun j => j = ge) w wr)) (fun iv _ => (N + q + 1 - (intOf iv).toNat))
  case atStart => exact ⟨T, rfl, Nat.mod_eq_of_lt hT, by omega, Lib.hid (by rw [HS0.out]; exact HT1.out), HBX, HK1⟩
  case round =>
    obtain ⟨i, rfl, him, hiN, ht, hbx, hk⟩ := hrel
    have g0 := cell_lit ht.out.tb 0 _ rfl
    have g1 : wr.cell? ⟨gt, 0, none⟩ = some (.slice (some ⟨ge, 0, none⟩) N N) := g0
    clear g0
    by_cases hlt : i < N
    · have b0 : wr.cell? ⟨gb, 0, none⟩ = some (.int .i32 s) := cell_lit hbx.out 0 _ rfl
      have b1 : wr.cell? ⟨gb, 1, none⟩ = some (.int .i32 n) := cell_lit hbx.out 1 _ rfl
      have hi0 : (0 : Int) ≤ (i : Int) := by omega
      have hi1 : (i : Int) < (N : Int) := by omega
      obtain ⟨P, hP⟩ : ∃ P : Int × Int, (fillTo tab T q i (s, n))[i]? = some P := ⟨_, List.getElem?_eq_getElem (by rw [HFL.out]; exact hlt)⟩
      have c0 := OwnS.cell flatE ht.out.row i 0 P hP (by decide)
      have c1 := OwnS.cell flatE ht.out.row i 1 P hP (by decide)
      simp only [fE, List.getElem?_cons_zero, List.getElem?_cons_succ, Nat.add_zero] at c0 c1
      have f0 := ht.out.row.free (i * 2)
      have f1 := ht.out.row.free (i * 2 + 1)
      have hne := ht.out.ne
      have hne2 : gb ≠ ge := by omega
      have HT2 := Lib.hid (show IsTab ((wr.drew.setCell ⟨ge, i * 2, none⟩ (.int .i32 s)).setCell ⟨ge, i * 2 + 1, none⟩ (.int .i32 n)) B gt ge L N (fillTo tab T q (i + q) (s, n)) by
        rw [← HST.out i him hlt]
        exact (show IsTab wr.drew B gt ge L N (fillTo tab T q i (s, n)) from ⟨ht.out.tb, ht.out.row⟩).put i (by rw [HFL.out]; exact hlt) s n)
      have HB2 := Lib.hid (show ((wr.drew.setCell ⟨ge, i * 2, none⟩ (.int .i32 s)).setCell ⟨ge, i * 2 + 1, none⟩ (.int .i32 n)).heap[gb]? = _ from ((Below.heap_setCell _ _ _ _ hne2).trans (Below.heap_setCell _ _ _ _ hne2)).trans hbx.out)
      have HK2 := Lib.hid ((hk.out.drew.setCell (p := ⟨ge, i * 2, none⟩) (.inr rfl) (.int .i32 s)).setCell (p := ⟨ge, i * 2 + 1, none⟩) (.inr rfl) (.int .i32 n))
      have HF1 := Lib.hid (far2 (w := wr.drew) (o1 := i * 2) (o2 := i * 2 + 1) (u1 := .int .i32 s) (u2 := .int .i32 n) g1 hne)
      have HF2 := Lib.hid (far2 (w := wr.drew) (o1 := i * 2) (o2 := i * 2 + 1) (u1 := .int .i32 s) (u2 := .int .i32 n) b0 hne2)
      have HF3 := Lib.hid (far2 (w := wr.drew) (o1 := i * 2) (o2 := i * 2 + 1) (u1 := .int .i32 s) (u2 := .int .i32 n) b1 hne2)
      have HG := Lib.hid (show wr.cell? ⟨gt, 0, none⟩ = some (.slice (some ⟨ge, 0, none⟩) N N) ∧ wr.cell? ⟨gb, 0, none⟩ = some (.int .i32 s) ∧ wr.cell? ⟨gb, 1, none⟩ = some (.int .i32 n) from ⟨g1, b0, b1⟩)
      go_wp2_with fail
      go_region_held3 (fun w1 => w1.cell? ⟨gt, 0, none⟩ = some (.slice (some ⟨ge, 0, none⟩) N N) ∧ w1.cell? ⟨gb, 0, none⟩ = some (.int .i32 s) ∧ w1.cell? ⟨gb, 1, none⟩ = some (.int .i32 n)) (first | exact HG.out | exact ⟨HF1.out, HF2.out, HF3.out⟩ | fail) (fail)
      have b1 : ((wr.drew.setCell ⟨ge, i * 2, none⟩ (.int .i32 s)).setCell ⟨ge, i * 2 + 1, none⟩ (.int .i32 n)).cell? ⟨gb, 1, none⟩ = some (.int .i32 n) := HF3.out
      clear c0 c1 f0 f1 hP hne hne2
      go_wp2_with fail
      go_roundw
      case rel => exact ⟨i + q, by go_num, by rw [Nat.add_mod_right]; exact him, by omega, HT2, HB2, HK2⟩
      case measure => simp [intOf]; omega
    · obtain ⟨i', hi'⟩ : ∃ i' : Nat, i' = i := ⟨_, rfl⟩
      have hNi : N ≤ i := by omega
      clear g1
      have g1 : wr.cell? ⟨gt, 0, none⟩ = some (.slice (some ⟨ge, 0, none⟩) N N) := cell_lit ht.out.tb 0 _ rfl
      go_wp2_with fail
      go_end0
      exact ⟨rfl, ⟨i, hNi, by rw [HQ.out]; exact ht.out⟩, hk.out⟩
end Go.Proofs.YtmhjmoeeahepaaaGreat

/- Layer 10: New. -/
namespace Go.Proofs.YtmhjmoeeahepaaaGreat
open Go.ChangeShapes Go.WideShapes Go.ChangeAt Go.RowKit
set_option linter.unusedVariables false
set_option linter.unusedSimpArgs false
set_option maxRecDepth 100000
open KraftMath CanonMath TurnMath Bits
theorem fNewArg (v : Value) (L : Int) (hL : L < 1 ∨ 15 < L) (w : World) : Calls Tryz.prog 120 #[v, .int .i64 L] w fun e w' => e = .returned (.tuple #[.pointer none, .int .i64 1]) ∧ w' = w := by
  by_cases h1 : L < 1
  · have hd : decide (L < 1) = true := by simpa using h1
    go_enter Tryz.func120, Tryz.ntmps120
    go_wp2_with fail
    go_ret2
    exact ⟨rfl, rfl⟩
  · have hd1 : decide (L < 1) = false := by simpa using h1
    have hd : decide (15 < L) = true := by simp; omega
    go_enter Tryz.func120, Tryz.ntmps120
    go_wp2_with fail
    go_ret2
    exact ⟨rfl, rfl⟩
theorem fNewBad (a : Option Addr) (c : Nat) (l : List Int) (L : Nat) (hL1 : 1 ≤ L) (hL : L ≤ 15) (hE : check l L ≠ 0) (w : World) (h : IsInts w a l) : Calls Tryz.prog 120 #[.slice a l.length c, .int .i64 L] w fun e w' => e = .returned (.tuple #[.pointer none, .int .i64 (check l L)]) ∧ Below w.heap.size w w' := by
  have C1 := Lib.hid (kCheck_any a c L l w h)
  obtain ⟨CE, hCE⟩ : ∃ CE, check l L = CE := ⟨_, rfl⟩
  rw [hCE] at hE C1 ⊢
  have hne : (CE != 0) = true := by rw [bne_iff_ne]; exact hE
  have hd1 : decide ((L : Int) < 1) = false := by simp; omega
  have hd2 : decide ((15 : Int) < (L : Int)) = false := by simp; omega
  clear hCE h
  go_enter Tryz.func120, Tryz.ntmps120
  go_wp2_with fail
  refine C1.out.mono ?_; rintro e w1 ⟨rfl, k, rfl⟩
  go_wp2_with fail
  go_ret2
  exact ⟨rfl, below_dn (Below.refl _ _) k⟩
set_option maxHeartbeats 3200000 in
theorem fNew (a : Option Addr) (c : Nat) (l : List Int) (L : Nat) (hL1 : 1 ≤ L) (hL : L ≤ 15) (hE : check l L = 0) (w : World) (h : IsInts w a l) : Calls Tryz.prog 120 #[.slice a l.length c, .int .i64 L] w fun e w' => ∃ gt ge, e = .returned (.tuple #[.pointer (some ⟨gt, 0, none⟩), .int .i64 0]) ∧ IsTab w' w.heap.size gt ge L (2 ^ L) (tabK l L l.length) ∧ w.heap.size ≤ gt ∧ Below w.heap.size w w' := by
  obtain ⟨h16, hlen, -, -⟩ := check_16 hE
  have C1 := Lib.hid (kCheck_any a c L l w h)
  rw [hE] at C1
  have C2 := Lib.hid (fun k => cCodes a c l (w.drewN k) (IsInts.drewN h k))
  rw [h16] at C2
  have HCL := Lib.hid (codes_len (l := l) h16)
  have HCA := Lib.hid (fun s hs => codes_at (l := l) h16 (s := s) hs)
  have HLI := Lib.hid (fun s hs => lenI (l := l) h16 (s := s) hs)
  have HLB := Lib.hid hlen
  have HCB := Lib.hid (fun s hs => ok_c (l := l) h16 (s := s) hs)
  have HT0 := Lib.hid (tabK_zero l L)
  have HTN := Lib.hid (fun k => tabK_len l L k)
  have HTF := Lib.hid (fun k i hk h0 hL hi => fillTo_tab (l := l) h16 (L := L) (k := k) (i := i) hk h0 hL hi)
  have HTS := Lib.hid (fun k hk h0 => tab_skip (l := l) h16 (L := L) (k := k) hk h0)
  have hN0 : 0 < 2 ^ L := Nat.pow_pos (by decide)
  have hN1 : 2 ^ L ≤ 2 ^ 15 := Nat.pow_le_pow_right (by decide) hL
  have hll : l.length ≤ 1024 := ((check_ok l L).1 hE).2.2.1
  have HW := Lib.hid (show wrap64 ((2 : Int) ^ L) = ((2 ^ L : Nat) : Int) by
    have e1 : (2 : Int) ^ L = ((2 ^ L : Nat) : Int) := by simp
    rw [e1]; unfold wrap64; generalize 2 ^ L = q at *; omega)
  have hd1 : decide ((L : Int) < 1) = false := by simp; omega
  have hd2 : decide ((15 : Int) < (L : Int)) = false := by simp; omega
  have HI := Lib.hid h
  clear h hE h16 hlen
  go_enter Tryz.func120, Tryz.ntmps120
  go_wp2_with fail
  refine C1.out.mono ?_; rintro e w1 ⟨rfl, k, rfl⟩
  go_wp2_with fail
  refine (C2.out k).mono ?_; rintro e w1 ⟨v1, rfl, hI1, hb1⟩
  obtain ⟨cc, cd, rfl, hI1⟩ := hI1
  rw [HCL.out]
  have HC := Lib.hid hI1
  have HB := Lib.hid (show Below w.heap.size w w1 from (below_dn (Below.refl w.heap.size w) k).trans hb1)
  clear hI1 hb1 C1 C2
  go_wp2_with (refine make_full (f := fE) info_entry (by decide) Tryz.underlying178 (0, 0) rfl flatE (by decide) rfl _ _ rfl .i64 .i64 _ _ (2 ^ L) rfl rfl HW.out HW.out (by omega) ?_; intro w3 hown3 hb3 hz3)
  obtain ⟨N, hN⟩ : ∃ N, 2 ^ L = N := ⟨_, rfl⟩
  rw [hN] at hown3 hN0 hN1 HTN HTF HT0 ⊢
  have HN := Lib.hid hN
  rw [← HT0.out] at hown3
  obtain ⟨gt, hgt⟩ : ∃ gt, w3.heap.size = gt := ⟨_, rfl⟩
  have HO := Lib.hid hown3; have HB3 := Lib.hid hb3
  clear hown3 hb3 hN HW HT0
  have HNI := Lib.hid (show (2 : Int) ^ L = (N : Int) by rw [← HN.out]; simp)
  go_wp2_with fail
  have hb3s := HB3.out.size
  obtain ⟨ge, hge⟩ : ∃ ge, w1.heap.size = ge := ⟨_, rfl⟩
  obtain ⟨W, hW⟩ : ∃ W, w3.alloc (.cells #[.slice (some ⟨ge, 0, none⟩) N N, .int .i64 L] 180) = W := ⟨_, rfl⟩
  have HT := Lib.hid (show IsTab W ge gt ge L N (tabK l L 0) by
    rw [← hW, ← hgt]
    refine ⟨heap_alloc_new _ _, ?_⟩
    have := HO.out
    rw [hge] at this
    exact OwnS.kept this ((Below.refl _ _).alloc (Nat.le_refl _) _))
  have HBW := Lib.hid (show Below ge w1 W by
    rw [← hW]
    have := HB3.out
    rw [hge] at this
    exact this.alloc (by omega) _)
  have hgegt : ge ≤ gt := by omega
  have hw1 : w.heap.size ≤ ge := by have := HB.out.size; omega
  have hgeW : Hid (w1.heap.size = ge) := Lib.hid hge
  rw [hgt, hge, hW]
  clear hW hgt hge HO HB3 hb3s hz3
  go_loopw [40] (fun iv wr => ∃ k : Nat, k ≤ l.length ∧ iv = .int .i64 k ∧ Hid (IsTab wr ge gt ge L N (tabK l L k)) ∧ Hid (Below ge w1 wr)) (fun iv _ => l.length - (intOf iv).toNat)
  case atStart => exact ⟨0, Nat.zero_le _, rfl, HT, HBW⟩
  case round =>
    obtain ⟨k, hk, rfl, ht, hb⟩ := hrel
    have hbw1 : Below w1.heap.size w1 wr := hb.out.mono (Nat.le_of_eq hgeW.out)
    by_cases hlt : k < l.length
    · have hgl := (HI.out.kept HB.out).kept hbw1
      have hgc := HC.out.kept hbw1
      obtain ⟨x, rfl, hxb, cx0⟩ := hgl.at k hlt
      have cx := cx0 k hlt
      rw [HLI.out k hlt] at cx
      obtain ⟨y, rfl, hyb, cy0⟩ := hgc.at k (by rw [HCL.out]; exact hlt)
      have cy := cy0 k (by rw [HCL.out]; exact hlt)
      rw [HCA.out k hlt] at cy
      have hLk := HLB.out k hlt
      have hC := HCB.out k hlt
      have HTFk := Lib.hid (fun i h0 hi => HTF.out k i hlt h0 hLk hi)
      have HTSk := Lib.hid (fun h0 => HTS.out k hlt h0)
      have hTN := HTN.out k
      obtain ⟨n, hn⟩ : ∃ n, len l k = n := ⟨_, rfl⟩
      obtain ⟨C, hCe⟩ : ∃ C, code l k = C := ⟨_, rfl⟩
      rw [hn] at cx hLk hC HTFk HTSk
      rw [hCe] at cy hC HTFk
      clear cx0 cy0 hgl hgc hn hCe hbw1
      by_cases hn0 : n = 0
      · have HT2 := Lib.hid (show IsTab wr ge gt ge L N (tabK l L (k + 1)) by rw [HTSk.out hn0]; exact ht.out)
        subst hn0
        go_wp2_with fail
        go_roundw
        case rel => exact ⟨k + 1, by omega, by go_num, HT2, hb⟩
        case measure => simp [intOf]; omega
      · have hC15 : C < 32768 := Nat.lt_of_lt_of_le hC (show 2 ^ n ≤ 2 ^ 15 from Nat.pow_le_pow_right (by decide) (by omega))
        have hnp : (0 : Int) < (n : Int) := by omega
        have CT := Lib.hid (fun W => bTurned (C : Int) n (by omega) W)
        rw [show ((C : Int) % 4294967296).toNat = C by omega] at CT
        have hT := turn_lt C n
        have CF := Lib.hid (fFill wr ge gt ge L N (turn C n) n k (tabK l L k) ht.out hTN (by omega) (by omega) hT)
        obtain ⟨T, hTe⟩ : ∃ T, turn C n = T := ⟨_, rfl⟩
        rw [hTe] at CT CF HTFk
        clear hT hTe hC
        go_wp2_with fail
        refine (CT.out _).mono ?_; rintro e w4 ⟨rfl, rfl⟩
        go_wp2_with fail
        refine CF.out.mono ?_; rintro e w5 ⟨rfl, ⟨i, hi, ht5⟩, hk5⟩
        have HT2 := Lib.hid (show IsTab w5 ge gt ge L N (tabK l L (k + 1)) by rw [← HTFk.out i hn0 hi]; exact ht5)
        have HB2 := Lib.hid (hb.out.trans (hk5.below (B := ge) (fun q hq => ⟨by have := hb.out.size; have := hgeW.out; omega, by show q ≠ ge; omega⟩)))
        clear ht5 hk5
        go_wp2_with fail
        go_roundw
        case rel => exact ⟨k + 1, by omega, by go_num, HT2, HB2⟩
        case measure => simp [intOf]; omega
    · obtain rfl : k = l.length := by omega
      have HTT := Lib.hid (show IsTab wr w.heap.size gt ge L N (tabK l L l.length) from ⟨ht.out.tb, OwnS.base ht.out.row hw1⟩)
      have HBB := Lib.hid (HB.out.trans (hb.out.mono hw1))
      go_wp2_with fail
      go_ret2
      exact ⟨gt, ge, rfl, by rw [HN.out]; exact HTT.out, by omega, HBB.out⟩
end Go.Proofs.YtmhjmoeeahepaaaGreat

/- Layers 1 and 2: the document's Bytes, of a row of bools. -/
namespace Go.Proofs.YtmhjmoeeahepaaaGreat
open Go.ChangeShapes Go.WideShapes Go.ChangeAt Go.RowKit
set_option linter.unusedVariables false
set_option maxRecDepth 100000
open Bits

def cells8 (l : List UInt8) : List Value := l.map fun b => .int .u8 (b.toNat : Int)
theorem cells8_snoc (l : List UInt8) (b : UInt8) : cells8 l ++ [.int .u8 (b.toNat : Int)] = cells8 (l ++ [b]) := by simp [cells8]
theorem cells8_set (l : List UInt8) (k : Nat) (b : UInt8) : (cells8 l).set k (.int .u8 (b.toNat : Int)) = cells8 (l.set k b) := by unfold cells8; rw [List.map_set]
theorem cells8_len (l : List UInt8) : (cells8 l).length = l.length := by simp [cells8]
theorem conv_own8 {P : Program} {w : World} {base n : Nat} {src dst e : TypeId} {v : Value} {l : List UInt8} (hs : P.underlying src = some (.slice e)) (he : P.underlying e = some (.int .u8)) (hd : P.underlying dst = some .string)
    (h : w.ownsRow base e 1 v n (cells8 l)) : (convert src dst v).run P w = .ok (.string ⟨l.toArray⟩) w := by
  have hl := h.1
  rw [cells8_len, Nat.mul_one] at hl
  rcases h.2 with ⟨rfl, h0⟩ | ⟨g, cap, cur, rfl, -, -, -, -, -, -⟩
  · have : l = [] := List.length_eq_zero_iff.1 (by omega)
    subst this
    rw [run_convert_bytes_string w src dst e none 0 0 hs he hd]
    first | rfl | (simp [Conv.bytesToString, Sem.run_pure, go_sem]; rfl) | simp [Conv.bytesToString, Sem.run_pure, go_sem]
  · subst hl
    exact run_convert_bytes_back (P := P) w src dst e ⟨g, 0, none⟩ cap l hs he hd (fun j hj => h.cells (g := g) rfl j _ (by simp [cells8, hj]))
theorem pack_split (l : List Bool) : ∃ bs r, l = spread bs ++ r ∧ r.length = l.length % 8 ∧ bs.length = l.length / 8 := by
  obtain ⟨k, hk, e, hm⟩ := spread_pack (l.take (8 * (l.length / 8)))
  have ht : (l.take (8 * (l.length / 8))).length = 8 * (l.length / 8) := by rw [List.length_take]; omega
  rw [ht] at hm
  have k0 : k = 0 := by omega
  subst k0
  simp only [List.replicate_zero, List.append_nil] at e
  refine ⟨pack (l.take (8 * (l.length / 8))), l.drop (8 * (l.length / 8)), by rw [e, List.take_append_drop], by rw [List.length_drop]; omega, by rw [pack_length, ht]; omega⟩
/-- The bytes, with a byte for the next bit. -/
def opened (l : List Bool) : List UInt8 := if l.length % 8 = 0 then pack l ++ [0] else pack l
theorem opened_form (l : List Bool) (bs : List UInt8) (r : List Bool) (h : l = spread bs ++ r) (hr : r.length = l.length % 8) : opened l = bs ++ [UInt8.ofNat (wordOf r)] := by
  unfold opened
  split
  · rename_i h0
    have : r = [] := List.length_eq_zero_iff.1 (by omega)
    subst this
    rw [h, List.append_nil]
    have := pack_spread bs []
    rw [List.append_nil, pack_nil, List.append_nil] at this
    rw [this]; rfl
  · rename_i h0
    have hne : r ≠ [] := by rintro rfl; simp at hr; omega
    rw [h, pack_spread, pack_few r hne (by omega)]
theorem opened_next (l : List Bool) (b : Bool) : ∃ W : Nat, W < 2 ^ (l.length % 8) ∧ (opened l).length = l.length / 8 + 1 ∧ ((opened l).getD (l.length / 8) 0).toNat = W ∧
    pack (l ++ [b]) = if b then (opened l).set (l.length / 8) (UInt8.ofNat (W + 2 ^ (l.length % 8))) else opened l := by
  obtain ⟨bs, r, h, hr, hb⟩ := pack_split l
  have ho := opened_form l bs r h hr
  have hw := wordOf_lt r
  rw [hr] at hw
  have h8 : 2 ^ (l.length % 8) ≤ 2 ^ 7 := Nat.pow_le_pow_right (by decide) (by omega)
  refine ⟨wordOf r, hw, by rw [ho]; simp [hb], ?_, ?_⟩
  · rw [ho, ← hb]
    simp [List.getD_eq_getElem?_getD]
    omega
  · have e : pack (l ++ [b]) = bs ++ [UInt8.ofNat (wordOf (r ++ [b]))] := by
      conv => lhs; rw [h]
      rw [List.append_assoc, pack_spread, pack_few (r ++ [b]) (by simp) (by simp; omega)]
    rw [e, ho, wordOf_append, hr]
    cases b
    · simp [wordOf]
    · simp only [wordOf, if_true, Nat.mul_zero, Nat.add_zero, Nat.mul_one]
      rw [← hb]
      simp
theorem or_u8 (x y : Nat) (hx : x < 2 ^ 8) (hy : y < 2 ^ 8) : bits .or .u8 (x : Int) (y : Int) = ((x ||| y : Nat) : Int) :=
  (bits_nat .u8 8 (by decide) (fun n h1 h2 => by first | exact IntWalk.u8_in n (by omega) | (unfold IntKind.wrap; simp; omega)) x y hx hy).2
theorem or_bit (W J : Nat) (hJ : J < 8) (hW : W < 2 ^ J) : bits .or .u8 (W : Int) (IntKind.u8.wrap (2 ^ J)) = (((UInt8.ofNat (W + 2 ^ J)).toNat : Nat) : Int) := by
  have hp : 2 ^ J ≤ 2 ^ 7 := Nat.pow_le_pow_right (by decide) (by omega)
  have e1 : (2 : Int) ^ J = ((2 ^ J : Nat) : Int) := by simp
  have e2 : IntKind.u8.wrap ((2 ^ J : Nat) : Int) = ((2 ^ J : Nat) : Int) := by first | exact IntWalk.u8_in _ (by omega) | (unfold IntKind.wrap; simp; omega)
  rw [e1, e2, or_u8 W (2 ^ J) (by omega) (by omega)]
  have h := Nat.two_pow_add_eq_or_of_lt hW 1
  rw [Nat.mul_one] at h
  rw [show W ||| 2 ^ J = W + 2 ^ J by rw [Nat.or_comm, ← h]; omega]
  simp; omega
end Go.Proofs.YtmhjmoeeahepaaaGreat

/- Layer 1, the document's: Put, Align, Bytes. -/
namespace Go.Proofs.YtmhjmoeeahepaaaGreat
open Go.ChangeShapes Go.WideShapes Go.ChangeAt Go.RowKit
set_option linter.unusedVariables false
set_option maxRecDepth 100000
open Bits
def bitAt (x i : Nat) : Bool := x / 2 ^ i % 2 == 1
theorem bitsOf_snoc (x i : Nat) : bitsOf x i ++ [bitAt x i] = bitsOf x (i + 1) := by rw [bitsOf_add]; simp [bitsOf, bitAt]
theorem bit_and (x i : Nat) (hx : x < 2 ^ 64) : bits .and .u64 ((x : Int) / 2 ^ i) 1 = ((x / 2 ^ i % 2 : Nat) : Int) := by
  have e3 : (x : Int) / 2 ^ i = ((x / 2 ^ i : Nat) : Int) := by simp
  have := and_u64 (x / 2 ^ i) 1 (Nat.lt_of_le_of_lt (Nat.div_le_self _ _) hx) (by decide)
  rw [Nat.and_one_is_mod] at this
  rw [e3]; exact this
theorem dBit (x i : Nat) (hx : x < 2 ^ 64) (hi : i ≤ 60) (w : World) : Calls Tryz.prog 28 #[.int .u64 x, .int .i64 i] w fun e w' => e = .returned (.bool (bitAt x i)) ∧ w' = w := by
  have HB := Lib.hid (bit_and x i hx)
  obtain ⟨V, hV⟩ : ∃ V, x / 2 ^ i % 2 = V := ⟨_, rfl⟩
  have hb : bitAt x i = (V == 1) := by unfold bitAt; rw [hV]
  rw [hb]
  have hV2 : V = 0 ∨ V = 1 := by omega
  have hb2 := HB.out
  rw [hV] at hb2
  clear HB hV hb hx
  rcases hV2 with rfl | rfl
  · have hb3 : bits .and .u64 ((x : Int) / 2 ^ i) 1 = 0 := hb2
    clear hb2
    go_enter Tryz.func28, Tryz.ntmps28
    go_wp2
    go_ret
    exact ⟨rfl, rfl⟩
  · have hb3 : bits .and .u64 ((x : Int) / 2 ^ i) 1 = 1 := hb2
    clear hb2
    go_enter Tryz.func28, Tryz.ntmps28
    go_wp2
    go_ret
    exact ⟨rfl, rfl⟩

theorem info_u8 : (Tryz.prog.info? 5).map (fun i => (i.zero, i.size, i.bytes)) = some (some (.int .u8 0), 1, 1) := by kernel_rfl
theorem u8_new1 (w : World) (x : Int) (t g : Nat) (hg : g = w.heap.size) : ∀ j u, [Value.int .u8 x][j]? = some u → (w.alloc (.cells #[.int .u8 x] t)).cell? ((⟨g, 0, none⟩ : Addr).add j) = some u := cell_new1 w _ t g hg
theorem u8_one (x : Int) : ∀ u ∈ [Value.int .u8 x], u.oneCell' = true := by intro u hu; simp at hu; subst hu; rfl
set_option maxHeartbeats 1600000 in
theorem dPut (B : Nat) (v : Value) (x n : Nat) (bs : List Bool) (w : World) (hown : OwnB B w v bs) (hb0 : B ≤ w.heap.size) (hl : bs.length ≤ 1000000) (hn : n ≤ 56) (hx : x < 2 ^ n) :
    Calls Tryz.prog 53 #[v, .int .u64 x, .int .i64 n] w fun e w' => ∃ v', e = .returned (.tuple #[v', .int .i64 0]) ∧ OwnB B w' v' (bs ++ bitsOf x n) ∧ Row1 w v w' v' := by
  have hx64 : x < 2 ^ 64 := Nat.lt_of_lt_of_le hx (Nat.pow_le_pow_right (by decide) (by omega))
  have hz : (x : Int) / 2 ^ n = 0 := by
    have : (x : Int) / 2 ^ n = ((x / 2 ^ n : Nat) : Int) := by simp
    rw [this, Nat.div_eq_of_lt hx]; rfl
  have C := Lib.hid (fun i (hi : i ≤ 60) w => dBit x i hx64 hi w)
  clear hx hx64
  have hown_ := Lib.hid hown
  clear hown
  go_enter Tryz.func53, Tryz.ntmps53
  go_wp2
  clear hz
  go_loopw [0, 8] (fun u i wr => ∃ k : Nat, k ≤ n ∧ i = .int .i64 k ∧ OwnB B wr u (bs ++ bitsOf x k) ∧ Row1 w v wr u) (fun _ i _ => n - (intOf i).toNat)
  case atStart => exact ⟨0, Nat.zero_le _, rfl, by simpa [bitsOf] using hown_.out, Row1.refl _ _⟩
  case round =>
    obtain ⟨k, hk, rfl, hown, hr⟩ := hrel
    have hbs := Nat.le_trans hb0 hr.1.size
    by_cases hlt : k < n
    · have HS := Lib.hid (show bs ++ bitsOf x k ++ [bitAt x k] = bs ++ bitsOf x (k + 1) by rw [List.append_assoc, bitsOf_snoc])
      have CC := Lib.hid (fun w => C.out k (by omega) w)
      have HL := Lib.hid (show (bs ++ bitsOf x k).length ≤ 1099511627776 by rw [List.length_append, bitsOf_length]; omega)
      have HB := Lib.hid hbs
      obtain ⟨BT, hBT⟩ : ∃ BT, bitAt x k = BT := ⟨_, rfl⟩
      rw [hBT] at HS CC
      clear hBT
      have hown_ := Lib.hid hown
      have hr_ := Lib.hid hr
      clear hown hr
      go_wp2_with fail
      refine (CC.out _).mono ?_; rintro e w1 ⟨rfl, rfl⟩
      go_wp2_with (at_builtin; refine app_bool1 rfl _ _ rfl _ _ _ _ BT rfl hown_.out _ 1 rfl rfl HL.out HB.out ?_; intro v2 w2 hown2 hr2)
      rw [HS.out] at hown2
      have HR := Lib.hid (hr_.out.trans hr2)
      have hown2_ := Lib.hid hown2
      clear hown2
      clear hr2
      go_wp2
      go_roundw
      case rel => exact ⟨k + 1, by omega, by go_num, hown2_.out, HR.out⟩
      case measure => simp [intOf]; omega
    · obtain rfl : k = n := by omega
      have hown_ := Lib.hid hown
      have hr_ := Lib.hid hr
      clear hown hr
      go_wp2
      go_ret2
      exact ⟨_, rfl, hown_.out, hr_.out⟩
theorem dPut_out (v : Value) (x n : Int) (h : n < 0 ∨ 56 < n) (w : World) :
    Calls Tryz.prog 53 #[v, .int .u64 x, .int .i64 n] w fun e w' => e = .returned (.tuple #[v, .int .i64 2]) ∧ ∃ k, w' = w.drewN k := by
  by_cases h1 : n < 0
  · go_enter Tryz.func53, Tryz.ntmps53
    go_wp2
    go_ret2
    exact ⟨rfl, 0, rfl⟩
  · have h2 : 56 < n := by omega
    have e1 : decide (n < 0) = false := by simp; omega
    go_enter Tryz.func53, Tryz.ntmps53
    go_wp2
    go_ret2
    exact ⟨rfl, 0, rfl⟩
theorem dPut_great (v : Value) (x n : Nat) (hn : n ≤ 56) (hx : 2 ^ n ≤ x) (w : World) :
    Calls Tryz.prog 53 #[v, .int .u64 x, .int .i64 n] w fun e w' => e = .returned (.tuple #[v, .int .i64 2]) ∧ ∃ k, w' = w.drewN k := by
  have hz : ((x : Int) / 2 ^ n != 0) = true := by
    have : (x : Int) / 2 ^ n = ((x / 2 ^ n : Nat) : Int) := by simp
    have h1 : 1 ≤ x / 2 ^ n := (Nat.le_div_iff_mul_le (Nat.pow_pos (by decide))).2 (by omega)
    rw [this, bne_iff_ne]; omega
  clear hx
  go_enter Tryz.func53, Tryz.ntmps53
  go_wp2
  go_ret2
  exact ⟨rfl, 0, rfl⟩
end Go.Proofs.YtmhjmoeeahepaaaGreat
