/- Layer 22: descend. -/
import Derived.Test.YtgoplbngfinbdaaN4
namespace Go.Proofs.Ytgoplbngfinbdaa
open Go.ChangeShapes Go.WideShapes Go.ChangeAt Go.RowKit
set_option linter.unusedVariables false
set_option linter.unusedSimpArgs false
set_option maxRecDepth 100000
theorem cell_other (V : World) (g A j : Nat) (h : A ≠ j) (u : Value) : (V.setCell ⟨g, A, none⟩ u).cell? ⟨g, j, none⟩ = V.cell? ⟨g, j, none⟩ :=
  World.cell?_setCell_other _ _ _ _ (by intro e; injection e; contradiction)
theorem IsG.low {N : Nat} {w w' : World} {g g1 g2 B : Nat} {L : List UInt8} {W D at_ m : Nat} {tp lk : List Int} (h : IsG N w g g1 g2 L W D at_ m tp lk) (hb : Below B w w') (l0 : g < B) (l1 : g1 < B) (l2 : g2 < B) : IsG N w' g g1 g2 L W D at_ m tp lk :=
  ⟨(hb.block _ l0).trans h.box, (hb.block _ l1).trans h.ta, (hb.block _ l2).trans h.tb, h.tl, h.ll, h.n1, h.n2, h.n12⟩
theorem Keeps.low {S : Nat → Prop} {a b c : World} (h : Keeps S a b) (hb : Below a.heap.size b c) : Keeps S a c :=
  ⟨hb.os.trans h.os, hb.tape.trans h.tape, hb.output.trans h.output, Nat.le_trans h.size hb.size, fun k hk hs => (hb.block k hk).trans (h.block k hk hs)⟩
set_option maxHeartbeats 12800000 in
theorem cDescend (NN : Nat) (w : World) (g g1 g2 : Nat) (L : List UInt8) (W D i m most : Nat) (tp lk : List Int) (h : IsG NN w g g1 g2 L W D (i + 1) m tp lk) (hbd : bdL i lk) (hL : L.length ≤ 100000) (hi : i + 1 < L.length) (hW : 1 ≤ W) (hW2 : (W : Int) ≤ 67108864) (hm0 : 0 < m) (hm1 : m ≤ L.length) (hD2 : (D : Int) ≤ 1000000) (hmo : 2 ≤ most) (hmo2 : most ≤ 258) (x : Nat) (hx : x ≤ i) (whole : Nat) (hwh : min 258 (L.length - i) = whole)
    (hok : okD L i (i - W) m whole D lk (i % m * 2) (i % m * 2 + 1) x 0 0) (R : List Int × List Mt) (hR : desc L i (i - W) m most whole D lk (i % m * 2) (i % m * 2 + 1) x 1 [] = R) :
    Calls Try.prog 62 #[.pointer (some ⟨g, 0, none⟩), .int .i64 i, .int .i64 ((x : Int) - 1), .int .i64 most] w fun e w' => ∃ v, e = .returned v ∧ OwnMt w.heap.size w' v R.2 ∧ IsG NN w' g g1 g2 L W D (i + 1) m tp R.1 ∧ Keeps (feetF g g1 g2) w w' := by
  have hS : (sM L).size = L.length := sM_size L
  have c0 := cell_lit h.box 0 _ rfl
  have c1 := cell_lit h.box 1 _ rfl
  have c2 := cell_lit h.box 2 _ rfl
  have hglt := block_lt h.box
  have hg2lt := block_lt h.tb
  have hg1lt := block_lt h.ta
  have HF := Lib.hid h
  have HBD := Lib.hid hbd
  have HOK := Lib.hid hok
  have HR := Lib.hid hR
  obtain ⟨I0, hI0⟩ : ∃ I0, i % m = I0 := ⟨_, rfl⟩
  have hI0m : I0 < m := by rw [← hI0]; exact Nat.mod_lt _ hm0
  have CO := Lib.hid (fun W' p lk' (h' : IsG NN W' g g1 g2 L W D (i + 1) m tp lk') (hp : p ≤ i) q (hq : p % m = q) => cOf NN W' g g1 g2 L W D (i + 1) m tp lk' h' p (by omega) hm0 (by omega) q hq)
  have CS := Lib.hid (fun W' k n (hk : k ≤ i) (hn : n ≤ cmn L i whole k) => cBShared L k i n whole W' (by omega) hk (by omega) (cmn L i whole k) rfl hn)
  have hif : (if ((L.length : Int) - i) < (258 : Int) then ((L.length : Int) - i) else (258 : Int)) = (whole : Int) := by split <;> omega
  have h0 : (i : Int) < L.length := by omega
  rw [hI0] at HOK HR
  have HI0 := Lib.hid hI0
  have HWH := Lib.hid hwh
  clear h hbd hok hR hI0 hwh
  go_enter Try.func62, Try.ntmps62
  go_wp2_with fail
  refine (CO.out w i lk HF.out (Nat.le_refl _) I0 HI0.out).mono ?_; rintro e w1 ⟨rfl, q1, rfl⟩
  go_wp2_with fail
  go_quiet (fail)
  go_wp2_with fail
  clear c0 c1 c2 hif
  go_loopw [2, 9, 11, 13, 14, 15, 16, 17] (fun pl o b la ma nl nm lf wr => ∃ (f x best nL nM A B : Nat) (lk' : List Int) (O : List Mt), pl = .int .i64 ((x : Int) - 1) ∧ b = .int .i64 best ∧ la = .pointer (some ⟨g2, A, none⟩) ∧ ma = .pointer (some ⟨g2, B, none⟩) ∧ nl = .int .i64 nL ∧ nm = .int .i64 nM ∧ lf = .int .i64 f ∧ f ≤ D ∧ x ≤ i ∧ O.length ≤ best ∧ best ≤ 258 ∧ nL ≤ 258 ∧ nM ≤ 258 ∧ Hid (okD L i (i - W) m whole f lk' A B x nL nM) ∧ Hid (desc L i (i - W) m most whole f lk' A B x best O = R) ∧ Hid (bdL i lk') ∧ Hid (IsG NN wr g g1 g2 L W D (i + 1) m tp lk') ∧ Hid (OwnMt w.heap.size wr o O) ∧ Hid (Keeps (feetF g g1 g2) w wr)) (fun _ _ _ _ _ _ _ lf _ => (intOf lf).toNat)
  case atStart => exact ⟨D, x, 1, 0, 0, I0 * 2, I0 * 2 + 1, lk, [], rfl, rfl, rfl, rfl, rfl, rfl, rfl, Nat.le_refl _, hx, by simp, by decide, by decide, by decide, HOK, HR, HBD, Lib.hid (HF.out.drewN _), Lib.hid OwnS.nil, Lib.hid ((Keeps.refl _ _).drewN _)⟩
  case round =>
    clear hx
    obtain ⟨f, x, best, nL, nM, A, B, lk', O, rfl, rfl, rfl, rfl, rfl, rfl, rfl, hf, hx, hOb, hb, hnL, hnM, HOK, HR, HBD, HF, HO, HKp⟩ := hrel
    obtain ⟨va, vc, rfl⟩ := HO.out.slice
    obtain ⟨hAB, hA, hB⟩ := okD_ab HOK.out
    have HF0 := HF.out
    have b0 := cell_lit HF.out.box 0 _ rfl
    have b1 := cell_lit HF.out.box 1 _ rfl
    have hgw := block_lt HF.out.box
    have hg2w := block_lt HF.out.tb
    by_cases hz : f = 0 ∨ x = 0 ∨ x ≤ i - W
    · have e9 : R = ((lk'.set A 0).set B 0, O) := by
        rw [← HR.out]
        cases f with
        | zero => rfl
        | succ f => rw [desc, if_pos (by omega)]
      have cA := HF.out.tb.cell A (by rw [HF.out.ll]; exact hA)
      have cB := HF.out.tb.cell B (by rw [HF.out.ll]; exact hB)
      have fA := HF.out.tb.free A
      have fB := HF.out.tb.free B
      have hBA : B ≠ A := hAB.symm
      have HE := Lib.hid e9
      have HF2 := Lib.hid (show IsG NN ((wr.setCell ⟨g2, A, none⟩ (.int .i32 0)).setCell ⟨g2, B, none⟩ (.int .i32 0)) g g1 g2 L W D (i + 1) m tp R.1 by rw [HE.out]; exact (HF.out.step_lk A 0).step_lk B 0)
      have HO2 := Lib.hid (show OwnMt w.heap.size ((wr.setCell ⟨g2, A, none⟩ (.int .i32 0)).setCell ⟨g2, B, none⟩ (.int .i32 0)) (.slice va O.length vc) R.2 by rw [HE.out]; exact (HO.out.setLow hg2lt _).setLow hg2lt _)
      have HK2 := Lib.hid (show Keeps (feetF g g1 g2) w ((wr.setCell ⟨g2, A, none⟩ (.int .i32 0)).setCell ⟨g2, B, none⟩ (.int .i32 0)) from (HKp.out.setCell (p := ⟨g2, A, none⟩) (.inr (by exact Or.inr (Or.inr rfl))) _).setCell (p := ⟨g2, B, none⟩) (.inr (by exact Or.inr (Or.inr rfl))) _)
      clear e9 HOK HR HBD HF HO HKp HF0
      by_cases h1 : f = 0
      · subst h1
        go_wp2_with fail
        go_ret
        exact ⟨_, rfl, HO2.out, HF2.out, HK2.out⟩
      · have h1i : (0 : Int) < f := by omega
        by_cases h2 : x = 0
        · subst h2
          go_wp2_with fail
          go_ret
          exact ⟨_, rfl, HO2.out, HF2.out, HK2.out⟩
        · obtain ⟨p, rfl⟩ : ∃ p, x = p + 1 := ⟨x - 1, by omega⟩
          have e1 : ((p + 1 : Nat) : Int) - 1 = (p : Int) := by omega
          have e2 : ¬ (i : Int) - p ≤ W := by omega
          go_wp2_with fail
          go_ret
          exact ⟨_, rfl, HO2.out, HF2.out, HK2.out⟩
    · obtain ⟨f, rfl⟩ : ∃ f', f = f' + 1 := ⟨f - 1, by omega⟩
      obtain ⟨p, rfl⟩ : ∃ p, x = p + 1 := ⟨x - 1, by omega⟩
      have hlive : ¬ p + 1 ≤ i - W := by omega
      have e1 : ((p + 1 : Nat) : Int) - 1 = (p : Int) := by omega
      rw [e1]
      have hp0 : (0 : Int) ≤ (p : Int) := by omega
      have hlf : (0 : Int) < ((f + 1 : Nat) : Int) := by omega
      have hwi : (i : Int) - p ≤ W := by omega
      obtain ⟨d, hd⟩ : ∃ d, i - p = d := ⟨_, rfl⟩
      have hdi : (i : Int) - p = (d : Int) := by omega
      obtain ⟨q, hq⟩ : ∃ q, p % m = q := ⟨_, rfl⟩
      have hqm : q < m := by rw [← hq]; exact Nat.mod_lt _ hm0
      obtain ⟨C, hC⟩ : ∃ C, cmn L i whole p = C := ⟨_, rfl⟩
      have ok := HOK.out
      have dr := HR.out
      rw [okD] at ok
      rw [desc, if_neg hlive] at dr
      simp only [Nat.add_sub_cancel] at ok dr
      rw [hq, hC] at ok dr
      have hcast : ((p + 1 : Nat) : Int) = (p : Int) + 1 := by omega
      rw [hcast] at ok dr
      obtain ⟨-, ok⟩ := ok
      rcases ok with ok | ⟨hpi, hmin, hAq, ok⟩
      · omega
      obtain ⟨n0, hn0⟩ : ∃ n0, min nL nM = n0 := ⟨_, rfl⟩
      rw [hn0] at hmin
      have hm1 : (if (nM : Int) < nL then (nM : Int) else nL) = (n0 : Int) := by split <;> omega
      have hm2 : (if nM < nL then (nM : Int) else nL) = (n0 : Int) := by split <;> omega
      obtain ⟨G, hG⟩ : ∃ G, min C most = G := ⟨_, rfl⟩
      rw [hG] at dr
      have hg1 : (if (most : Int) < C then (most : Int) else C) = (G : Int) := by split <;> omega
      have hg2 : (if most < C then (most : Int) else C) = (G : Int) := by split <;> omega
      have CO1 := Lib.hid (CO.out wr p lk' HF.out (by omega) q hq)
      have CS1 := Lib.hid (fun W' => CS.out W' p n0 (by omega) (by rw [hC]; exact hmin))
      rw [hC] at CS1
      have hCw : C ≤ whole := by rw [← hC]; exact Nat.min_le_right _ _
      have HOKn := Lib.hid ok
      have HDR := Lib.hid dr
      have HAQ := Lib.hid hAq
      have hNO : (told i p G best O).length ≤ max best G ∧ max best G ≤ 258 := by
        unfold told
        split
        · rw [List.length_append]; simp; omega
        · omega
      obtain ⟨O2, hO2⟩ : ∃ O2, told i p G best O = O2 := ⟨_, rfl⟩
      obtain ⟨best2, hb2⟩ : ∃ b2, max best G = b2 := ⟨_, rfl⟩
      rw [hO2, hb2] at HDR hNO
      have HO2 := Lib.hid (show O2 = if best < G then O ++ [((G : Int), (d : Int))] else O by rw [← hO2, ← hd]; rfl)
      have HNO := Lib.hid hNO
      have HBB := Lib.hid hb2
      clear ok dr HOK HR hz hlive hC hq hn0 hmin hG hm1 hd HF0 hAq hO2 hNO hb2
      go_wp2_with fail
      refine CO1.out.mono ?_; rintro e w1 ⟨rfl, q1, rfl⟩
      have HF := Lib.hid (HF.out.drewN q1)
      have HO := Lib.hid (HO.out.drewN q1)
      have HKp := Lib.hid (HKp.out.drewN q1)
      generalize wr.drewN q1 = w1 at *
      clear CO1 b0 b1 hgw hg2w
      have b0 := cell_lit HF.out.box 0 _ rfl
      have hgw := block_lt HF.out.box
      go_wp2_with fail
      refine (CS1.out _).mono ?_; rintro e w2 ⟨rfl, hb2⟩
      have HF2 := Lib.hid (HF.out.kept hb2)
      have HO3 := Lib.hid (HO.out.kept hb2)
      have HKp2 := Lib.hid (HKp.out.trans (Keeps.of_below (S := feetF g g1 g2) hb2))
      have HBs := Lib.hid (show w.heap.size ≤ w2.heap.size from HKp2.out.size)
      clear hb2 CS1 HF HO HKp b0 hgw
      obtain ⟨a, ha⟩ : ∃ a : Nat, lk'.getD (q * 2) 0 = (a : Int) := ⟨_, (Int.toNat_of_nonneg (HBD.out (q * 2)).1).symm⟩
      obtain ⟨b, hb⟩ : ∃ b : Nat, lk'.getD (q * 2 + 1) 0 = (b : Int) := ⟨_, (Int.toNat_of_nonneg (HBD.out (q * 2 + 1)).1).symm⟩
      have hq0 := HF2.out.tb.cell (q * 2) (by rw [HF2.out.ll]; omega)
      rw [ha] at hq0
      have hq1 := HF2.out.tb.cell (q * 2 + 1) (by rw [HF2.out.ll]; omega)
      rw [hb] at hq1
      have b0 := cell_lit HF2.out.box 0 _ rfl
      have hgw := block_lt HF2.out.box
      have ba := HBD.out (q * 2)
      have bb := HBD.out (q * 2 + 1)
      rw [ha] at ba
      rw [hb] at bb
      rw [ha, hb, Int.toNat_natCast, Int.toNat_natCast] at HOKn HDR
      by_cases hE : C = whole
      · subst hE
        clear HOKn ha hb
        by_cases hT : best < G
        · have hTl : (best : Int) < G := by omega
          have e2 := HO2.out
          rw [if_pos hT] at e2
          have HLn := Lib.hid (show O.length ≤ 1099511627776 by omega)
          clear hT
          have hbe : best2 = G := by have := HBB.out; omega
          obtain rfl : best2 = G := hbe
          go_wp2_with (at_builtin; refine app_mt rfl _ _ rfl w.heap.size _ (.slice va O.length vc) O ((best2 : Int), (d : Int)) rfl HO3.out w2.heap.size 1 rfl rfl HLn.out HBs.out ?_; intro v5 w5 ho5 hb5 hg5; have hq50 := (hb5.cell (p := ⟨g2, q * 2, none⟩) hg2lt).trans hq0; have hq51 := (hb5.cell (p := ⟨g2, q * 2 + 1, none⟩) hg2lt).trans hq1)
          have HF5 := Lib.hid (HF2.out.low hb5 hglt hg1lt hg2lt)
          have HKp5 := Lib.hid (HKp2.out.low hb5)
          have HO5 := Lib.hid (show OwnMt w.heap.size w5 v5 O2 by rw [e2]; exact ho5)
          clear e2 hq0 hq1 hg5 ho5 hb5 HF2 HKp2 HO3
          have hq0 := hq50
          have hq1 := hq51
          clear hq50 hq51
          have cA := HF5.out.tb.cell A (by rw [HF5.out.ll]; exact hA)
          have cB := HF5.out.tb.cell B (by rw [HF5.out.ll]; exact hB)
          have fA := HF5.out.tb.free A
          have fB := HF5.out.tb.free B
          have hBA : B ≠ A := hAB.symm
          obtain ⟨z1, z2, z3, z4⟩ := HAQ.out
          have z1' := z1.symm
          have z2' := z2.symm
          have z3' := z3.symm
          have z4' := z4.symm
          have H0 := Lib.hid (And.intro hq0 hq1)
          have H1 := Lib.hid (And.intro ((cell_other w5 g2 A (q * 2) z1 (.int .i32 a)).trans hq0) ((cell_other w5 g2 A (q * 2 + 1) z2 (.int .i32 a)).trans hq1))
          have H2 := Lib.hid (And.intro ((cell_other w5 g2 B (q * 2) z3 (.int .i32 b)).trans hq0) ((cell_other w5 g2 B (q * 2 + 1) z4 (.int .i32 b)).trans hq1))
          have H3 := Lib.hid (And.intro ((cell_other (w5.setCell ⟨g2, A, none⟩ (.int .i32 a)) g2 B (q * 2) z3 (.int .i32 b)).trans H1.out.1) ((cell_other (w5.setCell ⟨g2, A, none⟩ (.int .i32 a)) g2 B (q * 2 + 1) z4 (.int .i32 b)).trans H1.out.2))
          have eR : R = ((lk'.set A a).set B b, O2) := by rw [← HDR.out]; exact if_pos trivial
          have HF9 := Lib.hid (show IsG NN ((w5.setCell ⟨g2, A, none⟩ (.int .i32 a)).setCell ⟨g2, B, none⟩ (.int .i32 b)) g g1 g2 L W D (i + 1) m tp R.1 by rw [eR]; exact (HF5.out.step_lk A a).step_lk B b)
          have HO9 := Lib.hid (show OwnMt w.heap.size ((w5.setCell ⟨g2, A, none⟩ (.int .i32 a)).setCell ⟨g2, B, none⟩ (.int .i32 b)) _ R.2 by rw [eR]; exact (HO5.out.setLow hg2lt _).setLow hg2lt _)
          have HK9 := Lib.hid (show Keeps (feetF g g1 g2) w ((w5.setCell ⟨g2, A, none⟩ (.int .i32 a)).setCell ⟨g2, B, none⟩ (.int .i32 b)) from (HKp5.out.setCell (p := ⟨g2, A, none⟩) (.inr (by exact Or.inr (Or.inr rfl))) _).setCell (p := ⟨g2, B, none⟩) (.inr (by exact Or.inr (Or.inr rfl))) _)
          clear eR HDR HF5 HKp5 HO5 HAQ HO2 HBB HNO
          go_region_held3 (fun V => V.cell? ⟨g2, q * 2, none⟩ = some (.int .i32 a) ∧ V.cell? ⟨g2, q * 2 + 1, none⟩ = some (.int .i32 b)) (first | exact H0.out | exact H1.out | exact H2.out | exact H3.out) (fail)
          simp only [Exit.then]
          rename_i hK hHeld
          refine hK _ _ ?_
          clear hK hHeld
          go_wp2_with fail
          go_ret
          exact ⟨_, rfl, HO9.out.drew, HF9.out.drewN 1, HK9.out.drewN 1⟩
        · have hTl : ¬ (best : Int) < G := by omega
          have e2 := HO2.out
          rw [if_neg hT] at e2
          have HO4 := Lib.hid (show OwnMt w.heap.size w2 (.slice va O.length vc) O2 by rw [e2]; exact HO3.out)
          have hbe : best = best2 := by have := HBB.out; omega
          clear hT e2 HO3
          go_wp2_with fail
          have cA := HF2.out.tb.cell A (by rw [HF2.out.ll]; exact hA)
          have cB := HF2.out.tb.cell B (by rw [HF2.out.ll]; exact hB)
          have fA := HF2.out.tb.free A
          have fB := HF2.out.tb.free B
          have hBA : B ≠ A := hAB.symm
          obtain ⟨z1, z2, z3, z4⟩ := HAQ.out
          have z1' := z1.symm
          have z2' := z2.symm
          have z3' := z3.symm
          have z4' := z4.symm
          have H0 := Lib.hid (And.intro hq0 hq1)
          have H1 := Lib.hid (And.intro ((cell_other w2 g2 A (q * 2) z1 (.int .i32 a)).trans hq0) ((cell_other w2 g2 A (q * 2 + 1) z2 (.int .i32 a)).trans hq1))
          have H2 := Lib.hid (And.intro ((cell_other w2 g2 B (q * 2) z3 (.int .i32 b)).trans hq0) ((cell_other w2 g2 B (q * 2 + 1) z4 (.int .i32 b)).trans hq1))
          have H3 := Lib.hid (And.intro ((cell_other (w2.setCell ⟨g2, A, none⟩ (.int .i32 a)) g2 B (q * 2) z3 (.int .i32 b)).trans H1.out.1) ((cell_other (w2.setCell ⟨g2, A, none⟩ (.int .i32 a)) g2 B (q * 2 + 1) z4 (.int .i32 b)).trans H1.out.2))
          have eR : R = ((lk'.set A a).set B b, O2) := by rw [← HDR.out]; exact if_pos trivial
          have HF9 := Lib.hid (show IsG NN ((w2.setCell ⟨g2, A, none⟩ (.int .i32 a)).setCell ⟨g2, B, none⟩ (.int .i32 b)) g g1 g2 L W D (i + 1) m tp R.1 by rw [eR]; exact (HF2.out.step_lk A a).step_lk B b)
          have HO9 := Lib.hid (show OwnMt w.heap.size ((w2.setCell ⟨g2, A, none⟩ (.int .i32 a)).setCell ⟨g2, B, none⟩ (.int .i32 b)) _ R.2 by rw [eR]; exact (HO4.out.setLow hg2lt _).setLow hg2lt _)
          have HK9 := Lib.hid (show Keeps (feetF g g1 g2) w ((w2.setCell ⟨g2, A, none⟩ (.int .i32 a)).setCell ⟨g2, B, none⟩ (.int .i32 b)) from (HKp2.out.setCell (p := ⟨g2, A, none⟩) (.inr (by exact Or.inr (Or.inr rfl))) _).setCell (p := ⟨g2, B, none⟩) (.inr (by exact Or.inr (Or.inr rfl))) _)
          clear eR HDR HF2 HKp2 HO4 HAQ HO2 HBB HNO
          go_region_held3 (fun V => V.cell? ⟨g2, q * 2, none⟩ = some (.int .i32 a) ∧ V.cell? ⟨g2, q * 2 + 1, none⟩ = some (.int .i32 b)) (first | exact H0.out | exact H1.out | exact H2.out | exact H3.out) (fail)
          simp only [Exit.then]
          rename_i hK hHeld
          refine hK _ _ ?_
          clear hK hHeld
          go_wp2_with fail
          go_ret
          exact ⟨_, rfl, HO9.out.drew, HF9.out.drewN 1, HK9.out.drewN 1⟩
      · clear ha hb
        by_cases hT : best < G
        · have hTl : (best : Int) < G := by omega
          have e2 := HO2.out
          rw [if_pos hT] at e2
          have HLn := Lib.hid (show O.length ≤ 1099511627776 by omega)
          clear hT
          have hbe : best2 = G := by have := HBB.out; omega
          obtain rfl : best2 = G := hbe
          go_wp2_with (at_builtin; refine app_mt rfl _ _ rfl w.heap.size _ (.slice va O.length vc) O ((best2 : Int), (d : Int)) rfl HO3.out w2.heap.size 1 rfl rfl HLn.out HBs.out ?_; intro v5 w5 ho5 hb5 hg5; have hq50 := (hb5.cell (p := ⟨g2, q * 2, none⟩) hg2lt).trans hq0; have hq51 := (hb5.cell (p := ⟨g2, q * 2 + 1, none⟩) hg2lt).trans hq1)
          · have HF5 := Lib.hid (HF2.out.low hb5 hglt hg1lt hg2lt)
            have HKp5 := Lib.hid (HKp2.out.low hb5)
            have HO5 := Lib.hid (show OwnMt w.heap.size w5 v5 O2 by rw [e2]; exact ho5)
            clear e2 hq0 hq1 hg5 ho5 hb5 HF2 HKp2 HO3
            have hq0 := hq50
            have hq1 := hq51
            clear hq50 hq51
            have cA := HF5.out.tb.cell A (by rw [HF5.out.ll]; exact hA)
            have cB := HF5.out.tb.cell B (by rw [HF5.out.ll]; exact hB)
            have fA := HF5.out.tb.free A
            have fB := HF5.out.tb.free B
            have hBA : B ≠ A := hAB.symm
            obtain ⟨z1, z2, z3, z4⟩ := HAQ.out
            have z1' := z1.symm
            have z2' := z2.symm
            have z3' := z3.symm
            have z4' := z4.symm
            have hwl := HWH.out
            have hpC : p + C < L.length := by omega
            have hiC : i + C < L.length := by omega
            have x1 := ixM L ((p : Int) + C) (p + C) (by omega) hpC
            have x2 := ixM L ((i : Int) + C) (i + C) (by omega) hiC
            obtain ⟨Y, hY⟩ : ∃ Y, L.getD (p + C) 0 = Y := ⟨_, rfl⟩
            obtain ⟨Z, hZ⟩ : ∃ Z, L.getD (i + C) 0 = Z := ⟨_, rfl⟩
            rw [hY] at x1
            rw [hZ] at x2
            have hltb : ltB L i C p = decide (Y.toNat < Z.toNat) := by unfold ltB; rw [hY, hZ]
            have hNO := HNO.out
            have b0 := cell_lit HF5.out.box 0 _ rfl
            have hgw := block_lt HF5.out.box
            by_cases hYZ : Y.toNat < Z.toNat
            · have hyz : (Y.toNat : Int) < Z.toNat := by omega
              have hlb : ltB L i C p = true := by rw [hltb]; exact decide_eq_true hYZ
              have eDR : desc L i (i - W) m most whole f (lk'.set A ((p : Int) + 1)) (q * 2 + 1) B b best2 O2 = R := by
                have := HDR.out
                rw [if_neg hE, if_pos hlb] at this
                exact this
              have eOK : okD L i (i - W) m whole f (lk'.set A ((p : Int) + 1)) (q * 2 + 1) B b C nM := by
                rcases HOKn.out with h | ⟨h1, h2⟩ | ⟨h1, h2⟩
                · exact absurd h hE
                · exact h2
                · rw [hlb] at h1; cases h1
              clear HDR HOKn
              have HDR := Lib.hid eDR
              have HOKn := Lib.hid eOK
              have HBD2 := Lib.hid (show bdL i (lk'.set A ((p : Int) + 1)) from by have := HBD.out.set A (p + 1) hx; rwa [hcast] at this)
              have H1 := Lib.hid ((cell_other w5 g2 A (q * 2 + 1) z2 (.int .i32 ((p : Int) + 1))).trans hq1)
              clear eDR eOK hltb hlb hYZ hY hZ HAQ HBD
              have fq := HF5.out.tb.free (q * 2 + 1)
              have hb0 : b = 0 := by assumption
              subst hb0
              have e9 : R = (((lk'.set A ((p : Int) + 1)).set (q * 2 + 1) 0).set B 0, O2) := by
                rw [← HDR.out]
                cases f with
                | zero => rfl
                | succ f => rw [desc, if_pos (Nat.zero_le _)]
              have HE9 := Lib.hid e9
              clear e9 HDR HOKn HBD2
              go_quiet (fail)
              go_wp2_with fail
              go_quiet (fail)
              go_wp2_with fail
              go_ret
              rw [HE9.out]
              exact ⟨_, rfl, ((((HO5.out.drewN _).setLow (p := ⟨g2, A, none⟩) hg2lt _).drewN _).setLow (p := ⟨g2, q * 2 + 1, none⟩) hg2lt _).setLow (p := ⟨g2, B, none⟩) hg2lt _, ((((HF5.out.drewN _).step_lk A _).drewN _).step_lk (q * 2 + 1) 0).step_lk B 0, ((((HKp5.out.drewN _).setCell (p := ⟨g2, A, none⟩) (.inr (by exact Or.inr (Or.inr rfl))) _).drewN _).setCell (p := ⟨g2, q * 2 + 1, none⟩) (.inr (by exact Or.inr (Or.inr rfl))) _).setCell (p := ⟨g2, B, none⟩) (.inr (by exact Or.inr (Or.inr rfl))) _⟩
            · have hyz : ¬ (Y.toNat : Int) < Z.toNat := by omega
              have hlb : ltB L i C p = false := by rw [hltb]; exact decide_eq_false hYZ
              have eDR : desc L i (i - W) m most whole f (lk'.set B ((p : Int) + 1)) A (q * 2) a best2 O2 = R := by
                have := HDR.out
                rw [if_neg hE, if_neg (by rw [hlb]; decide)] at this
                exact this
              have eOK : okD L i (i - W) m whole f (lk'.set B ((p : Int) + 1)) A (q * 2) a nL C := by
                rcases HOKn.out with h | ⟨h1, h2⟩ | ⟨h1, h2⟩
                · exact absurd h hE
                · rw [hlb] at h1; cases h1
                · exact h2
              clear HDR HOKn
              have HDR := Lib.hid eDR
              have HOKn := Lib.hid eOK
              have HBD2 := Lib.hid (show bdL i (lk'.set B ((p : Int) + 1)) from by have := HBD.out.set B (p + 1) hx; rwa [hcast] at this)
              have H1 := Lib.hid ((cell_other w5 g2 B (q * 2) z3 (.int .i32 ((p : Int) + 1))).trans hq0)
              clear eDR eOK hltb hlb hYZ hY hZ HAQ HBD
              have fq := HF5.out.tb.free (q * 2)
              have ha0 : a = 0 := by assumption
              subst ha0
              have e9 : R = (((lk'.set B ((p : Int) + 1)).set A 0).set (q * 2) 0, O2) := by
                rw [← HDR.out]
                cases f with
                | zero => rfl
                | succ f => rw [desc, if_pos (Nat.zero_le _)]
              have HE9 := Lib.hid e9
              clear e9 HDR HOKn HBD2
              go_quiet (fail)
              go_wp2_with fail
              go_quiet (fail)
              go_wp2_with fail
              go_ret
              rw [HE9.out]
              exact ⟨_, rfl, ((((HO5.out.drewN _).setLow (p := ⟨g2, B, none⟩) hg2lt _).drewN _).setLow (p := ⟨g2, A, none⟩) hg2lt _).setLow (p := ⟨g2, q * 2, none⟩) hg2lt _, ((((HF5.out.drewN _).step_lk B _).drewN _).step_lk A 0).step_lk (q * 2) 0, ((((HKp5.out.drewN _).setCell (p := ⟨g2, B, none⟩) (.inr (by exact Or.inr (Or.inr rfl))) _).drewN _).setCell (p := ⟨g2, A, none⟩) (.inr (by exact Or.inr (Or.inr rfl))) _).setCell (p := ⟨g2, q * 2, none⟩) (.inr (by exact Or.inr (Or.inr rfl))) _⟩
          · have HF5 := Lib.hid (HF2.out.low hb5 hglt hg1lt hg2lt)
            have HKp5 := Lib.hid (HKp2.out.low hb5)
            have HO5 := Lib.hid (show OwnMt w.heap.size w5 v5 O2 by rw [e2]; exact ho5)
            clear e2 hq0 hq1 hg5 ho5 hb5 HF2 HKp2 HO3
            have hq0 := hq50
            have hq1 := hq51
            clear hq50 hq51
            have cA := HF5.out.tb.cell A (by rw [HF5.out.ll]; exact hA)
            have cB := HF5.out.tb.cell B (by rw [HF5.out.ll]; exact hB)
            have fA := HF5.out.tb.free A
            have fB := HF5.out.tb.free B
            have hBA : B ≠ A := hAB.symm
            obtain ⟨z1, z2, z3, z4⟩ := HAQ.out
            have z1' := z1.symm
            have z2' := z2.symm
            have z3' := z3.symm
            have z4' := z4.symm
            have hwl := HWH.out
            have hpC : p + C < L.length := by omega
            have hiC : i + C < L.length := by omega
            have x1 := ixM L ((p : Int) + C) (p + C) (by omega) hpC
            have x2 := ixM L ((i : Int) + C) (i + C) (by omega) hiC
            obtain ⟨Y, hY⟩ : ∃ Y, L.getD (p + C) 0 = Y := ⟨_, rfl⟩
            obtain ⟨Z, hZ⟩ : ∃ Z, L.getD (i + C) 0 = Z := ⟨_, rfl⟩
            rw [hY] at x1
            rw [hZ] at x2
            have hltb : ltB L i C p = decide (Y.toNat < Z.toNat) := by unfold ltB; rw [hY, hZ]
            have hNO := HNO.out
            have b0 := cell_lit HF5.out.box 0 _ rfl
            have hgw := block_lt HF5.out.box
            by_cases hYZ : Y.toNat < Z.toNat
            · have hyz : (Y.toNat : Int) < Z.toNat := by omega
              have hlb : ltB L i C p = true := by rw [hltb]; exact decide_eq_true hYZ
              have eDR : desc L i (i - W) m most whole f (lk'.set A ((p : Int) + 1)) (q * 2 + 1) B b best2 O2 = R := by
                have := HDR.out
                rw [if_neg hE, if_pos hlb] at this
                exact this
              have eOK : okD L i (i - W) m whole f (lk'.set A ((p : Int) + 1)) (q * 2 + 1) B b C nM := by
                rcases HOKn.out with h | ⟨h1, h2⟩ | ⟨h1, h2⟩
                · exact absurd h hE
                · exact h2
                · rw [hlb] at h1; cases h1
              clear HDR HOKn
              have HDR := Lib.hid eDR
              have HOKn := Lib.hid eOK
              have HBD2 := Lib.hid (show bdL i (lk'.set A ((p : Int) + 1)) from by have := HBD.out.set A (p + 1) hx; rwa [hcast] at this)
              have H1 := Lib.hid ((cell_other w5 g2 A (q * 2 + 1) z2 (.int .i32 ((p : Int) + 1))).trans hq1)
              clear eDR eOK hltb hlb hYZ hY hZ HAQ HBD
              have fq := HF5.out.tb.free (q * 2 + 1)
              go_quiet (fail)
              go_wp2_with fail
              go_quiet (fail)
              go_wp2_with fail
              go_roundw
              case rel => exact ⟨f, b, best2, C, nM, q * 2 + 1, B, _, O2, by go_num, rfl, rfl, rfl, rfl, rfl, by go_num, by omega, by omega, hNO.1, hNO.2, by omega, by omega, HOKn, HDR, HBD2, Lib.hid (((HF5.out.drewN _).step_lk A _).drewN _), Lib.hid (((HO5.out.drewN _).setLow (p := ⟨g2, A, none⟩) hg2lt _).drewN _), Lib.hid (((HKp5.out.drewN _).setCell (p := ⟨g2, A, none⟩) (.inr (by exact Or.inr (Or.inr rfl))) _).drewN _)⟩
              case measure => simp [intOf] <;> omega
            · have hyz : ¬ (Y.toNat : Int) < Z.toNat := by omega
              have hlb : ltB L i C p = false := by rw [hltb]; exact decide_eq_false hYZ
              have eDR : desc L i (i - W) m most whole f (lk'.set B ((p : Int) + 1)) A (q * 2) a best2 O2 = R := by
                have := HDR.out
                rw [if_neg hE, if_neg (by rw [hlb]; decide)] at this
                exact this
              have eOK : okD L i (i - W) m whole f (lk'.set B ((p : Int) + 1)) A (q * 2) a nL C := by
                rcases HOKn.out with h | ⟨h1, h2⟩ | ⟨h1, h2⟩
                · exact absurd h hE
                · rw [hlb] at h1; cases h1
                · exact h2
              clear HDR HOKn
              have HDR := Lib.hid eDR
              have HOKn := Lib.hid eOK
              have HBD2 := Lib.hid (show bdL i (lk'.set B ((p : Int) + 1)) from by have := HBD.out.set B (p + 1) hx; rwa [hcast] at this)
              have H1 := Lib.hid ((cell_other w5 g2 B (q * 2) z3 (.int .i32 ((p : Int) + 1))).trans hq0)
              clear eDR eOK hltb hlb hYZ hY hZ HAQ HBD
              have fq := HF5.out.tb.free (q * 2)
              go_quiet (fail)
              go_wp2_with fail
              go_quiet (fail)
              go_wp2_with fail
              go_roundw
              case rel => exact ⟨f, a, best2, nL, C, A, q * 2, _, O2, by go_num, rfl, rfl, rfl, rfl, rfl, by go_num, by omega, by omega, hNO.1, hNO.2, by omega, by omega, HOKn, HDR, HBD2, Lib.hid (((HF5.out.drewN _).step_lk B _).drewN _), Lib.hid (((HO5.out.drewN _).setLow (p := ⟨g2, B, none⟩) hg2lt _).drewN _), Lib.hid (((HKp5.out.drewN _).setCell (p := ⟨g2, B, none⟩) (.inr (by exact Or.inr (Or.inr rfl))) _).drewN _)⟩
              case measure => simp [intOf] <;> omega
          · have HF5 := Lib.hid (HF2.out.low hb5 hglt hg1lt hg2lt)
            have HKp5 := Lib.hid (HKp2.out.low hb5)
            have HO5 := Lib.hid (show OwnMt w.heap.size w5 v5 O2 by rw [e2]; exact ho5)
            clear e2 hq0 hq1 hg5 ho5 hb5 HF2 HKp2 HO3
            have hq0 := hq50
            have hq1 := hq51
            clear hq50 hq51
            have cA := HF5.out.tb.cell A (by rw [HF5.out.ll]; exact hA)
            have cB := HF5.out.tb.cell B (by rw [HF5.out.ll]; exact hB)
            have fA := HF5.out.tb.free A
            have fB := HF5.out.tb.free B
            have hBA : B ≠ A := hAB.symm
            obtain ⟨z1, z2, z3, z4⟩ := HAQ.out
            have z1' := z1.symm
            have z2' := z2.symm
            have z3' := z3.symm
            have z4' := z4.symm
            have hwl := HWH.out
            have hpC : p + C < L.length := by omega
            have hiC : i + C < L.length := by omega
            have x1 := ixM L ((p : Int) + C) (p + C) (by omega) hpC
            have x2 := ixM L ((i : Int) + C) (i + C) (by omega) hiC
            obtain ⟨Y, hY⟩ : ∃ Y, L.getD (p + C) 0 = Y := ⟨_, rfl⟩
            obtain ⟨Z, hZ⟩ : ∃ Z, L.getD (i + C) 0 = Z := ⟨_, rfl⟩
            rw [hY] at x1
            rw [hZ] at x2
            have hltb : ltB L i C p = decide (Y.toNat < Z.toNat) := by unfold ltB; rw [hY, hZ]
            have hNO := HNO.out
            have b0 := cell_lit HF5.out.box 0 _ rfl
            have hgw := block_lt HF5.out.box
            by_cases hYZ : Y.toNat < Z.toNat
            · have hyz : (Y.toNat : Int) < Z.toNat := by omega
              have hlb : ltB L i C p = true := by rw [hltb]; exact decide_eq_true hYZ
              have eDR : desc L i (i - W) m most whole f (lk'.set A ((p : Int) + 1)) (q * 2 + 1) B b best2 O2 = R := by
                have := HDR.out
                rw [if_neg hE, if_pos hlb] at this
                exact this
              have eOK : okD L i (i - W) m whole f (lk'.set A ((p : Int) + 1)) (q * 2 + 1) B b C nM := by
                rcases HOKn.out with h | ⟨h1, h2⟩ | ⟨h1, h2⟩
                · exact absurd h hE
                · exact h2
                · rw [hlb] at h1; cases h1
              clear HDR HOKn
              have HDR := Lib.hid eDR
              have HOKn := Lib.hid eOK
              have HBD2 := Lib.hid (show bdL i (lk'.set A ((p : Int) + 1)) from by have := HBD.out.set A (p + 1) hx; rwa [hcast] at this)
              have H1 := Lib.hid ((cell_other w5 g2 A (q * 2 + 1) z2 (.int .i32 ((p : Int) + 1))).trans hq1)
              clear eDR eOK hltb hlb hYZ hY hZ HAQ HBD
              have fq := HF5.out.tb.free (q * 2 + 1)
              go_quiet (fail)
              go_wp2_with fail
              go_quiet (fail)
              go_wp2_with fail
              go_roundw
              case rel => exact ⟨f, b, best2, C, nM, q * 2 + 1, B, _, O2, by go_num, rfl, rfl, rfl, rfl, rfl, by go_num, by omega, by omega, hNO.1, hNO.2, by omega, by omega, HOKn, HDR, HBD2, Lib.hid (((HF5.out.drewN _).step_lk A _).drewN _), Lib.hid (((HO5.out.drewN _).setLow (p := ⟨g2, A, none⟩) hg2lt _).drewN _), Lib.hid (((HKp5.out.drewN _).setCell (p := ⟨g2, A, none⟩) (.inr (by exact Or.inr (Or.inr rfl))) _).drewN _)⟩
              case measure => simp [intOf] <;> omega
            · have hyz : ¬ (Y.toNat : Int) < Z.toNat := by omega
              have hlb : ltB L i C p = false := by rw [hltb]; exact decide_eq_false hYZ
              have eDR : desc L i (i - W) m most whole f (lk'.set B ((p : Int) + 1)) A (q * 2) a best2 O2 = R := by
                have := HDR.out
                rw [if_neg hE, if_neg (by rw [hlb]; decide)] at this
                exact this
              have eOK : okD L i (i - W) m whole f (lk'.set B ((p : Int) + 1)) A (q * 2) a nL C := by
                rcases HOKn.out with h | ⟨h1, h2⟩ | ⟨h1, h2⟩
                · exact absurd h hE
                · rw [hlb] at h1; cases h1
                · exact h2
              clear HDR HOKn
              have HDR := Lib.hid eDR
              have HOKn := Lib.hid eOK
              have HBD2 := Lib.hid (show bdL i (lk'.set B ((p : Int) + 1)) from by have := HBD.out.set B (p + 1) hx; rwa [hcast] at this)
              have H1 := Lib.hid ((cell_other w5 g2 B (q * 2) z3 (.int .i32 ((p : Int) + 1))).trans hq0)
              clear eDR eOK hltb hlb hYZ hY hZ HAQ HBD
              have fq := HF5.out.tb.free (q * 2)
              go_quiet (fail)
              go_wp2_with fail
              go_quiet (fail)
              go_wp2_with fail
              go_roundw
              case rel => exact ⟨f, a, best2, nL, C, A, q * 2, _, O2, by go_num, rfl, rfl, rfl, rfl, rfl, by go_num, by omega, by omega, hNO.1, hNO.2, by omega, by omega, HOKn, HDR, HBD2, Lib.hid (((HF5.out.drewN _).step_lk B _).drewN _), Lib.hid (((HO5.out.drewN _).setLow (p := ⟨g2, B, none⟩) hg2lt _).drewN _), Lib.hid (((HKp5.out.drewN _).setCell (p := ⟨g2, B, none⟩) (.inr (by exact Or.inr (Or.inr rfl))) _).drewN _)⟩
              case measure => simp [intOf] <;> omega
        · have hTl : ¬ (best : Int) < G := by omega
          have e2 := HO2.out
          rw [if_neg hT] at e2
          have HO4 := Lib.hid (show OwnMt w.heap.size w2 (.slice va O.length vc) O2 by rw [e2]; exact HO3.out)
          have hbe : best = best2 := by have := HBB.out; omega
          clear hT e2 HO3
          go_wp2_with fail
          · have cA := HF2.out.tb.cell A (by rw [HF2.out.ll]; exact hA)
            have cB := HF2.out.tb.cell B (by rw [HF2.out.ll]; exact hB)
            have fA := HF2.out.tb.free A
            have fB := HF2.out.tb.free B
            have hBA : B ≠ A := hAB.symm
            obtain ⟨z1, z2, z3, z4⟩ := HAQ.out
            have z1' := z1.symm
            have z2' := z2.symm
            have z3' := z3.symm
            have z4' := z4.symm
            have hwl := HWH.out
            have hpC : p + C < L.length := by omega
            have hiC : i + C < L.length := by omega
            have x1 := ixM L ((p : Int) + C) (p + C) (by omega) hpC
            have x2 := ixM L ((i : Int) + C) (i + C) (by omega) hiC
            obtain ⟨Y, hY⟩ : ∃ Y, L.getD (p + C) 0 = Y := ⟨_, rfl⟩
            obtain ⟨Z, hZ⟩ : ∃ Z, L.getD (i + C) 0 = Z := ⟨_, rfl⟩
            rw [hY] at x1
            rw [hZ] at x2
            have hltb : ltB L i C p = decide (Y.toNat < Z.toNat) := by unfold ltB; rw [hY, hZ]
            have hNO := HNO.out
            have b0 := cell_lit HF2.out.box 0 _ rfl
            have hgw := block_lt HF2.out.box
            by_cases hYZ : Y.toNat < Z.toNat
            · have hyz : (Y.toNat : Int) < Z.toNat := by omega
              have hlb : ltB L i C p = true := by rw [hltb]; exact decide_eq_true hYZ
              have eDR : desc L i (i - W) m most whole f (lk'.set A ((p : Int) + 1)) (q * 2 + 1) B b best2 O2 = R := by
                have := HDR.out
                rw [if_neg hE, if_pos hlb] at this
                exact this
              have eOK : okD L i (i - W) m whole f (lk'.set A ((p : Int) + 1)) (q * 2 + 1) B b C nM := by
                rcases HOKn.out with h | ⟨h1, h2⟩ | ⟨h1, h2⟩
                · exact absurd h hE
                · exact h2
                · rw [hlb] at h1; cases h1
              clear HDR HOKn
              have HDR := Lib.hid eDR
              have HOKn := Lib.hid eOK
              have HBD2 := Lib.hid (show bdL i (lk'.set A ((p : Int) + 1)) from by have := HBD.out.set A (p + 1) hx; rwa [hcast] at this)
              have H1 := Lib.hid ((cell_other w2 g2 A (q * 2 + 1) z2 (.int .i32 ((p : Int) + 1))).trans hq1)
              clear eDR eOK hltb hlb hYZ hY hZ HAQ HBD
              have fq := HF2.out.tb.free (q * 2 + 1)
              have hb0 : b = 0 := by assumption
              subst hb0
              have e9 : R = (((lk'.set A ((p : Int) + 1)).set (q * 2 + 1) 0).set B 0, O2) := by
                rw [← HDR.out]
                cases f with
                | zero => rfl
                | succ f => rw [desc, if_pos (Nat.zero_le _)]
              have HE9 := Lib.hid e9
              clear e9 HDR HOKn HBD2
              go_quiet (fail)
              go_wp2_with fail
              go_quiet (fail)
              go_wp2_with fail
              go_ret
              rw [HE9.out]
              exact ⟨_, rfl, ((((HO4.out.drewN _).setLow (p := ⟨g2, A, none⟩) hg2lt _).drewN _).setLow (p := ⟨g2, q * 2 + 1, none⟩) hg2lt _).setLow (p := ⟨g2, B, none⟩) hg2lt _, ((((HF2.out.drewN _).step_lk A _).drewN _).step_lk (q * 2 + 1) 0).step_lk B 0, ((((HKp2.out.drewN _).setCell (p := ⟨g2, A, none⟩) (.inr (by exact Or.inr (Or.inr rfl))) _).drewN _).setCell (p := ⟨g2, q * 2 + 1, none⟩) (.inr (by exact Or.inr (Or.inr rfl))) _).setCell (p := ⟨g2, B, none⟩) (.inr (by exact Or.inr (Or.inr rfl))) _⟩
            · have hyz : ¬ (Y.toNat : Int) < Z.toNat := by omega
              have hlb : ltB L i C p = false := by rw [hltb]; exact decide_eq_false hYZ
              have eDR : desc L i (i - W) m most whole f (lk'.set B ((p : Int) + 1)) A (q * 2) a best2 O2 = R := by
                have := HDR.out
                rw [if_neg hE, if_neg (by rw [hlb]; decide)] at this
                exact this
              have eOK : okD L i (i - W) m whole f (lk'.set B ((p : Int) + 1)) A (q * 2) a nL C := by
                rcases HOKn.out with h | ⟨h1, h2⟩ | ⟨h1, h2⟩
                · exact absurd h hE
                · rw [hlb] at h1; cases h1
                · exact h2
              clear HDR HOKn
              have HDR := Lib.hid eDR
              have HOKn := Lib.hid eOK
              have HBD2 := Lib.hid (show bdL i (lk'.set B ((p : Int) + 1)) from by have := HBD.out.set B (p + 1) hx; rwa [hcast] at this)
              have H1 := Lib.hid ((cell_other w2 g2 B (q * 2) z3 (.int .i32 ((p : Int) + 1))).trans hq0)
              clear eDR eOK hltb hlb hYZ hY hZ HAQ HBD
              have fq := HF2.out.tb.free (q * 2)
              have ha0 : a = 0 := by assumption
              subst ha0
              have e9 : R = (((lk'.set B ((p : Int) + 1)).set A 0).set (q * 2) 0, O2) := by
                rw [← HDR.out]
                cases f with
                | zero => rfl
                | succ f => rw [desc, if_pos (Nat.zero_le _)]
              have HE9 := Lib.hid e9
              clear e9 HDR HOKn HBD2
              go_quiet (fail)
              go_wp2_with fail
              go_quiet (fail)
              go_wp2_with fail
              go_ret
              rw [HE9.out]
              exact ⟨_, rfl, ((((HO4.out.drewN _).setLow (p := ⟨g2, B, none⟩) hg2lt _).drewN _).setLow (p := ⟨g2, A, none⟩) hg2lt _).setLow (p := ⟨g2, q * 2, none⟩) hg2lt _, ((((HF2.out.drewN _).step_lk B _).drewN _).step_lk A 0).step_lk (q * 2) 0, ((((HKp2.out.drewN _).setCell (p := ⟨g2, B, none⟩) (.inr (by exact Or.inr (Or.inr rfl))) _).drewN _).setCell (p := ⟨g2, A, none⟩) (.inr (by exact Or.inr (Or.inr rfl))) _).setCell (p := ⟨g2, q * 2, none⟩) (.inr (by exact Or.inr (Or.inr rfl))) _⟩
          · have cA := HF2.out.tb.cell A (by rw [HF2.out.ll]; exact hA)
            have cB := HF2.out.tb.cell B (by rw [HF2.out.ll]; exact hB)
            have fA := HF2.out.tb.free A
            have fB := HF2.out.tb.free B
            have hBA : B ≠ A := hAB.symm
            obtain ⟨z1, z2, z3, z4⟩ := HAQ.out
            have z1' := z1.symm
            have z2' := z2.symm
            have z3' := z3.symm
            have z4' := z4.symm
            have hwl := HWH.out
            have hpC : p + C < L.length := by omega
            have hiC : i + C < L.length := by omega
            have x1 := ixM L ((p : Int) + C) (p + C) (by omega) hpC
            have x2 := ixM L ((i : Int) + C) (i + C) (by omega) hiC
            obtain ⟨Y, hY⟩ : ∃ Y, L.getD (p + C) 0 = Y := ⟨_, rfl⟩
            obtain ⟨Z, hZ⟩ : ∃ Z, L.getD (i + C) 0 = Z := ⟨_, rfl⟩
            rw [hY] at x1
            rw [hZ] at x2
            have hltb : ltB L i C p = decide (Y.toNat < Z.toNat) := by unfold ltB; rw [hY, hZ]
            have hNO := HNO.out
            have b0 := cell_lit HF2.out.box 0 _ rfl
            have hgw := block_lt HF2.out.box
            by_cases hYZ : Y.toNat < Z.toNat
            · have hyz : (Y.toNat : Int) < Z.toNat := by omega
              have hlb : ltB L i C p = true := by rw [hltb]; exact decide_eq_true hYZ
              have eDR : desc L i (i - W) m most whole f (lk'.set A ((p : Int) + 1)) (q * 2 + 1) B b best2 O2 = R := by
                have := HDR.out
                rw [if_neg hE, if_pos hlb] at this
                exact this
              have eOK : okD L i (i - W) m whole f (lk'.set A ((p : Int) + 1)) (q * 2 + 1) B b C nM := by
                rcases HOKn.out with h | ⟨h1, h2⟩ | ⟨h1, h2⟩
                · exact absurd h hE
                · exact h2
                · rw [hlb] at h1; cases h1
              clear HDR HOKn
              have HDR := Lib.hid eDR
              have HOKn := Lib.hid eOK
              have HBD2 := Lib.hid (show bdL i (lk'.set A ((p : Int) + 1)) from by have := HBD.out.set A (p + 1) hx; rwa [hcast] at this)
              have H1 := Lib.hid ((cell_other w2 g2 A (q * 2 + 1) z2 (.int .i32 ((p : Int) + 1))).trans hq1)
              clear eDR eOK hltb hlb hYZ hY hZ HAQ HBD
              have fq := HF2.out.tb.free (q * 2 + 1)
              go_quiet (fail)
              go_wp2_with fail
              go_quiet (fail)
              go_wp2_with fail
              go_roundw
              case rel => exact ⟨f, b, best2, C, nM, q * 2 + 1, B, _, O2, by go_num, rfl, rfl, rfl, rfl, rfl, by go_num, by omega, by omega, hNO.1, hNO.2, by omega, by omega, HOKn, HDR, HBD2, Lib.hid (((HF2.out.drewN _).step_lk A _).drewN _), Lib.hid (((HO4.out.drewN _).setLow (p := ⟨g2, A, none⟩) hg2lt _).drewN _), Lib.hid (((HKp2.out.drewN _).setCell (p := ⟨g2, A, none⟩) (.inr (by exact Or.inr (Or.inr rfl))) _).drewN _)⟩
              case measure => simp [intOf] <;> omega
            · have hyz : ¬ (Y.toNat : Int) < Z.toNat := by omega
              have hlb : ltB L i C p = false := by rw [hltb]; exact decide_eq_false hYZ
              have eDR : desc L i (i - W) m most whole f (lk'.set B ((p : Int) + 1)) A (q * 2) a best2 O2 = R := by
                have := HDR.out
                rw [if_neg hE, if_neg (by rw [hlb]; decide)] at this
                exact this
              have eOK : okD L i (i - W) m whole f (lk'.set B ((p : Int) + 1)) A (q * 2) a nL C := by
                rcases HOKn.out with h | ⟨h1, h2⟩ | ⟨h1, h2⟩
                · exact absurd h hE
                · rw [hlb] at h1; cases h1
                · exact h2
              clear HDR HOKn
              have HDR := Lib.hid eDR
              have HOKn := Lib.hid eOK
              have HBD2 := Lib.hid (show bdL i (lk'.set B ((p : Int) + 1)) from by have := HBD.out.set B (p + 1) hx; rwa [hcast] at this)
              have H1 := Lib.hid ((cell_other w2 g2 B (q * 2) z3 (.int .i32 ((p : Int) + 1))).trans hq0)
              clear eDR eOK hltb hlb hYZ hY hZ HAQ HBD
              have fq := HF2.out.tb.free (q * 2)
              go_quiet (fail)
              go_wp2_with fail
              go_quiet (fail)
              go_wp2_with fail
              go_roundw
              case rel => exact ⟨f, a, best2, nL, C, A, q * 2, _, O2, by go_num, rfl, rfl, rfl, rfl, rfl, by go_num, by omega, by omega, hNO.1, hNO.2, by omega, by omega, HOKn, HDR, HBD2, Lib.hid (((HF2.out.drewN _).step_lk B _).drewN _), Lib.hid (((HO4.out.drewN _).setLow (p := ⟨g2, B, none⟩) hg2lt _).drewN _), Lib.hid (((HKp2.out.drewN _).setCell (p := ⟨g2, B, none⟩) (.inr (by exact Or.inr (Or.inr rfl))) _).drewN _)⟩
              case measure => simp [intOf] <;> omega
          · have cA := HF2.out.tb.cell A (by rw [HF2.out.ll]; exact hA)
            have cB := HF2.out.tb.cell B (by rw [HF2.out.ll]; exact hB)
            have fA := HF2.out.tb.free A
            have fB := HF2.out.tb.free B
            have hBA : B ≠ A := hAB.symm
            obtain ⟨z1, z2, z3, z4⟩ := HAQ.out
            have z1' := z1.symm
            have z2' := z2.symm
            have z3' := z3.symm
            have z4' := z4.symm
            have hwl := HWH.out
            have hpC : p + C < L.length := by omega
            have hiC : i + C < L.length := by omega
            have x1 := ixM L ((p : Int) + C) (p + C) (by omega) hpC
            have x2 := ixM L ((i : Int) + C) (i + C) (by omega) hiC
            obtain ⟨Y, hY⟩ : ∃ Y, L.getD (p + C) 0 = Y := ⟨_, rfl⟩
            obtain ⟨Z, hZ⟩ : ∃ Z, L.getD (i + C) 0 = Z := ⟨_, rfl⟩
            rw [hY] at x1
            rw [hZ] at x2
            have hltb : ltB L i C p = decide (Y.toNat < Z.toNat) := by unfold ltB; rw [hY, hZ]
            have hNO := HNO.out
            have b0 := cell_lit HF2.out.box 0 _ rfl
            have hgw := block_lt HF2.out.box
            by_cases hYZ : Y.toNat < Z.toNat
            · have hyz : (Y.toNat : Int) < Z.toNat := by omega
              have hlb : ltB L i C p = true := by rw [hltb]; exact decide_eq_true hYZ
              have eDR : desc L i (i - W) m most whole f (lk'.set A ((p : Int) + 1)) (q * 2 + 1) B b best2 O2 = R := by
                have := HDR.out
                rw [if_neg hE, if_pos hlb] at this
                exact this
              have eOK : okD L i (i - W) m whole f (lk'.set A ((p : Int) + 1)) (q * 2 + 1) B b C nM := by
                rcases HOKn.out with h | ⟨h1, h2⟩ | ⟨h1, h2⟩
                · exact absurd h hE
                · exact h2
                · rw [hlb] at h1; cases h1
              clear HDR HOKn
              have HDR := Lib.hid eDR
              have HOKn := Lib.hid eOK
              have HBD2 := Lib.hid (show bdL i (lk'.set A ((p : Int) + 1)) from by have := HBD.out.set A (p + 1) hx; rwa [hcast] at this)
              have H1 := Lib.hid ((cell_other w2 g2 A (q * 2 + 1) z2 (.int .i32 ((p : Int) + 1))).trans hq1)
              clear eDR eOK hltb hlb hYZ hY hZ HAQ HBD
              have fq := HF2.out.tb.free (q * 2 + 1)
              go_quiet (fail)
              go_wp2_with fail
              go_quiet (fail)
              go_wp2_with fail
              go_roundw
              case rel => exact ⟨f, b, best2, C, nM, q * 2 + 1, B, _, O2, by go_num, rfl, rfl, rfl, rfl, rfl, by go_num, by omega, by omega, hNO.1, hNO.2, by omega, by omega, HOKn, HDR, HBD2, Lib.hid (((HF2.out.drewN _).step_lk A _).drewN _), Lib.hid (((HO4.out.drewN _).setLow (p := ⟨g2, A, none⟩) hg2lt _).drewN _), Lib.hid (((HKp2.out.drewN _).setCell (p := ⟨g2, A, none⟩) (.inr (by exact Or.inr (Or.inr rfl))) _).drewN _)⟩
              case measure => simp [intOf] <;> omega
            · have hyz : ¬ (Y.toNat : Int) < Z.toNat := by omega
              have hlb : ltB L i C p = false := by rw [hltb]; exact decide_eq_false hYZ
              have eDR : desc L i (i - W) m most whole f (lk'.set B ((p : Int) + 1)) A (q * 2) a best2 O2 = R := by
                have := HDR.out
                rw [if_neg hE, if_neg (by rw [hlb]; decide)] at this
                exact this
              have eOK : okD L i (i - W) m whole f (lk'.set B ((p : Int) + 1)) A (q * 2) a nL C := by
                rcases HOKn.out with h | ⟨h1, h2⟩ | ⟨h1, h2⟩
                · exact absurd h hE
                · rw [hlb] at h1; cases h1
                · exact h2
              clear HDR HOKn
              have HDR := Lib.hid eDR
              have HOKn := Lib.hid eOK
              have HBD2 := Lib.hid (show bdL i (lk'.set B ((p : Int) + 1)) from by have := HBD.out.set B (p + 1) hx; rwa [hcast] at this)
              have H1 := Lib.hid ((cell_other w2 g2 B (q * 2) z3 (.int .i32 ((p : Int) + 1))).trans hq0)
              clear eDR eOK hltb hlb hYZ hY hZ HAQ HBD
              have fq := HF2.out.tb.free (q * 2)
              go_quiet (fail)
              go_wp2_with fail
              go_quiet (fail)
              go_wp2_with fail
              go_roundw
              case rel => exact ⟨f, a, best2, nL, C, A, q * 2, _, O2, by go_num, rfl, rfl, rfl, rfl, rfl, by go_num, by omega, by omega, hNO.1, hNO.2, by omega, by omega, HOKn, HDR, HBD2, Lib.hid (((HF2.out.drewN _).step_lk B _).drewN _), Lib.hid (((HO4.out.drewN _).setLow (p := ⟨g2, B, none⟩) hg2lt _).drewN _), Lib.hid (((HKp2.out.drewN _).setCell (p := ⟨g2, B, none⟩) (.inr (by exact Or.inr (Or.inr rfl))) _).drewN _)⟩
              case measure => simp [intOf] <;> omega
end Go.Proofs.Ytgoplbngfinbdaa
