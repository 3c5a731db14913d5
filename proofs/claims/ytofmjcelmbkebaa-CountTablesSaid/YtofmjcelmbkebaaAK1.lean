/- Layer 24: Tables, whole; CountTables. -/
import Derived.Test.YtofmjcelmbkebaaAF16
import Derived.Test.YtofmjcelmbkebaaAJ3
namespace Go.Proofs.Ytofmjcelmbkebaa
open Go.ChangeShapes Go.WideShapes Go.ChangeAt Go.RowKit
set_option linter.unusedVariables false
set_option linter.unusedSimpArgs false
set_option maxRecDepth 100000
open KraftMath Pm
set_option maxHeartbeats 1600000 in
theorem dAny (a : Option Addr) (c n : Nat) (l : List Int) (w : World) (hl : l.length = n) (h : IsInts w a l) (B : Bool) (hB : B = decide (0 < used l)) :
    Calls Try.prog 19 #[.slice a n c] w fun e w' => e = .returned (.bool B) ∧ w' = w := by
  have HI := Lib.hid h
  have HL := Lib.hid hl
  have HB := Lib.hid hB
  have hn46 : (n : Int) ≤ 70368744177664 := by have := h.1; omega
  clear h hl hB
  go_enter Try.func19, Try.ntmps19
  go_wp2_with fail
  go_loopw [3] (fun iv wr => ∃ i : Nat, i ≤ n ∧ iv = .int .i64 i ∧ Hid (used (l.take i) = 0) ∧ wr = w) (fun iv _ => n - (intOf iv).toNat)
  case atStart => exact ⟨0, Nat.zero_le _, by go_num, Lib.hid rfl, rfl⟩
  case round =>
    obtain ⟨i, hi, rfl, HT, rfl⟩ := hrel
    by_cases hlt : i < n
    · have hii : (i : Int) < n := by omega
      obtain ⟨x, rfl, hxb, hc⟩ := HI.out.at i (by rw [HL.out]; exact hlt)
      have cx := hc i (by rw [HL.out]; exact hlt)
      have hus := used_succ l i (by rw [HL.out]; exact hlt)
      rw [HT.out] at hus
      obtain ⟨v, hv⟩ : ∃ v, l.getD i 0 = v := ⟨_, rfl⟩
      rw [hv] at cx hus
      clear hc hv
      by_cases h0 : 0 < v
      · have HF := Lib.hid (show B = true by
          rw [HB.out, decide_eq_true_iff]
          rw [if_pos h0] at hus
          have h1 := used_append (l.take (i + 1)) (l.drop (i + 1))
          rw [List.take_append_drop] at h1
          omega)
        clear hus
        go_wp2_with fail
        go_ret
        exact ⟨ret_b HF.out.symm, rfl⟩
      · rw [if_neg h0] at hus
        have HT2 := Lib.hid hus
        clear hus
        go_wp2_with fail
        go_roundw
        case rel => exact ⟨i + 1, by omega, by go_num, HT2, by trivial⟩
        case measure => simp [intOf] <;> omega
    · obtain rfl : n = i := by omega
      have HF := Lib.hid (show B = false by
        rw [HB.out, decide_eq_false_iff_not]
        have h1 := HT.out
        rw [List.take_of_length_le (by rw [HL.out]; exact Nat.le_refl _)] at h1
        omega)
      have hii : ¬ (n : Int) < n := by omega
      go_wp2_with fail
      go_ret
      exact ⟨ret_b HF.out.symm, rfl⟩
def tabL (f : List Int) : List Int := if chkP f 15 = 0 then lensV f 15 else List.replicate f.length 0
theorem tabL_len (f : List Int) : (tabL f).length = f.length := by
  unfold tabL; split
  · exact lensV_len _ _
  · simp
theorem lnL_self (l : List Int) (n : Nat) (h : l.length = n) : lnL l n = l := by
  refine list_eqD _ _ (by rw [lnL_len, h]) (fun i hi => ?_)
  rw [lnL_len] at hi
  rw [lnL_get _ _ _ hi]
theorem lnL_nil (n : Nat) : lnL [] n = List.replicate n 0 := by
  refine list_eqD _ _ (by rw [lnL_len]; simp) (fun i hi => ?_)
  rw [lnL_len] at hi
  rw [lnL_get _ _ _ hi, rep_get]; rfl
set_option maxHeartbeats 1600000 in
theorem cLenG (a : Option Addr) (c n : Nat) (l : List Int) (w : World) (hl : l.length = n) (h : IsInts w a l) (hn : n ≤ 1000) :
    Calls Try.prog 30 #[.slice a n c] w fun e w' => ∃ u, e = .returned u ∧ OwnI w.heap.size w' u (tabL l) ∧ Below w.heap.size w w' := by
  have HI := Lib.hid h
  by_cases h0 : chkP l 15 = 0
  · have hml : (lensV l 15).length = n := by rw [lensV_len, hl]
    have HR := Lib.hid (show tabL l = lnL (lensV l 15) n by unfold tabL; rw [if_pos h0, lnL_self _ _ hml])
    have CO := Lib.hid (fun W h => pLenOk a c n l 15 W hl h h0 _ rfl)
    rw [show (15 : Int).toNat = 15 from rfl] at CO
    obtain ⟨L2, hL2⟩ : ∃ L2, lensV l 15 = L2 := ⟨_, rfl⟩
    rw [hL2] at CO hml HR
    rw [HR.out]
    have HML := Lib.hid hml
    clear h hl h0 hL2
    go_enter Try.func30, Try.ntmps30
    go_wp2_with fail
    refine (CO.out w HI.out).mono ?_; rintro e w1 ⟨u, rfl, hu, hb⟩
    obtain ⟨ua, uc, rfl, hi⟩ := hu.isL (by rw [hml]; omega)
    rw [hml]
    have HB := Lib.hid hb
    have HBA := Lib.hid ((Below.refl w1.heap.size w1).alloc (Nat.le_refl _) (.cells #[.slice ua n uc] 22))
    have hq := cell_lit (heap_alloc_new w1 (.cells #[.slice ua n uc] 22)) 0 (.slice ua n uc) rfl
    have CF := Lib.hid (cFillL n w1.heap.size n ua uc L2 (w1.alloc (.cells #[.slice ua n uc] 22)) hml hq (hi.kept HBA.out) hn hn)
    clear hu hi hb hq hml CO
    go_wp2_with fail
    refine CF.out.mono ?_; rintro e w2 ⟨v2, rfl, ho, hb⟩
    have HB2 := Lib.hid (HB.out.trans ((HBA.out.trans (hb.mono HBA.out.size)).mono HB.out.size))
    have HO := Lib.hid (ho.base (show w.heap.size ≤ _ by have := HB.out.size; simp; omega))
    clear ho hb CF
    go_wp2_with fail
    go_ret
    exact ⟨_, rfl, HO.out, HB2.out⟩
  · obtain ⟨E, hE⟩ : ∃ E, chkP l 15 = E := ⟨_, rfl⟩
    have HR := Lib.hid (show tabL l = lnL [] n by unfold tabL; rw [if_neg h0, lnL_nil, hl])
    have CO := Lib.hid (fun W h => pLenNo a c n l 15 E W hl h hE (by rw [← hE]; exact h0))
    rw [HR.out]
    clear h hl h0 hE
    go_enter Try.func30, Try.ntmps30
    go_wp2_with fail
    refine (CO.out w HI.out).mono ?_; rintro e w1 ⟨rfl, hb⟩
    have HB := Lib.hid hb
    have HBA := Lib.hid ((Below.refl w1.heap.size w1).alloc (Nat.le_refl _) (.cells #[.slice none 0 0] 22))
    have hq := cell_lit (heap_alloc_new w1 (.cells #[.slice none 0 0] 22)) 0 (.slice none 0 0) rfl
    have CF := Lib.hid (cFillL n w1.heap.size 0 none 0 [] (w1.alloc (.cells #[.slice none 0 0] 22)) rfl hq ⟨by simp, .inl rfl⟩ (by decide) hn)
    clear hb hq CO
    go_wp2_with fail
    refine CF.out.mono ?_; rintro e w2 ⟨v2, rfl, ho, hb⟩
    have HB2 := Lib.hid (HB.out.trans ((HBA.out.trans (hb.mono HBA.out.size)).mono HB.out.size))
    have HO := Lib.hid (ho.base (show w.heap.size ≤ _ by have := HB.out.size; simp; omega))
    clear ho hb CF
    go_wp2_with fail
    go_ret
    exact ⟨_, rfl, HO.out, HB2.out⟩
set_option maxHeartbeats 1600000 in
theorem cTabG (a : Option Addr) (c n : Nat) (l : List Tk) (w : World) (hl : l.length = n) (h : IsTk w a l) (hn : n ≤ 300) (M D : List Int) (hF : frA l = (M, D, 0)) (hm : M.length = 401) (hd : D.length = 52) :
    Calls Try.prog 17 #[.slice a n c] w fun e w' => ∃ u v, e = .returned (.tuple #[u, v, .int .i64 0]) ∧ OwnI w.heap.size w' u (tabL M) ∧ OwnI w.heap.size w' v (tabL D) ∧ Below w.heap.size w w' := by
  have CF := Lib.hid (cFreqs a c n l w hl h hn)
  rw [hF] at CF
  have C1 := Lib.hid (fun a c W h => cLenG a c 401 M W hm h (by decide))
  have C2 := Lib.hid (fun a c W h => cLenG a c 52 D W hd h (by decide))
  have HM := Lib.hid hm; have HD := Lib.hid hd
  clear h hl hF hm hd
  go_enter Try.func17, Try.ntmps17
  go_wp2_with fail
  refine CF.out.mono ?_; rintro e w1 ⟨v1, v2, rfl, h1, h2, hb⟩
  obtain ⟨a1, c1, rfl, h1⟩ := h1
  obtain ⟨a2, c2, rfl, h2⟩ := h2
  rw [HM.out, HD.out]
  have H1 := Lib.hid h1
  have H2 := Lib.hid h2
  have HB := Lib.hid hb
  clear h1 h2 hb CF
  go_wp2_with fail
  refine (C1.out _ _ _ H1.out).mono ?_; rintro e w2 ⟨u, rfl, hu, hb⟩
  have HU := Lib.hid (hu.base HB.out.size)
  have H2 := Lib.hid (H2.out.kept hb)
  have HB := Lib.hid (HB.out.trans (hb.mono HB.out.size))
  clear hu hb C1 H1
  go_wp2_with fail
  refine (C2.out _ _ _ H2.out).mono ?_; rintro e w3 ⟨v, rfl, hv, hb⟩
  have HV := Lib.hid (hv.base HB.out.size)
  have HU := Lib.hid (HU.out.kept hb)
  have HB := Lib.hid (HB.out.trans (hb.mono HB.out.size))
  clear hv hb C2 H2
  go_wp2_with fail
  go_ret3
  exact ⟨_, _, rfl, HU.out, HV.out, HB.out⟩
set_option maxHeartbeats 1600000 in
theorem cTabBad (a : Option Addr) (c n : Nat) (l : List Tk) (w : World) (hl : l.length = n) (h : IsTk w a l) (hn : n ≤ 300) (E : Int) (hE : (frA l).2.2 = E) (h0 : E ≠ 0) :
    Calls Try.prog 17 #[.slice a n c] w fun e w' => e = .returned (.tuple #[.slice none 0 0, .slice none 0 0, .int .i64 E]) ∧ Below w.heap.size w w' := by
  have CF := Lib.hid (cFreqs a c n l w hl h hn)
  rw [hE] at CF
  have e1 : (E != 0) = true := by rw [bne_iff_ne]; exact h0
  clear h hl hE h0
  go_enter Try.func17, Try.ntmps17
  go_wp2_with fail
  refine CF.out.mono ?_; rintro e w1 ⟨v1, v2, rfl, h1, h2, hb⟩
  go_wp2_with fail
  go_ret3
  exact ⟨rfl, hb⟩
theorem chk15 (f : List Int) (hl : f.length ≤ 1000) (hb : ∀ i, 0 ≤ f.getD i 0 ∧ f.getD i 0 ≤ 300) : (0 < used f → chkP f 15 = 0) ∧ (¬ 0 < used f → chkP f 15 ≠ 0) := by
  have hu := used_le f
  have ha : ¬ f.any badF = true := by
    rw [List.any_eq_true]
    rintro ⟨v, hv, hbv⟩
    obtain ⟨i, -, rfl⟩ := mem_idx hv
    have := hb i
    unfold badF at hbv
    simp only [Bool.or_eq_true, decide_eq_true_eq] at hbv
    omega
  unfold chkP
  rw [if_neg (by decide), if_neg (by omega), if_neg ha]
  refine ⟨fun h => ?_, fun h => ?_⟩
  · rw [if_neg (by omega), if_neg (by rw [show (15 : Int).toNat = 15 from rfl]; omega)]
  · rw [if_pos (by omega)]; decide
theorem tab_any (f : List Int) (hl : f.length ≤ 1000) (hb : ∀ i, 0 ≤ f.getD i 0 ∧ f.getD i 0 ≤ 300) : (0 < used f → mayB f (tabL f) 15 = true) ∧ (¬ 0 < used f → ¬ 0 < used (tabL f)) := by
  obtain ⟨c1, c2⟩ := chk15 f hl hb
  refine ⟨fun h => ?_, fun h => ?_⟩
  · unfold tabL
    rw [if_pos (c1 h)]
    exact (mayB_iff _ _ _).2 (lens_may f 15 (c1 h))
  · unfold tabL
    rw [if_neg (c2 h)]
    have := used_none (List.replicate f.length 0) (fun i => rep_get _ _)
    omega
set_option maxHeartbeats 6400000 in
theorem tables_walk (a : Option Addr) (c n : Nat) (l : List Tk) (w : World) (hl : l.length = n) (h : IsTk w a l) (hn : n ≤ 300) (A B : Bool) (hA : A = decide (0 < used (tl l).1)) (hB : B = decide (0 < used (tl l).2)) :
    Calls Try.prog 7 #[.slice a n c] w fun e w' => e = .returned (.bool true) ∧ Below w.heap.size w w' := by
  have q1 : ¬ (300 : Int) < n := by omega
  have HT := Lib.hid h
  have CA := Lib.hid (fun W => awake24 W)
  have CD := Lib.hid (fun W h => dFreqs a c n l W hl h hn)
  by_cases hok : ∀ t ∈ l, t.ok
  · have hF : frA l = ((tl l).1, (tl l).2, 0) := by unfold frA; rw [if_pos hok]
    obtain ⟨hm, hd⟩ := tl_len l
    obtain ⟨bm, bd⟩ := tl_bd l
    obtain ⟨m1, m2⟩ := tab_any (tl l).1 (by omega) (fun i => by have := bm i; omega)
    obtain ⟨d1, d2⟩ := tab_any (tl l).2 (by omega) (fun i => by have := bd i; omega)
    obtain ⟨M, hM⟩ : ∃ M, (tl l).1 = M := ⟨_, rfl⟩
    obtain ⟨D, hD⟩ : ∃ D, (tl l).2 = D := ⟨_, rfl⟩
    rw [hM] at hF hm m1 m2 hA
    rw [hD] at hF hd d1 d2 hB
    have CT := Lib.hid (fun W h => cTabG a c n l W hl h hn M D hF hm hd)
    rw [hF] at CD
    have hmt : (tabL M).length = 401 := by rw [tabL_len, hm]
    have hdt : (tabL D).length = 52 := by rw [tabL_len, hd]
    obtain ⟨R, hR⟩ : ∃ R, tabL M = R := ⟨_, rfl⟩
    obtain ⟨S, hS⟩ : ∃ S, tabL D = S := ⟨_, rfl⟩
    rw [hR] at hmt m1 m2 CT
    rw [hS] at hdt d1 d2 CT
    have AM := Lib.hid (fun a c W h => dAny a c 401 M W hm h A hA)
    have AD := Lib.hid (fun a c W h => dAny a c 52 D W hd h B hB)
    have AR := Lib.hid (fun a c W (h : IsInts W a R) (hu : ¬ 0 < used R) => dAny a c 401 R W hmt h false (decide_eq_false hu).symm)
    have AS := Lib.hid (fun a c W (h : IsInts W a S) (hu : ¬ 0 < used S) => dAny a c 52 S W hdt h false (decide_eq_false hu).symm)
    have MM := Lib.hid (fun a b c d W h k => dMay a b c d 401 401 M R 15 W hm h hmt k)
    have MD := Lib.hid (fun a b c d W h k => dMay a b c d 52 52 D S 15 W hd h hdt k)
    have HMR := Lib.hid hmt; have HDS := Lib.hid hdt; have HM := Lib.hid hm; have HD := Lib.hid hd
    have XM := Lib.hid (show (A = true → mayB M R 15 = true) ∧ (A = false → ¬ 0 < used R) from by
      rw [hA]; exact ⟨fun h => m1 (of_decide_eq_true h), fun h => m2 (of_decide_eq_false h)⟩)
    have XD := Lib.hid (show (B = true → mayB D S 15 = true) ∧ (B = false → ¬ 0 < used S) from by
      rw [hB]; exact ⟨fun h => d1 (of_decide_eq_true h), fun h => d2 (of_decide_eq_false h)⟩)
    clear h hl hok hF hm hd bm bd m1 m2 d1 d2 hM hD hmt hdt hR hS hA hB
    go_enter Try.func7, Try.ntmps7
    go_wp2_with fail
    refine (CT.out w HT.out).mono ?_; rintro e w1 ⟨u, v, rfl, hu, hv, hb⟩
    obtain ⟨a1, c1, rfl, i1⟩ := hu.isL (by rw [HMR.out]; decide)
    obtain ⟨a2, c2, rfl, i2⟩ := hv.isL (by rw [HDS.out]; decide)
    rw [HMR.out, HDS.out]
    have I1 := Lib.hid i1; have I2 := Lib.hid i2
    have HT1 := Lib.hid (HT.out.kept hb)
    have HB1 := Lib.hid hb
    clear hu hv hb i1 i2 CT
    go_wp2_with fail
    refine (CD.out w1 HT1.out).mono ?_; rintro e w2 ⟨v1, v2, rfl, h1, h2, hb⟩
    obtain ⟨a3, c3, rfl, i3⟩ := h1
    obtain ⟨a4, c4, rfl, i4⟩ := h2
    rw [HM.out, HD.out]
    have I3 := Lib.hid i3; have I4 := Lib.hid i4
    have I1 := Lib.hid (I1.out.kept hb); have I2 := Lib.hid (I2.out.kept hb)
    have HB2 := Lib.hid (HB1.out.trans (hb.mono HB1.out.size))
    clear hb i3 i4 CD HB1 HT1
    cases A with
    | true =>
      have MM2 := Lib.hid (fun a b c d W h k => MM.out a b c d W h k)
      rw [XM.out.1 rfl] at MM2
      go_wp2_with fail
      refine (AM.out _ _ _ I3.out).mono ?_; rintro e w3 ⟨rfl, hw⟩
      obtain rfl : w2 = w3 := hw.symm
      go_wp2_with fail
      refine (MM2.out _ _ _ _ _ I3.out I1.out).mono ?_; rintro e w4 ⟨rfl, k4, rfl⟩
      have I2 := Lib.hid (I2.out.drewN k4); have I3 := Lib.hid (I3.out.drewN k4); have I4 := Lib.hid (I4.out.drewN k4)
      have HB3 := Lib.hid (below_dn HB2.out k4)
      clear I1 HB2
      generalize w2.drewN k4 = w5 at *
      go_wp2_with fail
      refine (AM.out _ _ _ I3.out).mono ?_; rintro e w3 ⟨rfl, hw⟩
      obtain rfl : w5 = w3 := hw.symm
      cases B with
      | true =>
        have MD2 := Lib.hid (fun a b c d W h k => MD.out a b c d W h k)
        rw [XD.out.1 rfl] at MD2
        go_wp2_with fail
        refine (AD.out _ _ _ I4.out).mono ?_; rintro e w3 ⟨rfl, hw⟩
        obtain rfl : w5 = w3 := hw.symm
        go_wp2_with fail
        refine (MD2.out _ _ _ _ _ I4.out I2.out).mono ?_; rintro e w6 ⟨rfl, k6, rfl⟩
        have HB4 := Lib.hid (below_dn HB3.out k6)
        go_wp2_with fail
        refine (CA.out _).mono ?_; rintro e w7 ⟨rfl, hb7⟩
        have HB7 := Lib.hid (HB4.out.trans (hb7.mono HB4.out.size))
        clear hb7
        go_wp2_with fail
        go_ret
        exact ⟨rfl, HB7.out⟩
      | false =>
        go_wp2_with fail
        refine (AD.out _ _ _ I4.out).mono ?_; rintro e w3 ⟨rfl, hw⟩
        obtain rfl : w5 = w3 := hw.symm
        go_wp2_with fail
        refine (AD.out _ _ _ I4.out).mono ?_; rintro e w3 ⟨rfl, hw⟩
        obtain rfl : w5 = w3 := hw.symm
        go_wp2_with fail
        refine (AS.out _ _ _ I2.out (by first | exact XD.out.2 rfl | exact XD.out.2 trivial)).mono ?_; rintro e w3 ⟨rfl, hw⟩
        obtain rfl : w5 = w3 := hw.symm
        go_wp2_with fail
        refine (CA.out _).mono ?_; rintro e w7 ⟨rfl, hb7⟩
        have HB7 := Lib.hid (HB3.out.trans (hb7.mono HB3.out.size))
        clear hb7
        go_wp2_with fail
        go_ret
        exact ⟨rfl, HB7.out⟩
    | false =>
      go_wp2_with fail
      refine (AM.out _ _ _ I3.out).mono ?_; rintro e w3 ⟨rfl, hw⟩
      obtain rfl : w2 = w3 := hw.symm
      go_wp2_with fail
      refine (AM.out _ _ _ I3.out).mono ?_; rintro e w3 ⟨rfl, hw⟩
      obtain rfl : w2 = w3 := hw.symm
      go_wp2_with fail
      refine (AR.out _ _ _ I1.out (by first | exact XM.out.2 rfl | exact XM.out.2 trivial)).mono ?_; rintro e w3 ⟨rfl, hw⟩
      obtain rfl : w2 = w3 := hw.symm
      have HB3 := HB2
      obtain ⟨w5, hw5⟩ : ∃ w5, w5 = w2 := ⟨_, rfl⟩
      rw [← hw5] at I2 I3 I4 HB3 ⊢
      clear hw5
      cases B with
      | true =>
        have MD2 := Lib.hid (fun a b c d W h k => MD.out a b c d W h k)
        rw [XD.out.1 rfl] at MD2
        go_wp2_with fail
        refine (AD.out _ _ _ I4.out).mono ?_; rintro e w3 ⟨rfl, hw⟩
        obtain rfl : w5 = w3 := hw.symm
        go_wp2_with fail
        refine (MD2.out _ _ _ _ _ I4.out I2.out).mono ?_; rintro e w6 ⟨rfl, k6, rfl⟩
        have HB4 := Lib.hid (below_dn HB3.out k6)
        go_wp2_with fail
        refine (CA.out _).mono ?_; rintro e w7 ⟨rfl, hb7⟩
        have HB7 := Lib.hid (HB4.out.trans (hb7.mono HB4.out.size))
        clear hb7
        go_wp2_with fail
        go_ret
        exact ⟨rfl, HB7.out⟩
      | false =>
        go_wp2_with fail
        refine (AD.out _ _ _ I4.out).mono ?_; rintro e w3 ⟨rfl, hw⟩
        obtain rfl : w5 = w3 := hw.symm
        go_wp2_with fail
        refine (AD.out _ _ _ I4.out).mono ?_; rintro e w3 ⟨rfl, hw⟩
        obtain rfl : w5 = w3 := hw.symm
        go_wp2_with fail
        refine (AS.out _ _ _ I2.out (by first | exact XD.out.2 rfl | exact XD.out.2 trivial)).mono ?_; rintro e w3 ⟨rfl, hw⟩
        obtain rfl : w5 = w3 := hw.symm
        go_wp2_with fail
        refine (CA.out _).mono ?_; rintro e w7 ⟨rfl, hb7⟩
        have HB7 := Lib.hid (HB3.out.trans (hb7.mono HB3.out.size))
        clear hb7
        go_wp2_with fail
        go_ret
        exact ⟨rfl, HB7.out⟩
  · have hF : frA l = ([], [], 10) := by unfold frA; rw [if_neg hok]
    rw [hF] at CD
    have CT := Lib.hid (fun W h => cTabBad a c n l W hl h hn 10 (by rw [hF]) (by decide))
    clear h hl hok hF hA hB
    go_enter Try.func7, Try.ntmps7
    go_wp2_with fail
    refine (CT.out w HT.out).mono ?_; rintro e w1 ⟨rfl, hb⟩
    have HT1 := Lib.hid (HT.out.kept hb)
    have HB1 := Lib.hid hb
    clear hb
    go_wp2_with fail
    refine (CD.out w1 HT1.out).mono ?_; rintro e w2 ⟨v1, v2, rfl, h1, h2, hb⟩
    have HB2 := Lib.hid (HB1.out.trans (hb.mono HB1.out.size))
    clear hb
    go_wp2_with fail
    refine (CA.out _).mono ?_; rintro e w6 ⟨rfl, hb6⟩
    have HB6 := Lib.hid (HB2.out.trans (hb6.mono HB2.out.size))
    clear hb6
    go_wp2_with fail
    go_ret
    exact ⟨rfl, HB6.out⟩
end Go.Proofs.Ytofmjcelmbkebaa
