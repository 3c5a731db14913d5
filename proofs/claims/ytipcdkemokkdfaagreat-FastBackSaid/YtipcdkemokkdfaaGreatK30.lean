import Derived.Test.YtipcdkemokkdfaaGreatK29
import Derived.Test.YtipcdkemokkdfaaGreatK27
/- Layer 7: the chapter's example. -/
namespace Go.Proofs.YtipcdkemokkdfaaGreat
open Go.ChangeShapes Go.WideShapes Go.ChangeAt Go.RowKit
set_option linter.unusedVariables false
set_option linter.unusedSimpArgs false
set_option maxRecDepth 100000
open KraftMath Pm
theorem pLenOk (a : Option Addr) (c n : Nat) (l : List Int) (L : Int) (w : World) (hl : l.length = n) (h : IsInts w a l) (hE : chkP l L = 0) (R : List Int) (hR : lensV l L.toNat = R) :
    Calls Tryz.prog 42 #[.slice a n c, .int .i64 L] w fun e w' => ∃ u, e = .returned (.tuple #[u, .int .i64 0]) ∧ OwnI w.heap.size w' u R ∧ Below w.heap.size w w' := by
  subst hR
  by_cases h1 : (srtS l).length = 1
  · exact pLenOne a c n l L w hl h hE h1
  · exact pLenAll a c n l L w hl h hE h1
theorem pLenNo (a : Option Addr) (c n : Nat) (l : List Int) (L E : Int) (w : World) (hl : l.length = n) (h : IsInts w a l) (hE : chkP l L = E) (h0 : E ≠ 0) :
    Calls Tryz.prog 42 #[.slice a n c, .int .i64 L] w fun e w' => e = .returned (.tuple #[.slice none 0 0, .int .i64 E]) ∧ Below w.heap.size w w' := by
  refine (pLenBad a c n l L E w hl h hE h0).mono ?_
  rintro e w' ⟨h1, rfl⟩
  exact ⟨h1, Below.refl _ _⟩
end Go.Proofs.YtipcdkemokkdfaaGreat

/- Layer 24: Tables, whole; CountTables. -/
namespace Go.Proofs.YtipcdkemokkdfaaGreat
open Go.ChangeShapes Go.WideShapes Go.ChangeAt Go.RowKit
set_option linter.unusedVariables false
set_option linter.unusedSimpArgs false
set_option maxRecDepth 100000
open KraftMath Pm
def tabL (f : List Int) : List Int := if chkP f 15 = 0 then lensV f 15 else List.replicate f.length 0
theorem tabL_len (f : List Int) : (tabL f).length = f.length := by
  unfold tabL; split
  · exact lensV_len _ _
  · simp
theorem lnL_self (l : List Int) (n : Nat) (h : l.length = n) : lnL l n = l := by
  refine list_eqD _ _ (by rw [lnL_len, h]) (fun i hi => ?_)
  rw [lnL_len] at hi
  rw [lnL_get _ _ _ hi]
theorem lnL_nil (n : Nat) : lnL [] n = List.replicate n 0 := by
  refine list_eqD _ _ (by rw [lnL_len]; simp) (fun i hi => ?_)
  rw [lnL_len] at hi
  rw [lnL_get _ _ _ hi, rep_get]; rfl
set_option maxHeartbeats 1600000 in
theorem cLenG (a : Option Addr) (c n : Nat) (l : List Int) (w : World) (hl : l.length = n) (h : IsInts w a l) (hn : n ≤ 1000) :
    Calls Tryz.prog 37 #[.slice a n c] w fun e w' => ∃ u, e = .returned u ∧ OwnI w.heap.size w' u (tabL l) ∧ Below w.heap.size w w' := by
  have HI := Lib.hid h
  by_cases h0 : chkP l 15 = 0
  · have hml : (lensV l 15).length = n := by rw [lensV_len, hl]
    have HR := Lib.hid (show tabL l = lnL (lensV l 15) n by unfold tabL; rw [if_pos h0, lnL_self _ _ hml])
    have CO := Lib.hid (fun W h => pLenOk a c n l 15 W hl h h0 _ rfl)
    rw [show (15 : Int).toNat = 15 from rfl] at CO
    obtain ⟨L2, hL2⟩ : ∃ L2, lensV l 15 = L2 := ⟨_, rfl⟩
    rw [hL2] at CO hml HR
    rw [HR.out]
    have HML := Lib.hid hml
    clear h hl h0 hL2
    go_enter Tryz.func37, Tryz.ntmps37
    go_wp2_with fail
    refine (CO.out w HI.out).mono ?_; rintro e w1 ⟨u, rfl, hu, hb⟩
    obtain ⟨ua, uc, rfl, hi⟩ := hu.isL (by rw [hml]; omega)
    rw [hml]
    have HB := Lib.hid hb
    have HBA := Lib.hid ((Below.refl w1.heap.size w1).alloc (Nat.le_refl _) (.cells #[.slice ua n uc] 65))
    have hq := cell_lit (heap_alloc_new w1 (.cells #[.slice ua n uc] 65)) 0 (.slice ua n uc) rfl
    have CF := Lib.hid (cFillL n w1.heap.size n ua uc L2 (w1.alloc (.cells #[.slice ua n uc] 65)) hml hq (hi.kept HBA.out) hn hn)
    clear hu hi hb hq hml CO
    go_wp2_with fail
    refine CF.out.mono ?_; rintro e w2 ⟨v2, rfl, ho, hb⟩
    have HB2 := Lib.hid (HB.out.trans ((HBA.out.trans (hb.mono HBA.out.size)).mono HB.out.size))
    have HO := Lib.hid (ho.base (show w.heap.size ≤ _ by have := HB.out.size; simp; omega))
    clear ho hb CF
    go_wp2_with fail
    go_ret
    exact ⟨_, rfl, HO.out, HB2.out⟩
  · obtain ⟨E, hE⟩ : ∃ E, chkP l 15 = E := ⟨_, rfl⟩
    have HR := Lib.hid (show tabL l = lnL [] n by unfold tabL; rw [if_neg h0, lnL_nil, hl])
    have CO := Lib.hid (fun W h => pLenNo a c n l 15 E W hl h hE (by rw [← hE]; exact h0))
    rw [HR.out]
    clear h hl h0 hE
    go_enter Tryz.func37, Tryz.ntmps37
    go_wp2_with fail
    refine (CO.out w HI.out).mono ?_; rintro e w1 ⟨rfl, hb⟩
    have HB := Lib.hid hb
    have HBA := Lib.hid ((Below.refl w1.heap.size w1).alloc (Nat.le_refl _) (.cells #[.slice none 0 0] 65))
    have hq := cell_lit (heap_alloc_new w1 (.cells #[.slice none 0 0] 65)) 0 (.slice none 0 0) rfl
    have CF := Lib.hid (cFillL n w1.heap.size 0 none 0 [] (w1.alloc (.cells #[.slice none 0 0] 65)) rfl hq ⟨by simp, .inl rfl⟩ (by decide) hn)
    clear hb hq CO
    go_wp2_with fail
    refine CF.out.mono ?_; rintro e w2 ⟨v2, rfl, ho, hb⟩
    have HB2 := Lib.hid (HB.out.trans ((HBA.out.trans (hb.mono HBA.out.size)).mono HB.out.size))
    have HO := Lib.hid (ho.base (show w.heap.size ≤ _ by have := HB.out.size; simp; omega))
    clear ho hb CF
    go_wp2_with fail
    go_ret
    exact ⟨_, rfl, HO.out, HB2.out⟩
set_option maxHeartbeats 1600000 in
theorem cTabG (a : Option Addr) (c n : Nat) (l : List Tk) (w : World) (hl : l.length = n) (h : IsTk w a l) (hn : n ≤ 300) (M D : List Int) (hF : frA l = (M, D, 0)) (hm : M.length = 401) (hd : D.length = 52) :
    Calls Tryz.prog 23 #[.slice a n c] w fun e w' => ∃ u v, e = .returned (.tuple #[u, v, .int .i64 0]) ∧ OwnI w.heap.size w' u (tabL M) ∧ OwnI w.heap.size w' v (tabL D) ∧ Below w.heap.size w w' := by
  have CF := Lib.hid (cFreqs a c n l w hl h hn)
  rw [hF] at CF
  have C1 := Lib.hid (fun a c W h => cLenG a c 401 M W hm h (by decide))
  have C2 := Lib.hid (fun a c W h => cLenG a c 52 D W hd h (by decide))
  have HM := Lib.hid hm; have HD := Lib.hid hd
  clear h hl hF hm hd
  go_enter Tryz.func23, Tryz.ntmps23
  go_wp2_with fail
  refine CF.out.mono ?_; rintro e w1 ⟨v1, v2, rfl, h1, h2, hb⟩
  obtain ⟨a1, c1, rfl, h1⟩ := h1
  obtain ⟨a2, c2, rfl, h2⟩ := h2
  rw [HM.out, HD.out]
  have H1 := Lib.hid h1
  have H2 := Lib.hid h2
  have HB := Lib.hid hb
  clear h1 h2 hb CF
  go_wp2_with fail
  refine (C1.out _ _ _ H1.out).mono ?_; rintro e w2 ⟨u, rfl, hu, hb⟩
  have HU := Lib.hid (hu.base HB.out.size)
  have H2 := Lib.hid (H2.out.kept hb)
  have HB := Lib.hid (HB.out.trans (hb.mono HB.out.size))
  clear hu hb C1 H1
  go_wp2_with fail
  refine (C2.out _ _ _ H2.out).mono ?_; rintro e w3 ⟨v, rfl, hv, hb⟩
  have HV := Lib.hid (hv.base HB.out.size)
  have HU := Lib.hid (HU.out.kept hb)
  have HB := Lib.hid (HB.out.trans (hb.mono HB.out.size))
  clear hv hb C2 H2
  go_wp2_with fail
  go_ret3
  exact ⟨_, _, rfl, HU.out, HV.out, HB.out⟩
set_option maxHeartbeats 1600000 in
theorem cTabBad (a : Option Addr) (c n : Nat) (l : List Tk) (w : World) (hl : l.length = n) (h : IsTk w a l) (hn : n ≤ 300) (E : Int) (hE : (frA l).2.2 = E) (h0 : E ≠ 0) :
    Calls Tryz.prog 23 #[.slice a n c] w fun e w' => e = .returned (.tuple #[.slice none 0 0, .slice none 0 0, .int .i64 E]) ∧ Below w.heap.size w w' := by
  have CF := Lib.hid (cFreqs a c n l w hl h hn)
  rw [hE] at CF
  have e1 : (E != 0) = true := by rw [bne_iff_ne]; exact h0
  clear h hl hE h0
  go_enter Tryz.func23, Tryz.ntmps23
  go_wp2_with fail
  refine CF.out.mono ?_; rintro e w1 ⟨v1, v2, rfl, h1, h2, hb⟩
  go_wp2_with fail
  go_ret3
  exact ⟨rfl, hb⟩
theorem chk15 (f : List Int) (hl : f.length ≤ 1000) (hb : ∀ i, 0 ≤ f.getD i 0 ∧ f.getD i 0 ≤ 300) : (0 < used f → chkP f 15 = 0) ∧ (¬ 0 < used f → chkP f 15 ≠ 0) := by
  have hu := used_le f
  have ha : ¬ f.any badF = true := by
    rw [List.any_eq_true]
    rintro ⟨v, hv, hbv⟩
    obtain ⟨i, -, rfl⟩ := mem_idx hv
    have := hb i
    unfold badF at hbv
    simp only [Bool.or_eq_true, decide_eq_true_eq] at hbv
    omega
  unfold chkP
  rw [if_neg (by decide), if_neg (by omega), if_neg ha]
  refine ⟨fun h => ?_, fun h => ?_⟩
  · rw [if_neg (by omega), if_neg (by rw [show (15 : Int).toNat = 15 from rfl]; omega)]
  · rw [if_pos (by omega)]; decide
end Go.Proofs.YtipcdkemokkdfaaGreat

/- Layer 27: the codes of a book. -/
namespace Go.Proofs.YtipcdkemokkdfaaGreat
open Go.ChangeShapes Go.WideShapes Go.ChangeAt Go.RowKit
set_option linter.unusedVariables false
set_option linter.unusedSimpArgs false
set_option maxRecDepth 100000
open Bits hiding packF pack_length
open RunsMath KraftMath CanonMath TurnMath Pm
/-- The codes, turned, as they are written. -/
def turnedTo (l : List Int) (k : Nat) : List Int := (List.range l.length).map fun s => if s < k then ((turn (code l s) (len l s) : Nat) : Int) else ((code l s : Nat) : Int)
def turnedL (l : List Int) : List Int := (List.range l.length).map fun s => ((turn (code l s) (len l s) : Nat) : Int)
theorem turnedTo_len (l : List Int) (k : Nat) : (turnedTo l k).length = l.length := by simp [turnedTo]
theorem turnedL_len (l : List Int) : (turnedL l).length = l.length := by simp [turnedL]
theorem turnedTo_zero {l : List Int} (h : check l 16 = 0) : turnedTo l 0 = codesL l := by
  apply List.ext_getElem
  · rw [turnedTo_len, codes_len h]
  · intro i h1 h2
    have hi : i < l.length := by rw [turnedTo_len] at h1; exact h1
    have := codes_at h hi
    rw [List.getD_eq_getElem?_getD, List.getElem?_eq_getElem h2, Option.getD_some] at this
    rw [this]
    simp [turnedTo]
theorem turnedTo_end (l : List Int) : turnedTo l l.length = turnedL l := by
  apply List.ext_getElem
  · rw [turnedTo_len, turnedL_len]
  · intro i h1 h2
    have hi : i < l.length := by rw [turnedTo_len] at h1; exact h1
    simp [turnedTo, turnedL, hi]
theorem turnedTo_at {l : List Int} {k i : Nat} (hi : i < l.length) : (turnedTo l k).getD i 0 = if i < k then ((turn (code l i) (len l i) : Nat) : Int) else ((code l i : Nat) : Int) := by
  rw [List.getD_eq_getElem?_getD, List.getElem?_eq_getElem (by rw [turnedTo_len]; exact hi)]
  simp [turnedTo]
theorem turnedL_at {l : List Int} {i : Nat} (hi : i < l.length) : (turnedL l).getD i 0 = ((turn (code l i) (len l i) : Nat) : Int) := by
  rw [List.getD_eq_getElem?_getD, List.getElem?_eq_getElem (by rw [turnedL_len]; exact hi)]
  simp [turnedL]
theorem turnedTo_next {l : List Int} {k : Nat} (hk : k < l.length) : turnedTo l (k + 1) = (turnedTo l k).set k ((turn (code l k) (len l k) : Nat) : Int) := by
  apply List.ext_getElem
  · rw [List.length_set, turnedTo_len, turnedTo_len]
  · intro i h1 h2
    have hi : i < l.length := by rw [turnedTo_len] at h1; exact h1
    rw [List.getElem_set]
    by_cases e : k = i
    · subst e; simp [turnedTo]
    · rw [if_neg e]
      have : (i < k + 1) = (i < k) := by simp; omega
      simp [turnedTo, this]
set_option maxHeartbeats 3200000 in
theorem cBook (a : Option Addr) (c : Nat) (l : List Int) (w : World) (h : IsInts w a l) (hE : check l 16 = 0) (hl : l.length ≤ 1000) (h0 : l ≠ []) :
    Calls Tryz.prog 24 #[.slice a l.length c] w fun e w' => ∃ v, e = .returned (.agg #[v, .slice a l.length c]) ∧ OwnI w.heap.size w' v (turnedL l) ∧ Below w.heap.size w w' := by
  have HI := Lib.hid h
  have CC := Lib.hid (fun W h => cCodesO a c l W h hE)
  have HCB := Lib.hid (fun s hs => ok_c (l := l) hE (s := s) hs)
  have HLB := Lib.hid (fun s hs => ok_b (l := l) hE s hs)
  have HLI := Lib.hid (fun s hs => lenI (l := l) hE (s := s) hs)
  have hz := turnedTo_zero hE
  rw [← hz] at CC
  have hl0 : 0 < l.length := List.length_pos_iff.2 h0
  clear h hE hz h0
  go_enter Tryz.func24, Tryz.ntmps24
  have hq := heap_alloc_new w (.cells #[.slice none 0 0, .slice none 0 0] 69)
  have HB := Lib.hid ((Below.refl w.heap.size w).alloc (Nat.le_refl _) (.cells #[.slice none 0 0, .slice none 0 0] 69))
  obtain ⟨gb, hg⟩ : ∃ gb, w.heap.size = gb := ⟨_, rfl⟩
  have HG := Lib.hid hg
  obtain ⟨w1, hw1⟩ : ∃ w1, w.alloc (.cells #[.slice none 0 0, .slice none 0 0] 69) = w1 := ⟨_, rfl⟩
  go_wp2_with fail
  rw [hg, hw1] at hq HB
  have HQ := Lib.hid hq
  clear hq hg hw1
  refine (CC.out w1 (HI.out.kept (by rw [HG.out]; exact HB.out))).mono ?_; rintro e w2 ⟨v2, rfl, ho2, hb2⟩
  obtain ⟨gc, cc, rfl, hgc1, hgc2⟩ := own_getI ho2 (by rw [turnedTo_len]; omega)
  have HO2 := Lib.hid (show OwnI (gb + 1) w2 (.slice (some ⟨gc, 0, none⟩) l.length cc) (turnedTo l 0) from by
    rw [turnedTo_len] at ho2
    exact OwnS.base ho2 (block_lt HQ.out))
  have HQ2 := Lib.hid ((hb2.block _ (block_lt HQ.out)).trans HQ.out)
  have HB2 := Lib.hid (show Below gb w w2 from HB.out.trans (hb2.mono (by have := block_lt HQ.out; omega)))
  rw [turnedTo_len]
  clear ho2 hb2 HQ HB CC
  go_wp2_with fail
  go_loopw [13] (fun i wr => ∃ k : Nat, k ≤ l.length ∧ i = .int .i64 k ∧ Hid (OwnI (gb + 1) wr (.slice (some ⟨gc, 0, none⟩) l.length cc) (turnedTo l k)) ∧ Hid (wr.heap[gb]? = some (.cells #[.slice none 0 0, .slice none 0 0] 69 (0, 0))) ∧ Hid (Below gb w wr)) (fun i _ => l.length - (intOf i).toNat)
  case atStart => exact ⟨0, Nat.zero_le _, rfl, HO2, HQ2, HB2⟩
  case round =>
    clear HO2 HQ2 HB2
    obtain ⟨k, hk, rfl, ho, hq, hb⟩ := hrel
    by_cases hlt : k < l.length
    · obtain ⟨x, rfl, -, cx⟩ := (HI.out.kept (by rw [HG.out]; exact hb.out)).at k hlt
      have co := cx k hlt
      rw [HLI.out k hlt] at co
      have hat := turnedTo_at (l := l) (k := k) hlt
      rw [if_neg (Nat.lt_irrefl k)] at hat
      have cf := OwnS.int_cell ho.out k (by rw [turnedTo_len]; exact hlt)
      rw [hat] at cf
      have ff := ho.out.free k
      have hgw := (OwnS.lt ho.out gc rfl).2
      have hC := HCB.out k hlt
      have hLb := HLB.out k hlt
      have hnx := turnedTo_next hlt
      have hst := OwnS.set_int ho.out k ((turn (code l k) (len l k) : Nat) : Int) (by rw [turnedTo_len]; exact hlt)
      rw [← hnx] at hst
      obtain ⟨C, hCC⟩ : ∃ C, code l k = C := ⟨_, rfl⟩
      obtain ⟨LN, hLN⟩ : ∃ LN, len l k = LN := ⟨_, rfl⟩
      rw [hCC] at cf hC hst
      rw [hLN] at co hC hLb hst
      have CT := Lib.hid (fun W => show Calls Tryz.prog 39 #[.int .i64 (C : Int), .int .i64 (LN : Int)] W fun e w' => e = .returned (.int .i64 (turn C LN : Nat)) ∧ w' = W by
        have h16 : 2 ^ LN ≤ 2 ^ 16 := Nat.pow_le_pow_right (by decide) hLb.2
        have := bTurned (C : Int) LN (by omega) W
        rw [show ((C : Int) % 4294967296).toNat = C by omega] at this
        exact this)
      obtain ⟨X, hX⟩ : ∃ X, turn C LN = X := ⟨_, rfl⟩
      rw [hX] at CT hst
      have HST := Lib.hid (show OwnI (gb + 1) ((wr.setCell ⟨gc, k, none⟩ (.int .i64 (X : Int))).drew) (.slice (some ⟨gc, 0, none⟩) l.length cc) (turnedTo l (k + 1)) from OwnS.drew hst)
      have hgcb := (OwnS.lt ho.out gc rfl).1
      have HBN := Lib.hid (show Below gb w ((wr.setCell ⟨gc, k, none⟩ (.int .i64 (X : Int))).drew) from (hb.out.setCell (p := ⟨gc, k, none⟩) (by show gb ≤ gc; omega) _).drew)
      have HQN := Lib.hid (show ((wr.setCell ⟨gc, k, none⟩ (.int .i64 (X : Int))).drew).heap[gb]? = some (.cells #[.slice none 0 0, .slice none 0 0] 69 (0, 0)) from by
        have := (World.grownBy_setCell (w := wr) ⟨gc, k, none⟩ (.int .i64 (X : Int))).block gb (block_lt hq.out) (by intro e; injection e with e; simp only at e; omega)
        exact this.trans hq.out)
      have hki : (k : Int) < (l.length : Int) := by omega
      have hk0 : (0 : Int) ≤ (k : Int) := by omega
      clear cx hat hC hLb hnx hst hCC hLN hX ho hq hb
      go_wp2_with fail
      go_region_with (first | (go_at_call 39; (with_reducible refine (CT.out _).mono ?_; rintro e wx ⟨rfl, rfl⟩)) | fail)
      all_goals go_wp2_with fail
      all_goals go_roundw
      all_goals first | exact ⟨k + 1, by omega, by go_num, HST, HQN, HBN⟩ | (simp [intOf]; omega)
    · obtain rfl : k = l.length := by omega
      have hki : ¬ (l.length : Int) < (l.length : Int) := by omega
      rw [turnedTo_end] at ho
      have c0 := cell_lit hq.out 0 _ rfl
      have c1 := cell_lit hq.out 1 _ rfl
      have f0 := free_in hq.out 0
      have f1 := free_in hq.out 1
      have lg := block_lt hq.out
      go_wp2_with fail
      have hz := block_set (block_set hq.out 0 (.slice (some ⟨gc, 0, none⟩) l.length cc)) 1 (.slice a l.length c)
      have d0 := cell_lit hz 0 (.slice (some ⟨gc, 0, none⟩) l.length cc) rfl
      have d1 := cell_lit hz 1 (.slice a l.length c) rfl
      have HX1 := Lib.hid ((ho.out.setLow (p := ⟨gb, 0, none⟩) (by show gb < gb + 1; omega) (.slice (some ⟨gc, 0, none⟩) l.length cc)).setLow (p := ⟨gb, 1, none⟩) (by show gb < gb + 1; omega) (.slice a l.length c))
      have HX3 := Lib.hid ((hb.out.setCell (p := ⟨gb, 0, none⟩) (Nat.le_refl _) (.slice (some ⟨gc, 0, none⟩) l.length cc)).setCell (p := ⟨gb, 1, none⟩) (Nat.le_refl _) (.slice a l.length c))
      exact bodyPost_ret (v := .agg #[_, _]) (by simp [results, Tryz.results24, go_sem, d0, d1]) rfl ⟨_, rfl, OwnS.base HX1.out (by rw [HG.out]; omega), by rw [HG.out]; exact HX3.out⟩
end Go.Proofs.YtipcdkemokkdfaaGreat

/- Layer 27: a symbol is put. -/
namespace Go.Proofs.YtipcdkemokkdfaaGreat
open Go.ChangeShapes Go.WideShapes Go.ChangeAt Go.RowKit
set_option linter.unusedVariables false
set_option linter.unusedSimpArgs false
set_option maxRecDepth 100000
open Bits hiding packF pack_length
open RunsMath KraftMath CanonMath TurnMath Pm
/-- What a book of codes is, for a writer in block g. -/
structure Bk (w : World) (g : Nat) (a1 a2 : Option Addr) (l : List Int) : Prop where
  codes : IsInts w a1 (turnedL l)
  lens : IsInts w a2 l
  f1 : ∀ x, a1 = some x → ¬ foot w g x.block
  f2 : ∀ x, a2 = some x → ¬ foot w g x.block
  ok : check l 16 = 0
theorem ints_blk {w : World} {x : Addr} {l : List Int} (h : IsInts w (some x) l) (h0 : 0 < l.length) : x.block < w.heap.size := by
  obtain ⟨y, e, hb, -⟩ := h.at 0 h0
  injection e with e
  subst e; exact hb
theorem Bk.pen {w w' : World} {g B : Nat} {bits : List Bool} {a1 a2 : Option Addr} {l : List Int} (h : Bk w g a1 a2 l) (p : PenW w w' g B bits) (h0 : l ≠ []) : Bk w' g a1 a2 l := by
  have hl0 : 0 < l.length := List.length_pos_iff.2 h0
  refine ⟨p.ints h.codes h.f1, p.ints h.lens h.f2, fun x hx e => ?_, fun x hx e => ?_, h.ok⟩
  · rcases p.2.2 _ e with e | e
    · exact h.f1 x hx e
    · subst hx; have := ints_blk h.codes (by rw [turnedL_len]; exact hl0); omega
  · rcases p.2.2 _ e with e | e
    · exact h.f2 x hx e
    · subst hx; have := ints_blk h.lens hl0; omega
set_option maxHeartbeats 3200000 in
theorem cBkPut (w0 : World) (g B : Nat) (bits : List Bool) (h : IsWriter w0 g B bits) (hbl : bits.length ≤ 900000) (a1 a2 : Option Addr) (c1 c2 n : Nat) (l : List Int) (hn : l.length = n) (hbk : Bk w0 g a1 a2 l) (hl : n ≤ 1000) (s : Nat) (hs : s < n) (hs16 : len l s ≤ 15) :
    Calls Tryz.prog 48 #[.agg #[.slice a1 n c1, .slice a2 n c2], .pointer (some ⟨g, 0, none⟩), .int .i64 s] w0 fun e w' => e = .returned (.tuple #[]) ∧ PenW w0 w' g B (bits ++ bitsS l (s : Int)) := by
  obtain ⟨xc, he, hxcl, cxc⟩ := hbk.codes.at s (by rw [turnedL_len, hn]; exact hs)
  subst he
  obtain ⟨xo, he, hxol, cxo⟩ := hbk.lens.at s (by rw [hn]; exact hs)
  subst he
  have cc := cxc s (by rw [turnedL_len, hn]; exact hs)
  have co := cxo s (by rw [hn]; exact hs)
  rw [turnedL_at (by rw [hn]; exact hs)] at cc
  rw [lenI hbk.ok (by rw [hn]; exact hs)] at co
  have hbs : bitsS l (s : Int) = bitsOf (turn (code l s) (len l s)) (len l s) := by unfold bitsS; rw [Int.toNat_natCast, code_bits]
  rw [hbs]
  have hfc := hbk.f1 xc rfl
  have hfo := hbk.f2 xo rfl
  obtain ⟨L, hL⟩ : ∃ L, len l s = L := ⟨_, rfl⟩
  obtain ⟨X, hX⟩ : ∃ X, turn (code l s) L = X := ⟨_, rfl⟩
  rw [hL] at cc co hs16 ⊢
  rw [hX] at cc ⊢
  have hXn : X < 2 ^ L := by rw [← hX]; exact turn_lt _ L
  have h15 : 2 ^ L ≤ 32768 := Nat.le_trans (Nat.pow_le_pow_right (by decide) hs16) (by decide)
  have hsi : (s : Int) < (n : Int) := by omega
  have hs0 : (0 : Int) ≤ (s : Int) := by omega
  have hu1 : IntKind.u64.wrap (X : Int) = (X : Int) := IntWalk.u64_in _ (by omega)
  have hAL : Below w0.heap.size w0 (w0.alloc (.cells #[.slice (some xc) n c1, .slice (some xo) n c2] 69)) := (Below.refl _ _).alloc (Nat.le_refl _) _
  have HPB := Lib.hid ((PenW.start h).below hAL)
  have HBX := Lib.hid (heap_alloc_new w0 (.cells #[.slice (some xc) n c1, .slice (some xo) n c2] 69))
  have hfb := PenW.foot_iff h hAL
  have HFX := Lib.hid (show ¬ foot (w0.alloc (.cells #[.slice (some xc) n c1, .slice (some xo) n c2] 69)) g w0.heap.size from fun e => by
    have := foot_lt h _ ((hfb _).1 e)
    omega)
  have hFC : ¬ foot (w0.alloc (.cells #[.slice (some xc) n c1, .slice (some xo) n c2] 69)) g xc.block := fun e => hfc ((hfb _).1 e)
  have hFO : ¬ foot (w0.alloc (.cells #[.slice (some xc) n c1, .slice (some xo) n c2] 69)) g xo.block := fun e => hfo ((hfb _).1 e)
  have ccb := (hAL.cell (cell_block cc)).trans cc
  have cob := (hAL.cell (cell_block co)).trans co
  obtain ⟨gx, hgx⟩ : ∃ gx, w0.heap.size = gx := ⟨_, rfl⟩
  obtain ⟨wb, hwb⟩ : ∃ wb, w0.alloc (.cells #[.slice (some xc) n c1, .slice (some xo) n c2] 69) = wb := ⟨_, rfl⟩
  have hgxb : gx < wb.heap.size := by rw [← hwb, ← hgx]; simp
  have hxcw : xc.block < wb.heap.size := by rw [← hwb]; simp; omega
  have hxow : xo.block < wb.heap.size := by rw [← hwb]; simp; omega
  have HGX := Lib.hid hgx
  rw [hwb] at HPB HBX HFX ccb cob hFC hFO
  rw [hgx] at HBX HFX
  have HFC := Lib.hid hFC
  have HFO := Lib.hid hFO
  have b0 := cell_lit HBX.out 0 (.slice (some xc) n c1) rfl
  have b1 := cell_lit HBX.out 1 (.slice (some xo) n c2) rfl
  have HS0' := Lib.hid (show (wb.cell? ⟨gx, 0, none⟩ = some (.slice (some xc) n c1) ∧ wb.cell? ⟨gx, 1, none⟩ = some (.slice (some xo) n c2)) ∧ wb.cell? (xc.add s) = some (.int .i64 (X : Int)) ∧ wb.cell? (xo.add s) = some (.int .i64 (L : Int)) from ⟨⟨b0, b1⟩, ccb, cob⟩)
  have CPT := Lib.hid (pPutD wb g B bits X L HPB.out.1 (by omega) hXn (by omega))
  clear cxc cxo cc co hbk hbs hfc hfo hL hX hAL hfb h hxcl hxol hFC hFO hs hn h15
  go_enter Tryz.func48, Tryz.ntmps48
  go_wp2_with fail
  try rw [hgx]
  try rw [hwb]
  clear hgx hwb b0 b1 ccb cob
  go_region_held3 (fun V => (V.cell? ⟨gx, 0, none⟩ = some (.slice (some xc) n c1) ∧ V.cell? ⟨gx, 1, none⟩ = some (.slice (some xo) n c2)) ∧ V.cell? (xc.add s) = some (.int .i64 (X : Int)) ∧ V.cell? (xo.add s) = some (.int .i64 (L : Int))) (first | exact HS0'.out | exact HS1.out | fail) (first | (go_at_call 27; (with_reducible refine CPT.out.mono ?_; rintro e w8 ⟨rfl, hp8⟩; have HP8 := Lib.hid hp8; have HS1 := Lib.hid (show (w8.cell? ⟨gx, 0, none⟩ = some (.slice (some xc) n c1) ∧ w8.cell? ⟨gx, 1, none⟩ = some (.slice (some xo) n c2)) ∧ w8.cell? (xc.add s) = some (.int .i64 (X : Int)) ∧ w8.cell? (xo.add s) = some (.int .i64 (L : Int)) from ⟨⟨(hp8.cell hgxb HFX.out).trans HS0'.out.1.1, (hp8.cell (p := ⟨gx, 1, none⟩) hgxb HFX.out).trans HS0'.out.1.2⟩, (hp8.cell (by rw [add_block]; exact hxcw) (by rw [add_block]; exact HFC.out)).trans HS0'.out.2.1, (hp8.cell (by rw [add_block]; exact hxow) (by rw [add_block]; exact HFO.out)).trans HS0'.out.2.2⟩); clear hp8)) | fail)
  have HPF := Lib.hid (HPB.out.chain HP8.out)
  go_end0
  exact ⟨rfl, HPF.out⟩
end Go.Proofs.YtipcdkemokkdfaaGreat

/- Layer 27: a token is put. -/
namespace Go.Proofs.YtipcdkemokkdfaaGreat
open Go.ChangeShapes Go.WideShapes Go.ChangeAt Go.RowKit
set_option linter.unusedVariables false
set_option linter.unusedSimpArgs false
set_option maxRecDepth 100000
open Bits hiding packF pack_length
open RunsMath KraftMath CanonMath TurnMath Pm
def extL (l : Nat) : List Bool := bitsOf (l - Tok.tbL (Tok.slotL l)) (Tok.exL (Tok.slotL l))
def extD (d : Nat) : List Bool := bitsOf (d - Slo.tbD (Slo.slotD d)) (Slo.exD (Slo.slotD d))
/-- A token's bits. -/
def tokB (M D : List Int) (t : Tk) : List Bool :=
  bitsS M (symN t : Int) ++ (if t.k = 0 then [] else extL t.l.toNat ++ (if t.k = 1 then bitsS D (Slo.slotD t.d.toNat : Int) ++ extD t.d.toNat else []))
theorem heap_three (w : World) (A B C : Obj) : (((w.alloc A).alloc B).alloc C).heap[w.heap.size]? = some A ∧ (((w.alloc A).alloc B).alloc C).heap[w.heap.size + 1]? = some B ∧ (((w.alloc A).alloc B).alloc C).heap[w.heap.size + 1 + 1]? = some C := by
  have e1 := World.size_alloc w A
  have e2 := World.size_alloc (w.alloc A) B
  refine ⟨?_, ?_, ?_⟩
  · rw [Below.heap_alloc _ _ _ (by omega), Below.heap_alloc _ _ _ (by omega)]; exact heap_alloc_new w A
  · rw [Below.heap_alloc _ _ _ (by omega)]
    have := heap_alloc_new (w.alloc A) B
    rwa [e1] at this
  · have := heap_alloc_new ((w.alloc A).alloc B) C
    rwa [e2, e1] at this
theorem Bk.below {w w' : World} {g B : Nat} {bits : List Bool} {a1 a2 : Option Addr} {l : List Int} (h : Bk w g a1 a2 l) (hw : IsWriter w g B bits) (hb : Below w.heap.size w w') : Bk w' g a1 a2 l := by
  have hf := PenW.foot_iff hw hb
  exact ⟨h.codes.kept hb, h.lens.kept hb, fun x hx e => h.f1 x hx ((hf _).1 e), fun x hx e => h.f2 x hx ((hf _).1 e), h.ok⟩
/-- What stands while a token is put. -/
structure Ptk (wb w : World) (g B gx : Nat) (bits bits' : List Bool) (c5 c6 c7 : Array Value) : Prop where
  pen : PenW wb w g B bits'
  b5 : wb.heap[gx]? = some (.cells c5 42 (0, 0))
  b6 : wb.heap[gx + 1]? = some (.cells c6 69 (0, 0))
  b7 : wb.heap[gx + 1 + 1]? = some (.cells c7 69 (0, 0))
  f : ∀ k, gx ≤ k → k < wb.heap.size → ¬ foot wb g k
theorem Ptk.on {wb w w' : World} {g B gx : Nat} {bits b1 b2 : List Bool} {c5 c6 c7 : Array Value} (h : Ptk wb w g B gx bits b1 c5 c6 c7) (p : PenW w w' g B b2) : Ptk wb w' g B gx bits b2 c5 c6 c7 := ⟨h.pen.chain p, h.b5, h.b6, h.b7, h.f⟩
theorem Ptk.below {wb w w' : World} {g B gx : Nat} {bits b1 : List Bool} {c5 c6 c7 : Array Value} (h : Ptk wb w g B gx bits b1 c5 c6 c7) (hb : Below w.heap.size w w') : Ptk wb w' g B gx bits b1 c5 c6 c7 := ⟨h.pen.below hb, h.b5, h.b6, h.b7, h.f⟩
theorem Ptk.c5 {wb w : World} {g B gx : Nat} {bits b1 : List Bool} {c5 c6 c7 : Array Value} (h : Ptk wb w g B gx bits b1 c5 c6 c7) (j : Nat) (v : Value) (hv : c5[j]? = some v) : w.cell? ⟨gx, j, none⟩ = some v := (h.pen.cell (p := ⟨gx, j, none⟩) (block_lt h.b5) (h.f gx (Nat.le_refl _) (block_lt h.b5))).trans (cell_lit h.b5 j v hv)
theorem Ptk.c6 {wb w : World} {g B gx : Nat} {bits b1 : List Bool} {c5 c6 c7 : Array Value} (h : Ptk wb w g B gx bits b1 c5 c6 c7) (j : Nat) (v : Value) (hv : c6[j]? = some v) : w.cell? ⟨gx + 1, j, none⟩ = some v := (h.pen.cell (p := ⟨gx + 1, j, none⟩) (block_lt h.b6) (h.f (gx + 1) (by omega) (block_lt h.b6))).trans (cell_lit h.b6 j v hv)
theorem Ptk.c7 {wb w : World} {g B gx : Nat} {bits b1 : List Bool} {c5 c6 c7 : Array Value} (h : Ptk wb w g B gx bits b1 c5 c6 c7) (j : Nat) (v : Value) (hv : c7[j]? = some v) : w.cell? ⟨gx + 1 + 1, j, none⟩ = some v := (h.pen.cell (p := ⟨gx + 1 + 1, j, none⟩) (block_lt h.b7) (h.f (gx + 1 + 1) (by omega) (block_lt h.b7))).trans (cell_lit h.b7 j v hv)
theorem ptk_start {w0 : World} {g B : Nat} {bits : List Bool} (h : IsWriter w0 g B bits) (c5 c6 c7 : Array Value) : Ptk (((w0.alloc (.cells c5 42)).alloc (.cells c6 69)).alloc (.cells c7 69)) (((w0.alloc (.cells c5 42)).alloc (.cells c6 69)).alloc (.cells c7 69)) g B w0.heap.size bits bits c5 c6 c7 := by
  have hb : Below w0.heap.size w0 (((w0.alloc (.cells c5 42)).alloc (.cells c6 69)).alloc (.cells c7 69)) := (((Below.refl _ w0).alloc (Nat.le_refl _) _).alloc (by simp) _).alloc (by simp; omega) _
  obtain ⟨h1, h2, h3⟩ := heap_three w0 (.cells c5 42) (.cells c6 69) (.cells c7 69)
  refine ⟨PenW.start ((PenW.start h).below hb).1, h1, h2, h3, fun k hk _ e => ?_⟩
  have := foot_lt h _ ((PenW.foot_iff h hb k).1 e)
  omega
theorem pen_of {w0 wb w : World} {g B : Nat} {bits b2 : List Bool} (h : IsWriter w0 g B bits) (hb : Below w0.heap.size w0 wb) (p : PenW wb w g B b2) : PenW w0 w g B b2 := ((PenW.start h).below hb).chain p
set_option maxHeartbeats 6400000 in
theorem cTokLit (w0 : World) (g B : Nat) (bits : List Bool) (h : IsWriter w0 g B bits) (hbl : bits.length ≤ 800000) (b : Int) (hb : 0 ≤ b ∧ b ≤ 255) (a1 a2 : Option Addr) (c1 c2 : Nat) (M D : List Int) (hM : M.length = 401) (hbM : Bk w0 g a1 a2 M) (hML : ∀ s, s < 401 → len M s ≤ 15) (dv1 dv2 : Value) (hd1 : dv1.oneCell' = true) (hd2 : dv2.oneCell' = true) :
    Calls Tryz.prog 28 #[.pointer (some ⟨g, 0, none⟩), .agg #[.int .i64 0, .int .i64 b, .int .i64 0, .int .i64 0, .int .i64 0], .agg #[.slice a1 401 c1, .slice a2 401 c2], .agg #[dv1, dv2]] w0 fun e w' => e = .returned (.int .i64 0) ∧ PenW w0 w' g B (bits ++ tokB M D ⟨0, b, 0, 0, 0⟩) := by
  have hok : Tok.OkTok 0 b 0 0 0 := .inl ⟨rfl, hb.1, hb.2, rfl, rfl, rfl⟩
  obtain ⟨s, hs⟩ : ∃ s : Nat, b = s := ⟨b.toNat, by omega⟩
  subst hs
  have hsym : Tok.symTok 0 (s : Int) 0 0 0 = (s : Int) := by unfold Tok.symTok; rw [if_pos hok, if_pos rfl]
  have hchk : Tok.chk 0 (s : Int) 0 0 0 = 0 := by unfold Tok.chk; exact if_pos hok
  have htk : tokB M D ⟨0, (s : Int), 0, 0, 0⟩ = bitsS M (s : Int) := by
    unfold tokB symN
    rw [show (⟨0, (s : Int), 0, 0, 0⟩ : Tk).k = 0 from rfl, if_pos rfl, List.append_nil]
    show bitsS M ((Tok.symTok 0 (s : Int) 0 0 0).toNat : Int) = _
    rw [hsym, Int.toNat_natCast]
  rw [htk]
  have CS := Lib.hid (fun W => by have := Tok.sym_any 0 (s : Int) 0 0 0 W; rw [hsym, hchk] at this; exact this)
  obtain ⟨gx, hgx⟩ : ∃ gx, w0.heap.size = gx := ⟨_, rfl⟩
  have hbw : Below w0.heap.size w0 (((w0.alloc (.cells #[.int .i64 0, .int .i64 (s : Int), .int .i64 0, .int .i64 0, .int .i64 0] 42)).alloc (.cells #[.slice a1 401 c1, .slice a2 401 c2] 69)).alloc (.cells #[dv1, dv2] 69)) := (((Below.refl _ w0).alloc (Nat.le_refl _) _).alloc (by simp) _).alloc (by simp; omega) _
  have HP0 := Lib.hid (ptk_start h #[.int .i64 0, .int .i64 (s : Int), .int .i64 0, .int .i64 0, .int .i64 0] #[.slice a1 401 c1, .slice a2 401 c2] #[dv1, dv2])
  obtain ⟨wb, hwb⟩ : ∃ wb, (((w0.alloc (.cells #[.int .i64 0, .int .i64 (s : Int), .int .i64 0, .int .i64 0, .int .i64 0] 42)).alloc (.cells #[.slice a1 401 c1, .slice a2 401 c2] 69)).alloc (.cells #[dv1, dv2] 69)) = wb := ⟨_, rfl⟩
  have HBK := Lib.hid (show Bk wb g a1 a2 M from by rw [← hwb]; exact hbM.below h hbw)
  rw [hwb] at HP0 hbw
  rw [hgx] at HP0
  have HBW := Lib.hid hbw
  have HW0 := Lib.hid h
  have HM0 := Lib.hid (show M ≠ [] from fun e => by rw [e] at hM; simp at hM)
  have HMM := Lib.hid hM
  have HML := Lib.hid hML
  have d0 := HP0.out.c5 0 _ rfl
  have d1 := HP0.out.c5 1 _ rfl
  have d2 := HP0.out.c5 2 _ rfl
  have d3 := HP0.out.c5 3 _ rfl
  have d4 := HP0.out.c5 4 _ rfl
  clear hbM h hbw hok hsym hchk htk hM hML
  go_enter Tryz.func28, Tryz.ntmps28
  go_wp2_with fail
  clear hwb hgx d0 d1 d2 d3 d4
  refine (CS.out wb).mono ?_; rintro e w1 ⟨rfl, hb1⟩
  have HP1 := Lib.hid (HP0.out.below hb1)
  have HBK1 := Lib.hid (HBK.out.pen HP1.out.pen HM0.out)
  have e0 := HP1.out.c6 0 _ rfl
  have e1 := HP1.out.c6 1 _ rfl
  clear hb1 CS HP0
  go_wp2_with fail
  clear e0 e1
  refine (cBkPut w1 g B bits HP1.out.pen.1 (by omega) a1 a2 c1 c2 401 M HMM.out HBK1.out (by decide) s (by omega) (HML.out _ (by omega))).mono ?_; rintro e w2 ⟨rfl, hp2⟩
  have HP2 := Lib.hid (HP1.out.on hp2)
  clear hp2 HP1 HBK1
  have d0 := HP2.out.c5 0 _ rfl
  go_wp2_with fail
  go_ret
  exact ⟨rfl, pen_of HW0.out HBW.out HP2.out.pen⟩
theorem extL_lt (l : Nat) (h2 : 2 ≤ l) (h : l ≤ 258) : l - Tok.tbL (Tok.slotL l) < 2 ^ Tok.exL (Tok.slotL l) ∧ Tok.exL (Tok.slotL l) ≤ 30 ∧ Tok.slotL l ≤ 28 := by
  have hf := Tok.slotL_facts ⟨l, by omega⟩ h2
  simp only at hf
  have := (Tok.tbL_bd (Tok.slotL l) (by omega)).2
  refine ⟨?_, this, hf.1⟩
  have key : ∀ n : Fin 259, 2 ≤ n.val → n.val - Tok.tbL (Tok.slotL n.val) < 2 ^ Tok.exL (Tok.slotL n.val) := by decide +kernel
  exact key ⟨l, by omega⟩ h2
theorem tokB_rep (M D : List Int) (l s : Nat) (b d r : Int) (hs : symN ⟨2, b, (l : Int), d, r⟩ = s) : tokB M D ⟨2, b, (l : Int), d, r⟩ = bitsS M (s : Int) ++ extL l := by
  unfold tokB
  rw [hs]
  show bitsS M (s : Int) ++ (extL (l : Int).toNat ++ []) = _
  rw [Int.toNat_natCast, List.append_nil]
theorem tokB_copy (M D : List Int) (l d s : Nat) (b r : Int) (hs : symN ⟨1, b, (l : Int), (d : Int), r⟩ = s) : tokB M D ⟨1, b, (l : Int), (d : Int), r⟩ = bitsS M (s : Int) ++ extL l ++ bitsS D (Slo.slotD d : Int) ++ extD d := by
  unfold tokB
  rw [hs]
  show bitsS M (s : Int) ++ (extL (l : Int).toNat ++ (bitsS D (Slo.slotD (d : Int).toNat : Int) ++ extD (d : Int).toNat)) = _
  rw [Int.toNat_natCast, Int.toNat_natCast]
  simp only [List.append_assoc]
theorem pPut (w : World) (g B : Nat) (l : List Bool) (x n : Nat) (h : IsWriter w g B l) (hn : n ≤ 56) (hx : x < 2 ^ n) (hl : l.length + n ≤ 1000000000000) :
    Calls Tryz.prog 27 #[.pointer (some ⟨g, 0, none⟩), .int .u64 x, .int .i64 n] w fun e w' => e = .returned (.int .i64 0) ∧ PenW w w' g B (l ++ bitsOf x n) :=
  (wPut w g B l x n h hn hx hl).mono fun e w' h => ⟨h.1, h.2.1, h.2.2.1, h.2.2.2⟩
theorem bitsS_few {l : List Int} {s : Nat} (h : len l s ≤ 15) : (bitsS l (s : Int)).length ≤ 15 := by
  unfold bitsS; rw [Int.toNat_natCast, msb_len]; exact h
set_option maxHeartbeats 6400000 in
theorem cTokRep (w0 : World) (g B : Nat) (bits : List Bool) (h : IsWriter w0 g B bits) (hbl : bits.length ≤ 800000) (l r : Nat) (hl : 2 ≤ l ∧ l ≤ 258) (hr : r ≤ 3) (a1 a2 : Option Addr) (c1 c2 : Nat) (M D : List Int) (hM : M.length = 401) (hbM : Bk w0 g a1 a2 M) (hML : ∀ s, s < 401 → len M s ≤ 15) (dv1 dv2 : Value) (hd1 : dv1.oneCell' = true) (hd2 : dv2.oneCell' = true) :
    Calls Tryz.prog 28 #[.pointer (some ⟨g, 0, none⟩), .agg #[.int .i64 2, .int .i64 0, .int .i64 (l : Int), .int .i64 0, .int .i64 (r : Int)], .agg #[.slice a1 401 c1, .slice a2 401 c2], .agg #[dv1, dv2]] w0 fun e w' => e = .returned (.int .i64 0) ∧ PenW w0 w' g B (bits ++ tokB M D ⟨2, 0, (l : Int), 0, (r : Int)⟩) := by
  have hok : Tok.OkTok 2 0 (l : Int) 0 (r : Int) := .inr (.inr ⟨rfl, by omega, by omega, by omega, by omega, rfl, rfl⟩)
  have hsl := (extL_lt l hl.1 hl.2).2.2
  obtain ⟨s, hs⟩ : ∃ s, 285 + 29 * r + Tok.slotL l = s := ⟨_, rfl⟩
  have hsym : Tok.symTok 2 0 (l : Int) 0 (r : Int) = (s : Int) := by
    unfold Tok.symTok
    rw [if_pos hok, if_neg (by decide), if_neg (by decide), Int.toNat_natCast]
    omega
  have hchk : Tok.chk 2 0 (l : Int) 0 (r : Int) = 0 := by unfold Tok.chk; exact if_pos hok
  have htk := tokB_rep M D l s 0 0 (r : Int) (by unfold symN; rw [hsym, Int.toNat_natCast])
  rw [htk]
  have hs400 : s < 401 := by omega
  have CS := Lib.hid (fun W => by have := Tok.sym_any 2 0 (l : Int) 0 (r : Int) W; rw [hsym, hchk] at this; exact this)
  clear hs hsl
  obtain ⟨gx, hgx⟩ : ∃ gx, w0.heap.size = gx := ⟨_, rfl⟩
  have hbw : Below w0.heap.size w0 (((w0.alloc (.cells #[.int .i64 2, .int .i64 0, .int .i64 (l : Int), .int .i64 0, .int .i64 (r : Int)] 42)).alloc (.cells #[.slice a1 401 c1, .slice a2 401 c2] 69)).alloc (.cells #[dv1, dv2] 69)) := (((Below.refl _ w0).alloc (Nat.le_refl _) _).alloc (by simp) _).alloc (by simp; omega) _
  have HP0 := Lib.hid (ptk_start h #[.int .i64 2, .int .i64 0, .int .i64 (l : Int), .int .i64 0, .int .i64 (r : Int)] #[.slice a1 401 c1, .slice a2 401 c2] #[dv1, dv2])
  obtain ⟨wb, hwb⟩ : ∃ wb, (((w0.alloc (.cells #[.int .i64 2, .int .i64 0, .int .i64 (l : Int), .int .i64 0, .int .i64 (r : Int)] 42)).alloc (.cells #[.slice a1 401 c1, .slice a2 401 c2] 69)).alloc (.cells #[dv1, dv2] 69)) = wb := ⟨_, rfl⟩
  have HBK := Lib.hid (show Bk wb g a1 a2 M from by rw [← hwb]; exact hbM.below h hbw)
  rw [hwb] at HP0 hbw
  rw [hgx] at HP0
  have HBW := Lib.hid hbw
  have HW0 := Lib.hid h
  have HM0 := Lib.hid (show M ≠ [] from fun e => by rw [e] at hM; simp at hM)
  have HMM := Lib.hid hM
  have HML := Lib.hid hML
  have d0 := HP0.out.c5 0 _ rfl
  have d1 := HP0.out.c5 1 _ rfl
  have d2 := HP0.out.c5 2 _ rfl
  have d3 := HP0.out.c5 3 _ rfl
  have d4 := HP0.out.c5 4 _ rfl
  clear hbM h hbw hok hsym hchk htk hM hML
  go_enter Tryz.func28, Tryz.ntmps28
  go_wp2_with fail
  clear hwb hgx d0 d1 d2 d3 d4
  refine (CS.out wb).mono ?_; rintro e w1 ⟨rfl, hb1⟩
  have HP1 := Lib.hid (HP0.out.below hb1)
  have HBK1 := Lib.hid (HBK.out.pen HP1.out.pen HM0.out)
  have e0 := HP1.out.c6 0 _ rfl
  have e1 := HP1.out.c6 1 _ rfl
  clear hb1 CS HP0
  go_wp2_with fail
  clear e0 e1
  refine (cBkPut w1 g B bits HP1.out.pen.1 (by omega) a1 a2 c1 c2 401 M HMM.out HBK1.out (by decide) s (by omega) (HML.out _ (by omega))).mono ?_; rintro e w2 ⟨rfl, hp2⟩
  have HP2 := Lib.hid (HP1.out.on hp2)
  clear hp2 HP1 HBK1
  have f0 := HP2.out.c5 0 _ rfl
  have f2 := HP2.out.c5 2 _ rfl
  obtain ⟨hx1, hx2, hx3⟩ := extL_lt l hl.1 hl.2
  have CL := Lib.hid (fun W => Tok.Len_in l hl.1 hl.2 W)
  have hXL : extL l = bitsOf (l - Tok.tbL (Tok.slotL l)) (Tok.exL (Tok.slotL l)) := rfl
  obtain ⟨XM, hXM⟩ : ∃ XM, l - Tok.tbL (Tok.slotL l) = XM := ⟨_, rfl⟩
  obtain ⟨XE, hXE⟩ : ∃ XE, Tok.exL (Tok.slotL l) = XE := ⟨_, rfl⟩
  rw [hXM, hXE] at CL hXL
  rw [hXM] at hx1
  rw [hXE] at hx1 hx2
  have HXL := Lib.hid hXL
  have hx30 : 2 ^ XE ≤ 2 ^ 30 := Nat.pow_le_pow_right (by decide) hx2
  have hu : IntKind.u64.wrap (XM : Int) = (XM : Int) := IntWalk.u64_in _ (by omega)
  have HX1 := Lib.hid hx1
  have HSB := Lib.hid (bitsS_few (HML.out s (by omega)))
  clear hXM hXE hXL hx1
  go_wp2_with fail
  refine (CL.out w2).mono ?_; rintro e w3 ⟨rfl, hb3⟩
  have HP3 := Lib.hid (HP2.out.below hb3)
  have g0 := HP3.out.c5 0 _ rfl
  clear hb3 HP2 CL f0 f2
  go_wp2_with fail
  refine (pPut w3 g B _ XM XE HP3.out.pen.1 (by omega) HX1.out (by rw [List.length_append]; have := HSB.out; omega)).mono ?_; rintro e w4 ⟨rfl, hp4⟩
  have HP4 := Lib.hid (HP3.out.on hp4)
  clear hp4 HP3 g0 hu
  have k0 := HP4.out.c5 0 _ rfl
  go_wp2_with fail
  go_ret
  exact ⟨rfl, by rw [← List.append_assoc, HXL.out]; exact pen_of HW0.out HBW.out HP4.out.pen⟩
theorem extD_lt (d : Nat) (h1 : 1 ≤ d) (h : d ≤ 67108864) : d - Slo.tbD (Slo.slotD d) < 2 ^ Slo.exD (Slo.slotD d) ∧ Slo.exD (Slo.slotD d) ≤ 30 ∧ Slo.slotD d ≤ 51 := by
  obtain ⟨f1, f2, -, f4, f5⟩ := Slo.slotD_facts d h1 h
  have hb := (Slo.tbD_bd (Slo.slotD d) (by omega)).2
  refine ⟨?_, hb, f1⟩
  by_cases hs : d - 1 < 4
  · obtain ⟨e1, e2⟩ := f5 hs
    rw [e1, e2]; simp
  · obtain ⟨-, -, e1, e2⟩ := f4 hs
    rw [← e2, e1]
    exact Nat.mod_lt _ (Nat.pow_pos (by decide))
set_option maxHeartbeats 6400000 in
theorem cTokCopy (w0 : World) (g B : Nat) (bits : List Bool) (h : IsWriter w0 g B bits) (hbl : bits.length ≤ 800000) (l d : Nat) (hl : 2 ≤ l ∧ l ≤ 258) (hd : 1 ≤ d ∧ d ≤ 67108864) (a1 a2 : Option Addr) (c1 c2 : Nat) (M D : List Int) (hM : M.length = 401) (hbM : Bk w0 g a1 a2 M) (hML : ∀ s, s < 401 → len M s ≤ 15) (b1 b2 : Option Addr) (e1 e2 : Nat) (hD : D.length = 52) (hbD : Bk w0 g b1 b2 D) (hDL : ∀ s, s < 52 → len D s ≤ 15) :
    Calls Tryz.prog 28 #[.pointer (some ⟨g, 0, none⟩), .agg #[.int .i64 1, .int .i64 0, .int .i64 (l : Int), .int .i64 (d : Int), .int .i64 0], .agg #[.slice a1 401 c1, .slice a2 401 c2], .agg #[.slice b1 52 e1, .slice b2 52 e2]] w0 fun e w' => e = .returned (.int .i64 0) ∧ PenW w0 w' g B (bits ++ tokB M D ⟨1, 0, (l : Int), (d : Int), 0⟩) := by
  have hok : Tok.OkTok 1 0 (l : Int) (d : Int) 0 := .inr (.inl ⟨rfl, by omega, by omega, by omega, by omega, rfl, rfl⟩)
  have hsl := (extL_lt l hl.1 hl.2).2.2
  obtain ⟨s, hs⟩ : ∃ s, 256 + Tok.slotL l = s := ⟨_, rfl⟩
  have hsym : Tok.symTok 1 0 (l : Int) (d : Int) 0 = (s : Int) := by
    unfold Tok.symTok
    rw [if_pos hok, if_neg (by decide), if_pos rfl, Int.toNat_natCast]
    omega
  have hchk : Tok.chk 1 0 (l : Int) (d : Int) 0 = 0 := by unfold Tok.chk; exact if_pos hok
  have htk := tokB_copy M D l d s 0 0 (by unfold symN; rw [hsym, Int.toNat_natCast])
  rw [htk]
  have hs400 : s < 401 := by omega
  have CS := Lib.hid (fun W => by have := Tok.sym_any 1 0 (l : Int) (d : Int) 0 W; rw [hsym, hchk] at this; exact this)
  clear hs hsl
  obtain ⟨gx, hgx⟩ : ∃ gx, w0.heap.size = gx := ⟨_, rfl⟩
  have hbw : Below w0.heap.size w0 (((w0.alloc (.cells #[.int .i64 1, .int .i64 0, .int .i64 (l : Int), .int .i64 (d : Int), .int .i64 0] 42)).alloc (.cells #[.slice a1 401 c1, .slice a2 401 c2] 69)).alloc (.cells #[.slice b1 52 e1, .slice b2 52 e2] 69)) := (((Below.refl _ w0).alloc (Nat.le_refl _) _).alloc (by simp) _).alloc (by simp; omega) _
  have HP0 := Lib.hid (ptk_start h #[.int .i64 1, .int .i64 0, .int .i64 (l : Int), .int .i64 (d : Int), .int .i64 0] #[.slice a1 401 c1, .slice a2 401 c2] #[.slice b1 52 e1, .slice b2 52 e2])
  obtain ⟨wb, hwb⟩ : ∃ wb, (((w0.alloc (.cells #[.int .i64 1, .int .i64 0, .int .i64 (l : Int), .int .i64 (d : Int), .int .i64 0] 42)).alloc (.cells #[.slice a1 401 c1, .slice a2 401 c2] 69)).alloc (.cells #[.slice b1 52 e1, .slice b2 52 e2] 69)) = wb := ⟨_, rfl⟩
  have HBK := Lib.hid (show Bk wb g a1 a2 M from by rw [← hwb]; exact hbM.below h hbw)
  have HBD := Lib.hid (show Bk wb g b1 b2 D from by rw [← hwb]; exact hbD.below h hbw)
  have HDD := Lib.hid hD
  have HDL := Lib.hid hDL
  have HD0 := Lib.hid (show D ≠ [] from fun e => by rw [e] at hD; simp at hD)
  clear hbD hD hDL
  rw [hwb] at HP0 hbw
  rw [hgx] at HP0
  have HBW := Lib.hid hbw
  have HW0 := Lib.hid h
  have HM0 := Lib.hid (show M ≠ [] from fun e => by rw [e] at hM; simp at hM)
  have HMM := Lib.hid hM
  have HML := Lib.hid hML
  have d0 := HP0.out.c5 0 _ rfl
  have d1 := HP0.out.c5 1 _ rfl
  have d2 := HP0.out.c5 2 _ rfl
  have d3 := HP0.out.c5 3 _ rfl
  have d4 := HP0.out.c5 4 _ rfl
  clear hbM h hbw hok hsym hchk htk hM hML
  go_enter Tryz.func28, Tryz.ntmps28
  go_wp2_with fail
  clear hwb hgx d0 d1 d2 d3 d4
  refine (CS.out wb).mono ?_; rintro e w1 ⟨rfl, hb1⟩
  have HP1 := Lib.hid (HP0.out.below hb1)
  have HBK1 := Lib.hid (HBK.out.pen HP1.out.pen HM0.out)
  have e0 := HP1.out.c6 0 _ rfl
  have e1 := HP1.out.c6 1 _ rfl
  clear hb1 CS HP0
  go_wp2_with fail
  clear e0 e1
  refine (cBkPut w1 g B bits HP1.out.pen.1 (by omega) a1 a2 c1 c2 401 M HMM.out HBK1.out (by decide) s (by omega) (HML.out _ (by omega))).mono ?_; rintro e w2 ⟨rfl, hp2⟩
  have HP2 := Lib.hid (HP1.out.on hp2)
  clear hp2 HP1 HBK1
  have f0 := HP2.out.c5 0 _ rfl
  have f2 := HP2.out.c5 2 _ rfl
  obtain ⟨hx1, hx2, hx3⟩ := extL_lt l hl.1 hl.2
  have CL := Lib.hid (fun W => Tok.Len_in l hl.1 hl.2 W)
  have hXL : extL l = bitsOf (l - Tok.tbL (Tok.slotL l)) (Tok.exL (Tok.slotL l)) := rfl
  obtain ⟨XM, hXM⟩ : ∃ XM, l - Tok.tbL (Tok.slotL l) = XM := ⟨_, rfl⟩
  obtain ⟨XE, hXE⟩ : ∃ XE, Tok.exL (Tok.slotL l) = XE := ⟨_, rfl⟩
  rw [hXM, hXE] at CL hXL
  rw [hXM] at hx1
  rw [hXE] at hx1 hx2
  have HXL := Lib.hid hXL
  have hx30 : 2 ^ XE ≤ 2 ^ 30 := Nat.pow_le_pow_right (by decide) hx2
  have hu : IntKind.u64.wrap (XM : Int) = (XM : Int) := IntWalk.u64_in _ (by omega)
  have HX1 := Lib.hid hx1
  have HSB := Lib.hid (bitsS_few (HML.out s (by omega)))
  clear hXM hXE hXL hx1
  go_wp2_with fail
  refine (CL.out w2).mono ?_; rintro e w3 ⟨rfl, hb3⟩
  have HP3 := Lib.hid (HP2.out.below hb3)
  have g0 := HP3.out.c5 0 _ rfl
  clear hb3 HP2 CL f0 f2
  go_wp2_with fail
  refine (pPut w3 g B _ XM XE HP3.out.pen.1 (by omega) HX1.out (by rw [List.length_append]; have := HSB.out; omega)).mono ?_; rintro e w4 ⟨rfl, hp4⟩
  have HP4 := Lib.hid (HP3.out.on hp4)
  clear hp4 HP3 g0 hu
  have k0 := HP4.out.c5 0 _ rfl
  have k3 := HP4.out.c5 3 _ rfl
  obtain ⟨hy1, hy2, hy3⟩ := extD_lt d hd.1 hd.2
  have CD := Lib.hid (fun W => Slo.Dist_in d hd.1 hd.2 W)
  have hYL : extD d = bitsOf (d - Slo.tbD (Slo.slotD d)) (Slo.exD (Slo.slotD d)) := rfl
  obtain ⟨YM, hYM⟩ : ∃ YM, d - Slo.tbD (Slo.slotD d) = YM := ⟨_, rfl⟩
  obtain ⟨YE, hYE⟩ : ∃ YE, Slo.exD (Slo.slotD d) = YE := ⟨_, rfl⟩
  rw [hYM, hYE] at CD hYL
  rw [hYM] at hy1
  rw [hYE] at hy1 hy2
  obtain ⟨YS, hYS⟩ : ∃ YS, Slo.slotD d = YS := ⟨_, rfl⟩
  rw [hYS] at CD hy3
  have HYS := Lib.hid hYS
  have HYL := Lib.hid hYL
  have hy30 : 2 ^ YE ≤ 2 ^ 30 := Nat.pow_le_pow_right (by decide) hy2
  have hu2 : IntKind.u64.wrap (YM : Int) = (YM : Int) := IntWalk.u64_in _ (by omega)
  have HY1 := Lib.hid hy1
  have HSB2 := Lib.hid (bitsS_few (HDL.out YS (by omega)))
  have hxl : (bitsOf XM XE).length = XE := bitsOf_length _ _
  have HXLN := Lib.hid hxl
  clear hYM hYE hYL hy1 hYS hxl
  go_wp2_with fail
  refine (CD.out w4).mono ?_; rintro e w5 ⟨rfl, hb5⟩
  have HP5 := Lib.hid (HP4.out.below hb5)
  have HBD5 := Lib.hid (HBD.out.pen HP5.out.pen HD0.out)
  have m0 := HP5.out.c7 0 _ rfl
  have m1 := HP5.out.c7 1 _ rfl
  clear hb5 HP4 CD k0 k3
  go_wp2_with fail
  refine (cBkPut w5 g B _ HP5.out.pen.1 (by rw [List.length_append, List.length_append]; have := HSB.out; have := HXLN.out; omega) b1 b2 e1 e2 52 D HDD.out HBD5.out (by decide) YS (by omega) (HDL.out _ (by omega))).mono ?_; rintro e w6 ⟨rfl, hp6⟩
  have HP6 := Lib.hid (HP5.out.on hp6)
  clear hp6 HP5 HBD5 m0 m1
  go_wp2_with fail
  refine (pPut w6 g B _ YM YE HP6.out.pen.1 (by omega) HY1.out (by rw [List.length_append, List.length_append, List.length_append]; have := HSB.out; have := HSB2.out; have := HXLN.out; omega)).mono ?_; rintro e w7 ⟨rfl, hp7⟩
  have HP7 := Lib.hid (HP6.out.on hp7)
  clear hp7 HP6 hu2
  go_wp2_with fail
  go_ret
  refine ⟨rfl, ?_⟩
  have := pen_of HW0.out HBW.out HP7.out.pen
  rw [HXL.out, HYL.out, HYS.out]
  simp only [List.append_assoc] at this ⊢
  exact this
end Go.Proofs.YtipcdkemokkdfaaGreat
