import Derived.Test.YtmhjmoeeahepaaaGreatPP26
import Derived.Test.YtmhjmoeeahepaaaGreatPP20
/- Layer 7: may lengths be? -/
namespace Go.Proofs.YtmhjmoeeahepaaaGreat
open Go.ChangeShapes Go.WideShapes Go.ChangeAt Go.RowKit
set_option linter.unusedVariables false
set_option linter.unusedSimpArgs false
set_option maxRecDepth 100000
open KraftMath Pm
end Go.Proofs.YtmhjmoeeahepaaaGreat

/- Layer 7: the chapter's example. -/
namespace Go.Proofs.YtmhjmoeeahepaaaGreat
open Go.ChangeShapes Go.WideShapes Go.ChangeAt Go.RowKit
set_option linter.unusedVariables false
set_option linter.unusedSimpArgs false
set_option maxRecDepth 100000
open KraftMath Pm
theorem pLenOk (a : Option Addr) (c n : Nat) (l : List Int) (L : Int) (w : World) (hl : l.length = n) (h : IsInts w a l) (hE : chkP l L = 0) (R : List Int) (hR : lensV l L.toNat = R) :
    Calls Tryz.prog 39 #[.slice a n c, .int .i64 L] w fun e w' => ∃ u, e = .returned (.tuple #[u, .int .i64 0]) ∧ OwnI w.heap.size w' u R ∧ Below w.heap.size w w' := by
  subst hR
  by_cases h1 : (srtS l).length = 1
  · exact pLenOne a c n l L w hl h hE h1
  · exact pLenAll a c n l L w hl h hE h1
theorem pLenNo (a : Option Addr) (c n : Nat) (l : List Int) (L E : Int) (w : World) (hl : l.length = n) (h : IsInts w a l) (hE : chkP l L = E) (h0 : E ≠ 0) :
    Calls Tryz.prog 39 #[.slice a n c, .int .i64 L] w fun e w' => e = .returned (.tuple #[.slice none 0 0, .int .i64 E]) ∧ Below w.heap.size w w' := by
  refine (pLenBad a c n l L E w hl h hE h0).mono ?_
  rintro e w' ⟨h1, rfl⟩
  exact ⟨h1, Below.refl _ _⟩
theorem litI (w : World) (is : List Int) (t2 : Nat) (hl : is.length ≤ 70368744177664) : IsInts (w.alloc (.cells (is.map (Value.int .i64 ·)).toArray t2)) (some ⟨w.heap.size, 0, none⟩) is := IsInts.new w is t2 (0, 0) hl
theorem aw1 : chkP [1, 1, 2, 4] 3 = 0 := by decide +kernel
theorem aw2 : lensV [1, 1, 2, 4] 3 = [3, 3, 2, 1] := by decide +kernel
theorem aw3 : chkP [1, 1, 2, 4] 2 = 0 := by decide +kernel
theorem aw4 : lensV [1, 1, 2, 4] 2 = [2, 2, 2, 2] := by decide +kernel
theorem aw5 : chkP [1, 1, 2, 4] 1 = 6 := by decide +kernel
theorem aw6 : chkP [0, 7] 1 = 0 := by decide +kernel
theorem aw7 : lensV [0, 7] 1 = [0, 1] := by decide +kernel
theorem aw8 : chkP [0] 1 = 7 := by decide +kernel
theorem aw9 : costL [1, 1, 2, 4] [3, 3, 2, 1] = 14 := by decide +kernel
theorem aw10 : costL [3, -1] [2, 5] = 6 := by decide +kernel
end Go.Proofs.YtmhjmoeeahepaaaGreat

/- Layer 24: Tables, whole; CountTables. -/
namespace Go.Proofs.YtmhjmoeeahepaaaGreat
open Go.ChangeShapes Go.WideShapes Go.ChangeAt Go.RowKit
set_option linter.unusedVariables false
set_option linter.unusedSimpArgs false
set_option maxRecDepth 100000
open KraftMath Pm
def tabL (f : List Int) : List Int := if chkP f 15 = 0 then lensV f 15 else List.replicate f.length 0
theorem tabL_len (f : List Int) : (tabL f).length = f.length := by
  unfold tabL; split
  · exact lensV_len _ _
  · simp
theorem lnL_self (l : List Int) (n : Nat) (h : l.length = n) : lnL l n = l := by
  refine list_eqD _ _ (by rw [lnL_len, h]) (fun i hi => ?_)
  rw [lnL_len] at hi
  rw [lnL_get _ _ _ hi]
theorem lnL_nil (n : Nat) : lnL [] n = List.replicate n 0 := by
  refine list_eqD _ _ (by rw [lnL_len]; simp) (fun i hi => ?_)
  rw [lnL_len] at hi
  rw [lnL_get _ _ _ hi, rep_get]; rfl
set_option maxHeartbeats 1600000 in
theorem cLenG (a : Option Addr) (c n : Nat) (l : List Int) (w : World) (hl : l.length = n) (h : IsInts w a l) (hn : n ≤ 1000) :
    Calls Tryz.prog 19 #[.slice a n c] w fun e w' => ∃ u, e = .returned u ∧ OwnI w.heap.size w' u (tabL l) ∧ Below w.heap.size w w' := by
  have HI := Lib.hid h
  by_cases h0 : chkP l 15 = 0
  · have hml : (lensV l 15).length = n := by rw [lensV_len, hl]
    have HR := Lib.hid (show tabL l = lnL (lensV l 15) n by unfold tabL; rw [if_pos h0, lnL_self _ _ hml])
    have CO := Lib.hid (fun W h => pLenOk a c n l 15 W hl h h0 _ rfl)
    rw [show (15 : Int).toNat = 15 from rfl] at CO
    obtain ⟨L2, hL2⟩ : ∃ L2, lensV l 15 = L2 := ⟨_, rfl⟩
    rw [hL2] at CO hml HR
    rw [HR.out]
    have HML := Lib.hid hml
    clear h hl h0 hL2
    go_enter Tryz.func19, Tryz.ntmps19
    go_wp2_with fail
    refine (CO.out w HI.out).mono ?_; rintro e w1 ⟨u, rfl, hu, hb⟩
    obtain ⟨ua, uc, rfl, hi⟩ := hu.isL (by rw [hml]; omega)
    rw [hml]
    have HB := Lib.hid hb
    have HBA := Lib.hid ((Below.refl w1.heap.size w1).alloc (Nat.le_refl _) (.cells #[.slice ua n uc] 27))
    have hq := cell_lit (heap_alloc_new w1 (.cells #[.slice ua n uc] 27)) 0 (.slice ua n uc) rfl
    have CF := Lib.hid (cFillL n w1.heap.size n ua uc L2 (w1.alloc (.cells #[.slice ua n uc] 27)) hml hq (hi.kept HBA.out) hn hn)
    clear hu hi hb hq hml CO
    go_wp2_with fail
    refine CF.out.mono ?_; rintro e w2 ⟨v2, rfl, ho, hb⟩
    have HB2 := Lib.hid (HB.out.trans ((HBA.out.trans (hb.mono HBA.out.size)).mono HB.out.size))
    have HO := Lib.hid (ho.base (show w.heap.size ≤ _ by have := HB.out.size; simp; omega))
    clear ho hb CF
    go_wp2_with fail
    go_ret
    exact ⟨_, rfl, HO.out, HB2.out⟩
  · obtain ⟨E, hE⟩ : ∃ E, chkP l 15 = E := ⟨_, rfl⟩
    have HR := Lib.hid (show tabL l = lnL [] n by unfold tabL; rw [if_neg h0, lnL_nil, hl])
    have CO := Lib.hid (fun W h => pLenNo a c n l 15 E W hl h hE (by rw [← hE]; exact h0))
    rw [HR.out]
    clear h hl h0 hE
    go_enter Tryz.func19, Tryz.ntmps19
    go_wp2_with fail
    refine (CO.out w HI.out).mono ?_; rintro e w1 ⟨rfl, hb⟩
    have HB := Lib.hid hb
    have HBA := Lib.hid ((Below.refl w1.heap.size w1).alloc (Nat.le_refl _) (.cells #[.slice none 0 0] 27))
    have hq := cell_lit (heap_alloc_new w1 (.cells #[.slice none 0 0] 27)) 0 (.slice none 0 0) rfl
    have CF := Lib.hid (cFillL n w1.heap.size 0 none 0 [] (w1.alloc (.cells #[.slice none 0 0] 27)) rfl hq ⟨by simp, .inl rfl⟩ (by decide) hn)
    clear hb hq CO
    go_wp2_with fail
    refine CF.out.mono ?_; rintro e w2 ⟨v2, rfl, ho, hb⟩
    have HB2 := Lib.hid (HB.out.trans ((HBA.out.trans (hb.mono HBA.out.size)).mono HB.out.size))
    have HO := Lib.hid (ho.base (show w.heap.size ≤ _ by have := HB.out.size; simp; omega))
    clear ho hb CF
    go_wp2_with fail
    go_ret
    exact ⟨_, rfl, HO.out, HB2.out⟩
set_option maxHeartbeats 1600000 in
theorem cTabG (a : Option Addr) (c n : Nat) (l : List Tk) (w : World) (hl : l.length = n) (h : IsTk w a l) (hn : n ≤ 300) (M D : List Int) (hF : frA l = (M, D, 0)) (hm : M.length = 401) (hd : D.length = 52) :
    Calls Tryz.prog 7 #[.slice a n c] w fun e w' => ∃ u v, e = .returned (.tuple #[u, v, .int .i64 0]) ∧ OwnI w.heap.size w' u (tabL M) ∧ OwnI w.heap.size w' v (tabL D) ∧ Below w.heap.size w w' := by
  have CF := Lib.hid (cFreqs a c n l w hl h hn)
  rw [hF] at CF
  have C1 := Lib.hid (fun a c W h => cLenG a c 401 M W hm h (by decide))
  have C2 := Lib.hid (fun a c W h => cLenG a c 52 D W hd h (by decide))
  have HM := Lib.hid hm; have HD := Lib.hid hd
  clear h hl hF hm hd
  go_enter Tryz.func7, Tryz.ntmps7
  go_wp2_with fail
  refine CF.out.mono ?_; rintro e w1 ⟨v1, v2, rfl, h1, h2, hb⟩
  obtain ⟨a1, c1, rfl, h1⟩ := h1
  obtain ⟨a2, c2, rfl, h2⟩ := h2
  rw [HM.out, HD.out]
  have H1 := Lib.hid h1
  have H2 := Lib.hid h2
  have HB := Lib.hid hb
  clear h1 h2 hb CF
  go_wp2_with fail
  refine (C1.out _ _ _ H1.out).mono ?_; rintro e w2 ⟨u, rfl, hu, hb⟩
  have HU := Lib.hid (hu.base HB.out.size)
  have H2 := Lib.hid (H2.out.kept hb)
  have HB := Lib.hid (HB.out.trans (hb.mono HB.out.size))
  clear hu hb C1 H1
  go_wp2_with fail
  refine (C2.out _ _ _ H2.out).mono ?_; rintro e w3 ⟨v, rfl, hv, hb⟩
  have HV := Lib.hid (hv.base HB.out.size)
  have HU := Lib.hid (HU.out.kept hb)
  have HB := Lib.hid (HB.out.trans (hb.mono HB.out.size))
  clear hv hb C2 H2
  go_wp2_with fail
  go_ret3
  exact ⟨_, _, rfl, HU.out, HV.out, HB.out⟩
set_option maxHeartbeats 1600000 in
theorem cTabBad (a : Option Addr) (c n : Nat) (l : List Tk) (w : World) (hl : l.length = n) (h : IsTk w a l) (hn : n ≤ 300) (E : Int) (hE : (frA l).2.2 = E) (h0 : E ≠ 0) :
    Calls Tryz.prog 7 #[.slice a n c] w fun e w' => e = .returned (.tuple #[.slice none 0 0, .slice none 0 0, .int .i64 E]) ∧ Below w.heap.size w w' := by
  have CF := Lib.hid (cFreqs a c n l w hl h hn)
  rw [hE] at CF
  have e1 : (E != 0) = true := by rw [bne_iff_ne]; exact h0
  clear h hl hE h0
  go_enter Tryz.func7, Tryz.ntmps7
  go_wp2_with fail
  refine CF.out.mono ?_; rintro e w1 ⟨v1, v2, rfl, h1, h2, hb⟩
  go_wp2_with fail
  go_ret3
  exact ⟨rfl, hb⟩
theorem chk15 (f : List Int) (hl : f.length ≤ 1000) (hb : ∀ i, 0 ≤ f.getD i 0 ∧ f.getD i 0 ≤ 300) : (0 < used f → chkP f 15 = 0) ∧ (¬ 0 < used f → chkP f 15 ≠ 0) := by
  have hu := used_le f
  have ha : ¬ f.any badF = true := by
    rw [List.any_eq_true]
    rintro ⟨v, hv, hbv⟩
    obtain ⟨i, -, rfl⟩ := mem_idx hv
    have := hb i
    unfold badF at hbv
    simp only [Bool.or_eq_true, decide_eq_true_eq] at hbv
    omega
  unfold chkP
  rw [if_neg (by decide), if_neg (by omega), if_neg ha]
  refine ⟨fun h => ?_, fun h => ?_⟩
  · rw [if_neg (by omega), if_neg (by rw [show (15 : Int).toNat = 15 from rfl]; omega)]
  · rw [if_pos (by omega)]; decide
theorem tab_any (f : List Int) (hl : f.length ≤ 1000) (hb : ∀ i, 0 ≤ f.getD i 0 ∧ f.getD i 0 ≤ 300) : (0 < used f → mayB f (tabL f) 15 = true) ∧ (¬ 0 < used f → ¬ 0 < used (tabL f)) := by
  obtain ⟨c1, c2⟩ := chk15 f hl hb
  refine ⟨fun h => ?_, fun h => ?_⟩
  · unfold tabL
    rw [if_pos (c1 h)]
    exact (mayB_iff _ _ _).2 (lens_may f 15 (c1 h))
  · unfold tabL
    rw [if_neg (c2 h)]
    have := used_none (List.replicate f.length 0) (fun i => rep_get _ _)
    omega
end Go.Proofs.YtmhjmoeeahepaaaGreat

/- Layer 27: the codes of a book. -/
namespace Go.Proofs.YtmhjmoeeahepaaaGreat
open Go.ChangeShapes Go.WideShapes Go.ChangeAt Go.RowKit
set_option linter.unusedVariables false
set_option linter.unusedSimpArgs false
set_option maxRecDepth 100000
open Bits hiding packF pack_length
open RunsMath KraftMath CanonMath TurnMath Pm
/-- The codes, turned, as they are written. -/
def turnedTo (l : List Int) (k : Nat) : List Int := (List.range l.length).map fun s => if s < k then ((turn (code l s) (len l s) : Nat) : Int) else ((code l s : Nat) : Int)
def turnedL (l : List Int) : List Int := (List.range l.length).map fun s => ((turn (code l s) (len l s) : Nat) : Int)
theorem turnedTo_len (l : List Int) (k : Nat) : (turnedTo l k).length = l.length := by simp [turnedTo]
theorem turnedL_len (l : List Int) : (turnedL l).length = l.length := by simp [turnedL]
theorem turnedTo_zero {l : List Int} (h : check l 16 = 0) : turnedTo l 0 = codesL l := by
  apply List.ext_getElem
  · rw [turnedTo_len, codes_len h]
  · intro i h1 h2
    have hi : i < l.length := by rw [turnedTo_len] at h1; exact h1
    have := codes_at h hi
    rw [List.getD_eq_getElem?_getD, List.getElem?_eq_getElem h2, Option.getD_some] at this
    rw [this]
    simp [turnedTo]
theorem turnedTo_end (l : List Int) : turnedTo l l.length = turnedL l := by
  apply List.ext_getElem
  · rw [turnedTo_len, turnedL_len]
  · intro i h1 h2
    have hi : i < l.length := by rw [turnedTo_len] at h1; exact h1
    simp [turnedTo, turnedL, hi]
theorem turnedTo_at {l : List Int} {k i : Nat} (hi : i < l.length) : (turnedTo l k).getD i 0 = if i < k then ((turn (code l i) (len l i) : Nat) : Int) else ((code l i : Nat) : Int) := by
  rw [List.getD_eq_getElem?_getD, List.getElem?_eq_getElem (by rw [turnedTo_len]; exact hi)]
  simp [turnedTo]
theorem turnedL_at {l : List Int} {i : Nat} (hi : i < l.length) : (turnedL l).getD i 0 = ((turn (code l i) (len l i) : Nat) : Int) := by
  rw [List.getD_eq_getElem?_getD, List.getElem?_eq_getElem (by rw [turnedL_len]; exact hi)]
  simp [turnedL]
theorem turnedTo_next {l : List Int} {k : Nat} (hk : k < l.length) : turnedTo l (k + 1) = (turnedTo l k).set k ((turn (code l k) (len l k) : Nat) : Int) := by
  apply List.ext_getElem
  · rw [List.length_set, turnedTo_len, turnedTo_len]
  · intro i h1 h2
    have hi : i < l.length := by rw [turnedTo_len] at h1; exact h1
    rw [List.getElem_set]
    by_cases e : k = i
    · subst e; simp [turnedTo]
    · rw [if_neg e]
      have : (i < k + 1) = (i < k) := by simp; omega
      simp [turnedTo, this]
set_option maxHeartbeats 3200000 in
theorem cBook (a : Option Addr) (c : Nat) (l : List Int) (w : World) (h : IsInts w a l) (hE : check l 16 = 0) (hl : l.length ≤ 1000) (h0 : l ≠ []) :
    Calls Tryz.prog 34 #[.slice a l.length c] w fun e w' => ∃ v, e = .returned (.agg #[v, .slice a l.length c]) ∧ OwnI w.heap.size w' v (turnedL l) ∧ Below w.heap.size w w' := by
  have HI := Lib.hid h
  have CC := Lib.hid (fun W h => cCodesO a c l W h hE)
  have HCB := Lib.hid (fun s hs => ok_c (l := l) hE (s := s) hs)
  have HLB := Lib.hid (fun s hs => ok_b (l := l) hE s hs)
  have HLI := Lib.hid (fun s hs => lenI (l := l) hE (s := s) hs)
  have hz := turnedTo_zero hE
  rw [← hz] at CC
  have hl0 : 0 < l.length := List.length_pos_iff.2 h0
  clear h hE hz h0
  go_enter Tryz.func34, Tryz.ntmps34
  have hq := heap_alloc_new w (.cells #[.slice none 0 0, .slice none 0 0] 66)
  have HB := Lib.hid ((Below.refl w.heap.size w).alloc (Nat.le_refl _) (.cells #[.slice none 0 0, .slice none 0 0] 66))
  obtain ⟨gb, hg⟩ : ∃ gb, w.heap.size = gb := ⟨_, rfl⟩
  have HG := Lib.hid hg
  obtain ⟨w1, hw1⟩ : ∃ w1, w.alloc (.cells #[.slice none 0 0, .slice none 0 0] 66) = w1 := ⟨_, rfl⟩
  go_wp2_with fail
  rw [hg, hw1] at hq HB
  have HQ := Lib.hid hq
  clear hq hg hw1
  refine (CC.out w1 (HI.out.kept (by rw [HG.out]; exact HB.out))).mono ?_; rintro e w2 ⟨v2, rfl, ho2, hb2⟩
  obtain ⟨gc, cc, rfl, hgc1, hgc2⟩ := own_getI ho2 (by rw [turnedTo_len]; omega)
  have HO2 := Lib.hid (show OwnI (gb + 1) w2 (.slice (some ⟨gc, 0, none⟩) l.length cc) (turnedTo l 0) from by
    rw [turnedTo_len] at ho2
    exact OwnS.base ho2 (block_lt HQ.out))
  have HQ2 := Lib.hid ((hb2.block _ (block_lt HQ.out)).trans HQ.out)
  have HB2 := Lib.hid (show Below gb w w2 from HB.out.trans (hb2.mono (by have := block_lt HQ.out; omega)))
  rw [turnedTo_len]
  clear ho2 hb2 HQ HB CC
  go_wp2_with fail
  go_loopw [13] (fun i wr => ∃ k : Nat, k ≤ l.length ∧ i = .int .i64 k ∧ Hid (OwnI (gb + 1) wr (.slice (some ⟨gc, 0, none⟩) l.length cc) (turnedTo l k)) ∧ Hid (wr.heap[gb]? = some (.cells #[.slice none 0 0, .slice none 0 0] 66 (0, 0))) ∧ Hid (Below gb w wr)) (fun i _ => l.length - (intOf i).toNat)
  case atStart => exact ⟨0, Nat.zero_le _, rfl, HO2, HQ2, HB2⟩
  case round =>
    clear HO2 HQ2 HB2
    obtain ⟨k, hk, rfl, ho, hq, hb⟩ := hrel
    by_cases hlt : k < l.length
    · obtain ⟨x, rfl, -, cx⟩ := (HI.out.kept (by rw [HG.out]; exact hb.out)).at k hlt
      have co := cx k hlt
      rw [HLI.out k hlt] at co
      have hat := turnedTo_at (l := l) (k := k) hlt
      rw [if_neg (Nat.lt_irrefl k)] at hat
      have cf := OwnS.int_cell ho.out k (by rw [turnedTo_len]; exact hlt)
      rw [hat] at cf
      have ff := ho.out.free k
      have hgw := (OwnS.lt ho.out gc rfl).2
      have hC := HCB.out k hlt
      have hLb := HLB.out k hlt
      have hnx := turnedTo_next hlt
      have hst := OwnS.set_int ho.out k ((turn (code l k) (len l k) : Nat) : Int) (by rw [turnedTo_len]; exact hlt)
      rw [← hnx] at hst
      obtain ⟨C, hCC⟩ : ∃ C, code l k = C := ⟨_, rfl⟩
      obtain ⟨LN, hLN⟩ : ∃ LN, len l k = LN := ⟨_, rfl⟩
      rw [hCC] at cf hC hst
      rw [hLN] at co hC hLb hst
      have CT := Lib.hid (fun W => show Calls Tryz.prog 46 #[.int .i64 (C : Int), .int .i64 (LN : Int)] W fun e w' => e = .returned (.int .i64 (turn C LN : Nat)) ∧ w' = W by
        have h16 : 2 ^ LN ≤ 2 ^ 16 := Nat.pow_le_pow_right (by decide) hLb.2
        have := bTurned (C : Int) LN (by omega) W
        rw [show ((C : Int) % 4294967296).toNat = C by omega] at this
        exact this)
      obtain ⟨X, hX⟩ : ∃ X, turn C LN = X := ⟨_, rfl⟩
      rw [hX] at CT hst
      have HST := Lib.hid (show OwnI (gb + 1) ((wr.setCell ⟨gc, k, none⟩ (.int .i64 (X : Int))).drew) (.slice (some ⟨gc, 0, none⟩) l.length cc) (turnedTo l (k + 1)) from OwnS.drew hst)
      have hgcb := (OwnS.lt ho.out gc rfl).1
      have HBN := Lib.hid (show Below gb w ((wr.setCell ⟨gc, k, none⟩ (.int .i64 (X : Int))).drew) from (hb.out.setCell (p := ⟨gc, k, none⟩) (by show gb ≤ gc; omega) _).drew)
      have HQN := Lib.hid (show ((wr.setCell ⟨gc, k, none⟩ (.int .i64 (X : Int))).drew).heap[gb]? = some (.cells #[.slice none 0 0, .slice none 0 0] 66 (0, 0)) from by
        have := (World.grownBy_setCell (w := wr) ⟨gc, k, none⟩ (.int .i64 (X : Int))).block gb (block_lt hq.out) (by intro e; injection e with e; simp only at e; omega)
        exact this.trans hq.out)
      have hki : (k : Int) < (l.length : Int) := by omega
      have hk0 : (0 : Int) ≤ (k : Int) := by omega
      clear cx hat hC hLb hnx hst hCC hLN hX ho hq hb
      go_wp2_with fail
      go_region_with (first | (go_at_call 46; (with_reducible refine (CT.out _).mono ?_; rintro e wx ⟨rfl, rfl⟩)) | fail)
      all_goals go_wp2_with fail
      all_goals go_roundw
      all_goals first | exact ⟨k + 1, by omega, by go_num, HST, HQN, HBN⟩ | (simp [intOf]; omega)
    · obtain rfl : k = l.length := by omega
      have hki : ¬ (l.length : Int) < (l.length : Int) := by omega
      rw [turnedTo_end] at ho
      have c0 := cell_lit hq.out 0 _ rfl
      have c1 := cell_lit hq.out 1 _ rfl
      have f0 := free_in hq.out 0
      have f1 := free_in hq.out 1
      have lg := block_lt hq.out
      go_wp2_with fail
      have hz := block_set (block_set hq.out 0 (.slice (some ⟨gc, 0, none⟩) l.length cc)) 1 (.slice a l.length c)
      have d0 := cell_lit hz 0 (.slice (some ⟨gc, 0, none⟩) l.length cc) rfl
      have d1 := cell_lit hz 1 (.slice a l.length c) rfl
      have HX1 := Lib.hid ((ho.out.setLow (p := ⟨gb, 0, none⟩) (by show gb < gb + 1; omega) (.slice (some ⟨gc, 0, none⟩) l.length cc)).setLow (p := ⟨gb, 1, none⟩) (by show gb < gb + 1; omega) (.slice a l.length c))
      have HX3 := Lib.hid ((hb.out.setCell (p := ⟨gb, 0, none⟩) (Nat.le_refl _) (.slice (some ⟨gc, 0, none⟩) l.length cc)).setCell (p := ⟨gb, 1, none⟩) (Nat.le_refl _) (.slice a l.length c))
      exact bodyPost_ret (v := .agg #[_, _]) (by simp [results, Tryz.results34, go_sem, d0, d1]) rfl ⟨_, rfl, OwnS.base HX1.out (by rw [HG.out]; omega), by rw [HG.out]; exact HX3.out⟩
end Go.Proofs.YtmhjmoeeahepaaaGreat
