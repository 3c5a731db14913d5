import Derived.Test.YtmhjmoeeahepaaaGreatPP24
/- Layer 24: pmerge.byFreq of one symbol that occurs; lengths. -/
namespace Go.Proofs.YtmhjmoeeahepaaaGreat
open Go.ChangeShapes Go.WideShapes Go.ChangeAt Go.RowKit
set_option linter.unusedVariables false
set_option linter.unusedSimpArgs false
set_option maxRecDepth 100000
/-- gladstoneref23.fine of prices. -/
theorem prA_bd (l : List Int) (i : Nat) : 1 ≤ prA l i ∧ prA l i ≤ 16 := by
  unfold prA
  split
  · omega
  · omega
end Go.Proofs.YtmhjmoeeahepaaaGreat

/- Layer 24: a row of one number, sorted by the library. -/
namespace Go.Proofs.YtmhjmoeeahepaaaGreat
open Go.ChangeShapes Go.WideShapes Go.ChangeAt Go.RowKit
set_option linter.unusedVariables false
set_option linter.unusedSimpArgs false
set_option maxRecDepth 100000
set_option maxHeartbeats 1600000 in
theorem sIns (p : Value) (f : Value) (w : World) : Calls Tryz.prog 128 #[p, .int .i64 0, .int .i64 1, f] w fun e w' => e = .returned (.tuple #[]) ∧ w' = w := by
  go_enter Tryz.func128, Tryz.ntmps128
  go_wp2_with fail
  refine wp_loop_rounds 1 ?_
  rw [rounds_succ]
  go_wp2_with fail
  go_end0
  exact ⟨rfl, rfl⟩
set_option maxHeartbeats 1600000 in
theorem sStable (p : Value) (f : Value) (w : World) : Calls Tryz.prog 115 #[p, .int .i64 1, f] w fun e w' => e = .returned (.tuple #[]) ∧ w' = w := by
  have C := Lib.hid (fun W => sIns p f W)
  go_enter Tryz.func115, Tryz.ntmps115
  go_wp2_with fail
  refine wp_loop_rounds 1 ?_
  rw [rounds_succ]
  go_wp2_with fail
  refine (C.out _).mono ?_; rintro e w2 ⟨rfl, rfl⟩
  go_wp2_with fail
  refine wp_loop_rounds 1 ?_
  rw [rounds_succ]
  go_wp2_with fail
  go_end0
  exact ⟨rfl, rfl⟩
set_option maxHeartbeats 1600000 in
theorem sSort (a : Option Addr) (c : Nat) (f : Value) (w : World) : Calls Tryz.prog 93 #[.slice a 1 c, f] w fun e w' => e = .returned (.tuple #[]) ∧ w' = w := by
  have C := Lib.hid (fun p W => sStable p f W)
  go_enter Tryz.func93, Tryz.ntmps93
  go_wp2_with fail
  refine (C.out _ _).mono ?_; rintro e w2 ⟨rfl, rfl⟩
  go_wp2_with fail
  go_end0
  exact ⟨rfl, rfl⟩
/-- A row in which one number alone is above 0. -/
def OneAt (l : List Int) (S : Nat) (v : Int) : Prop := S < l.length ∧ 0 < v ∧ ∀ i, l.getD i 0 = if i = S then v else 0
def sy (S i : Nat) : List Int := if i ≤ S then [] else [(S : Int)]
theorem sy_same (S i : Nat) (h : i ≠ S) : sy S (i + 1) = sy S i := by
  unfold sy
  by_cases h1 : i + 1 ≤ S
  · rw [if_pos h1, if_pos (by omega)]
  · rw [if_neg h1, if_neg (by omega)]
theorem sy_hit (S : Nat) : sy S (S + 1) = sy S S ++ [(S : Int)] := by
  unfold sy
  rw [if_neg (by omega), if_pos (Nat.le_refl _)]; rfl
theorem sy_end (S n : Nat) (h : S < n) : sy S n = [(S : Int)] := by
  unfold sy
  rw [if_neg (by omega)]
theorem sy_len (S i : Nat) : (sy S i).length ≤ 1099511627776 := by
  unfold sy
  split <;> simp
set_option maxHeartbeats 1600000 in
theorem pByFreq (a : Option Addr) (c n S : Nat) (v : Int) (l : List Int) (w : World) (hl : l.length = n) (h : IsInts w a l) (hn : n ≤ 1000) (ho : OneAt l S v) :
    Calls Tryz.prog 70 #[.slice a n c] w fun e w' => ∃ u, e = .returned u ∧ OwnI w.heap.size w' u [(S : Int)] ∧ Below w.heap.size w w' := by
  have HI := Lib.hid h
  have HL := Lib.hid hl
  have HO := Lib.hid ho
  have hS : S < n := by have := ho.1; omega
  have CS := Lib.hid (fun a c f W => sSort a c f W)
  clear h hl ho
  go_enter Tryz.func70, Tryz.ntmps70
  have HB0 := Lib.hid ((Below.refl w.heap.size w).alloc (Nat.le_refl _) (.cells #[.slice a n c] 27))
  go_wp2_with fail
  go_loopw [3, 8] (fun sv iv wr => ∃ i : Nat, i ≤ n ∧ iv = .int .i64 i ∧ Hid (OwnI w.heap.size wr sv (sy S i)) ∧ Hid (Below w.heap.size w wr)) (fun _ iv _ => n - (intOf iv).toNat)
  case atStart => exact ⟨0, Nat.zero_le _, rfl, Lib.hid (by unfold sy; rw [if_pos (Nat.zero_le _)]; exact OwnS.nil), HB0⟩
  case round =>
    obtain ⟨i, hi, rfl, HS, HB⟩ := hrel
    by_cases hlt : i < n
    · have hii : (i : Int) < n := by omega
      obtain ⟨x, rfl, hxb, hc⟩ := (HI.out.kept HB.out).at i (by rw [HL.out]; exact hlt)
      have cx := hc i (by rw [HL.out]; exact hlt)
      rw [HO.out.2.2 i] at cx
      by_cases hiS : i = S
      · subst hiS
        rw [if_pos rfl] at cx
        have hv := HO.out.2.1
        have HLn := Lib.hid (sy_len i i)
        have HBs := Lib.hid HB.out.size
        clear hc
        go_wp2_with (at_builtin; refine app_int rfl (.tmp 15) (.tmp 17) rfl w.heap.size _ _ _ (i : Int) rfl HS.out wr.heap.size 1 rfl rfl HLn.out HBs.out ?_; intro v' w' ho hb hg)
        have HS2 := Lib.hid (show OwnI w.heap.size w' v' (sy i (i + 1)) by rw [sy_hit]; exact ho)
        have HB2 := Lib.hid (HB.out.trans hb)
        clear ho hb hg HS HB
        go_wp2_with fail
        go_roundw
        case rel => exact ⟨i + 1, by omega, by go_num, HS2, HB2⟩
        case measure => simp [intOf] <;> omega
      · rw [if_neg hiS] at cx
        have HS2 := Lib.hid (show OwnI w.heap.size wr _ (sy S (i + 1)) by rw [sy_same S i hiS]; exact HS.out)
        clear hc
        go_wp2_with fail
        go_roundw
        case rel => exact ⟨i + 1, by omega, by go_num, HS2, HB⟩
        case measure => simp [intOf] <;> omega
    · obtain rfl : i = n := by omega
      have HS2 := HS.out
      rw [sy_end S i hS] at HS2
      obtain ⟨g, cap, rfl, -, -⟩ := HS2.form (by simp) (by decide)
      have HS3 := Lib.hid HS2
      have hcells : ([(S : Int)] : List Int).length = 1 := rfl
      clear HS2 HS
      simp only [List.length_singleton] at *
      go_wp2_with fail
      refine (CS.out _ _ _ _).mono ?_; rintro e w2 ⟨rfl, rfl⟩
      go_wp2_with fail
      go_ret
      exact ⟨_, rfl, HS3.out, HB.out⟩
end Go.Proofs.YtmhjmoeeahepaaaGreat

/- Layer 24: pmerge.Lengths of one symbol that occurs, and of none. -/
namespace Go.Proofs.YtmhjmoeeahepaaaGreat
open Go.ChangeShapes Go.WideShapes Go.ChangeAt Go.RowKit
set_option linter.unusedVariables false
set_option linter.unusedSimpArgs false
set_option maxRecDepth 100000
open KraftMath
theorem used_none : ∀ l : List Int, (∀ i, l.getD i 0 = 0) → used l = 0
  | [], _ => rfl
  | x :: r, h => by
    have h0 := h 0
    simp only [List.getD_cons_zero] at h0
    have hr := used_none r (fun i => by have := h (i + 1); simpa using this)
    simp only [used]
    rw [h0, hr]; rfl
theorem used_one : ∀ (l : List Int) (S : Nat) (v : Int), OneAt l S v → used l = 1
  | [], S, v, h => by have := h.1; simp at this
  | x :: r, 0, v, h => by
    have h0 := h.2.2 0
    simp only [List.getD_cons_zero, if_true] at h0
    have hr := used_none r (fun i => by have := h.2.2 (i + 1); simpa using this)
    simp only [used]
    rw [h0, hr, if_pos h.2.1]
  | x :: r, S + 1, v, h => by
    have h0 := h.2.2 0
    rw [if_neg (by omega)] at h0
    simp only [List.getD_cons_zero] at h0
    have hr := used_one r S v ⟨by have := h.1; simp at this; omega, h.2.1, fun i => by have := h.2.2 (i + 1); simpa using this⟩
    simp only [used]
    rw [h0, hr]; rfl
set_option maxHeartbeats 1600000 in
theorem pNone (a : Option Addr) (c n : Nat) (l : List Int) (w : World) (hl : l.length = n) (h : IsInts w a l) (hn : n ≤ 1000) (hz : ∀ i, l.getD i 0 = 0) :
    Calls Tryz.prog 39 #[.slice a n c, .int .i64 15] w fun e w' => e = .returned (.tuple #[.slice none 0 0, .int .i64 7]) ∧ Below w.heap.size w w' := by
  have CC := Lib.hid (pCheck a c n 0 l w hl h hn (fun i => by rw [hz i]; omega) (used_none l hz) (by decide))
  rw [if_pos rfl] at CC
  clear h hl hz
  go_enter Tryz.func39, Tryz.ntmps39
  go_wp2_with fail
  refine CC.out.mono ?_; rintro e w2 ⟨rfl, hb⟩
  go_wp2_with fail
  go_ret2
  exact ⟨rfl, hb⟩
set_option maxHeartbeats 1600000 in
theorem pOne (a : Option Addr) (c n S : Nat) (v : Int) (l : List Int) (w : World) (hl : l.length = n) (h : IsInts w a l) (hn : n ≤ 1000) (ho : OneAt l S v) (hv : v ≤ 1000) :
    Calls Tryz.prog 39 #[.slice a n c, .int .i64 15] w fun e w' => ∃ u, e = .returned (.tuple #[u, .int .i64 0]) ∧ OwnI w.heap.size w' u ((List.replicate n 0).set S 1) ∧ Below w.heap.size w w' := by
  have CC := Lib.hid (pCheck a c n 1 l w hl h hn (fun i => by rw [ho.2.2 i]; have := ho.2.1; split <;> omega) (used_one l S v ho) (by decide))
  rw [if_neg (by decide)] at CC
  have HI := Lib.hid h
  have CB := Lib.hid (fun W h => pByFreq a c n S v l W hl h hn ho)
  have hS : S < n := by have := ho.1; omega
  have hSi : (S : Int) < n := by omega
  clear h hl ho
  go_enter Tryz.func39, Tryz.ntmps39
  go_wp2_with fail
  refine CC.out.mono ?_; rintro e w1 ⟨rfl, hb⟩
  have HB := Lib.hid hb
  clear hb CC
  go_wp2_with (refine make_int rfl _ _ rfl .i64 .i64 (n : Int) (n : Int) n rfl rfl rfl rfl (by omega) ?_; intro w2 ho2 hb2 hs2)
  have HO := Lib.hid ho2
  have HBm := Lib.hid (HB.out.trans (hb2.mono HB.out.size))
  obtain ⟨g, hg⟩ : ∃ g, w1.heap.size = g := ⟨_, rfl⟩
  have hgw : w.heap.size ≤ g := by rw [← hg]; exact HB.out.size
  rw [hg] at HO ⊢
  clear ho2 hb2 hs2 hg HB
  refine (CB.out _ (HI.out.kept HBm.out)).mono ?_; rintro e w3 ⟨u, rfl, hu, hb⟩
  have HO := Lib.hid (HO.out.kept hb)
  have HBm := Lib.hid (HBm.out.trans (hb.mono HBm.out.size))
  obtain ⟨g2, cap, rfl, -, -⟩ := hu.form (by simp) (by decide)
  have cu := hu.int_cell 0 (by simp)
  have lu := (hu.lt _ rfl).2
  simp only [List.length_singleton, List.getD_cons_zero] at *
  have co := HO.out.int_cell S (by rw [List.length_replicate]; exact hS)
  have fo := HO.out.free S
  have lo := (HO.out.lt _ rfl).2
  have HO2 := Lib.hid (HO.out.set_int S 1 (by rw [List.length_replicate]; exact hS))
  have HB2 := Lib.hid (HBm.out.setCell (p := ⟨g, S, none⟩) hgw (.int .i64 1))
  clear hu hb CB
  go_wp2_with fail
  go_ret2
  exact ⟨_, rfl, HO2.out.base hgw, HB2.out⟩
end Go.Proofs.YtmhjmoeeahepaaaGreat

/- Layer 24: count.lengths. -/
namespace Go.Proofs.YtmhjmoeeahepaaaGreat
open Go.ChangeShapes Go.WideShapes Go.ChangeAt Go.RowKit
set_option linter.unusedVariables false
set_option linter.unusedSimpArgs false
set_option maxRecDepth 100000
def lnL (l : List Int) (n : Nat) : List Int := (List.range n).map (fun i => l.getD i 0)
theorem lnL_len (l : List Int) (n : Nat) : (lnL l n).length = n := by simp [lnL]
theorem lnL_get (l : List Int) (n i : Nat) (h : i < n) : (lnL l n).getD i 0 = l.getD i 0 := by simp [lnL, List.getD_eq_getElem?_getD, h]
theorem cLenOf (b n i : Nat) (a : Option Addr) (c : Nat) (l : List Int) (w : World) (hl : l.length = n) (hb : w.cell? ⟨b, 0, none⟩ = some (.slice a n c)) (hi : IsInts w a l) (hn : n ≤ 1000) (h0 : i ≤ 1000) :
    Calls Tryz.prog 41 #[.int .i64 i, .pointer (some ⟨b, 0, none⟩)] w fun e w' => e = .returned (.int .i64 (l.getD i 0)) ∧ Below w.heap.size w w' := by
  have lb := cell_block hb
  by_cases hin : i < n
  · have hii : (i : Int) < n := by omega
    obtain ⟨x, rfl, hx, hc⟩ := hi.at i (by omega)
    have cx := hc i (by omega)
    obtain ⟨v, hv⟩ : ∃ v, l.getD i 0 = v := ⟨_, rfl⟩
    rw [hv] at cx ⊢
    clear hi hc hv
    go_enter Tryz.func41, Tryz.ntmps41
    go_wp2_with fail
    go_ret
    exact ⟨rfl, Below.refl _ _⟩
  · have hii : ¬ (i : Int) < n := by omega
    have e : l.getD i 0 = 0 := by rw [List.getD_eq_getElem?_getD, List.getElem?_eq_none (by omega)]; rfl
    rw [e]
    clear hi e
    go_enter Tryz.func41, Tryz.ntmps41
    go_wp2_with fail
    go_ret
    exact ⟨rfl, Below.refl _ _⟩
set_option maxHeartbeats 1600000 in
theorem cFillL (N b n : Nat) (a : Option Addr) (c : Nat) (l : List Int) (w : World) (hl : l.length = n) (hb : w.cell? ⟨b, 0, none⟩ = some (.slice a n c)) (hi : IsInts w a l) (hn : n ≤ 1000) (hN : N ≤ 1000) :
    Calls Tryz.prog 40 #[.int .i64 N, .func (Fn.func 41) #[] #[.pointer (some ⟨b, 0, none⟩)]] w fun e w' => ∃ v, e = .returned v ∧ OwnI w.heap.size w' v (lnL l N) ∧ Below w.heap.size w w' := by
  have HC := Lib.hid hb
  have HI := Lib.hid hi
  have CO := Lib.hid (fun i W (h1 : W.cell? ⟨b, 0, none⟩ = some (.slice a n c)) (h2 : IsInts W a l) (h3 : i ≤ 1000) => cLenOf b n i a c l W hl h1 h2 hn h3)
  clear hb hi hl
  go_enter Tryz.func40, Tryz.ntmps40
  go_wp2_with (refine make_int rfl _ _ rfl .i64 .i64 (N : Int) (N : Int) N rfl rfl rfl rfl (by omega) ?_; intro w1 ho1 hb1 hs1)
  have HO1 := Lib.hid ho1
  have HB1 := Lib.hid hb1
  clear ho1 hb1 hs1
  obtain ⟨g, hg⟩ : ∃ g, w.heap.size = g := ⟨_, rfl⟩
  have HG := Lib.hid hg
  rw [hg] at HO1 HB1 ⊢
  clear hg
  go_loopw [11] (fun tv wr => ∃ (t : Nat) (o : List Int), t ≤ N ∧ tv = .int .i64 t ∧ Hid (o.length = N ∧ ∀ i, i < t → o.getD i 0 = l.getD i 0) ∧ Hid (OwnI g wr (.slice (some ⟨g, 0, none⟩) N N) o) ∧ Hid (Below g w wr)) (fun tv _ => N - (intOf tv).toNat)
  case atStart => exact ⟨0, _, Nat.zero_le _, rfl, Lib.hid ⟨List.length_replicate, fun i h => by omega⟩, HO1, HB1⟩
  case round =>
    clear HO1 HB1
    obtain ⟨t, o, ht, rfl, HT, HO, HB⟩ := hrel
    by_cases hlt : t < N
    · have hti : (t : Int) < N := by omega
      have hbb : Below w.heap.size w wr := HG.out.symm ▸ HB.out
      have CP := Lib.hid (CO.out t wr ((hbb.cell (cell_block HC.out)).trans HC.out) (HI.out.kept hbb) (by omega))
      have hbg := cell_block HC.out
      clear hbb
      go_wp2_with fail
      refine CP.out.mono ?_; rintro e w2 ⟨rfl, hbx⟩
      have HO2 := Lib.hid (HO.out.kept hbx)
      have HB2 := Lib.hid (HB.out.trans (hbx.mono (by rw [← HG.out]; exact HB.out.size)))
      clear hbx CP HO HB
      have co := HO2.out.int_cell t (by rw [HT.out.1]; exact hlt)
      have fo := HO2.out.free t
      have lo := (HO2.out.lt _ rfl).2
      have HO3 := Lib.hid (HO2.out.set_int t (l.getD t 0) (by rw [HT.out.1]; exact hlt))
      have HB3 := Lib.hid (HB2.out.setCell (p := ⟨g, t, none⟩) (Nat.le_refl _) (.int .i64 (l.getD t 0)))
      have HT2 := Lib.hid (show (o.set t (l.getD t 0)).length = N ∧ ∀ i, i < t + 1 → (o.set t (l.getD t 0)).getD i 0 = l.getD i 0 from ⟨by rw [List.length_set]; exact HT.out.1, fun i hi => by
        rw [set_getD0 _ _ _ _ (by rw [HT.out.1]; exact hlt)]
        by_cases e : t = i
        · rw [if_pos e, e]
        · rw [if_neg e]; exact HT.out.2 i (by omega)⟩)
      clear HT HO2 HB2
      go_wp2_with fail
      go_roundw
      case rel => exact ⟨t + 1, _, by omega, by go_num, HT2, HO3, HB3⟩
      case measure => simp [intOf] <;> omega
    · obtain rfl : t = N := by omega
      go_wp2_with fail
      go_ret
      rw [HG.out]
      refine ⟨_, rfl, ?_, HB.out⟩
      have e : o = lnL l t := list_eqD _ _ (by rw [HT.out.1, lnL_len]) (fun i h => by rw [HT.out.1] at h; rw [HT.out.2 i h, lnL_get _ _ _ h])
      rw [← e]
      exact HO.out
set_option maxHeartbeats 1600000 in
theorem cLenOne (a : Option Addr) (c n S : Nat) (v : Int) (l : List Int) (w : World) (hl : l.length = n) (h : IsInts w a l) (hn : n ≤ 1000) (ho : OneAt l S v) (hv : v ≤ 1000) :
    Calls Tryz.prog 19 #[.slice a n c] w fun e w' => ∃ u, e = .returned u ∧ OwnI w.heap.size w' u (lnL ((List.replicate n 0).set S 1) n) ∧ Below w.heap.size w w' := by
  have CO := Lib.hid (fun W h => pOne a c n S v l W hl h hn ho hv)
  have HI := Lib.hid h
  clear h hl ho
  go_enter Tryz.func19, Tryz.ntmps19
  have hml : ((List.replicate n (0 : Int)).set S 1).length = n := by simp
  obtain ⟨L2, hL2⟩ : ∃ L2, (List.replicate n (0 : Int)).set S 1 = L2 := ⟨_, rfl⟩
  rw [hL2] at CO hml ⊢
  have HML := Lib.hid hml
  clear hL2
  go_wp2_with fail
  refine (CO.out w HI.out).mono ?_; rintro e w1 ⟨u, rfl, hu, hb⟩
  obtain ⟨ua, uc, rfl, hi⟩ := hu.isL (by rw [hml]; omega)
  rw [hml]
  have HU := Lib.hid hi
  have HB := Lib.hid hb
  have HBA := Lib.hid ((Below.refl w1.heap.size w1).alloc (Nat.le_refl _) (.cells #[.slice ua n uc] 27))
  have hq := cell_lit (heap_alloc_new w1 (.cells #[.slice ua n uc] 27)) 0 (.slice ua n uc) rfl
  have CF := Lib.hid (cFillL n w1.heap.size n ua uc L2 (w1.alloc (.cells #[.slice ua n uc] 27)) hml hq (hi.kept HBA.out) hn hn)
  clear hu hi hb hq hml CO
  go_wp2_with fail
  refine CF.out.mono ?_; rintro e w2 ⟨v2, rfl, ho, hb⟩
  have HB2 := Lib.hid (HB.out.trans ((HBA.out.trans (hb.mono HBA.out.size)).mono HB.out.size))
  have HO := Lib.hid (ho.base (show w.heap.size ≤ _ by have := HB.out.size; simp; omega))
  clear ho hb CF
  go_wp2_with fail
  go_ret
  exact ⟨_, rfl, HO.out, HB2.out⟩
set_option maxHeartbeats 1600000 in
theorem cLenNone (a : Option Addr) (c n : Nat) (l : List Int) (w : World) (hl : l.length = n) (h : IsInts w a l) (hn : n ≤ 1000) (hz : ∀ i, l.getD i 0 = 0) :
    Calls Tryz.prog 19 #[.slice a n c] w fun e w' => ∃ u, e = .returned u ∧ OwnI w.heap.size w' u (lnL [] n) ∧ Below w.heap.size w w' := by
  have CO := Lib.hid (fun W h => pNone a c n l W hl h hn hz)
  have HI := Lib.hid h
  clear h hl hz
  go_enter Tryz.func19, Tryz.ntmps19
  go_wp2_with fail
  refine (CO.out w HI.out).mono ?_; rintro e w1 ⟨rfl, hb⟩
  have HB := Lib.hid hb
  have HBA := Lib.hid ((Below.refl w1.heap.size w1).alloc (Nat.le_refl _) (.cells #[.slice none 0 0] 27))
  have hq := cell_lit (heap_alloc_new w1 (.cells #[.slice none 0 0] 27)) 0 (.slice none 0 0) rfl
  have CF := Lib.hid (cFillL n w1.heap.size 0 none 0 [] (w1.alloc (.cells #[.slice none 0 0] 27)) rfl hq ⟨by simp, .inl rfl⟩ (by decide) hn)
  clear hb hq CO
  go_wp2_with fail
  refine CF.out.mono ?_; rintro e w2 ⟨v2, rfl, ho, hb⟩
  have HB2 := Lib.hid (HB.out.trans ((HBA.out.trans (hb.mono HBA.out.size)).mono HB.out.size))
  have HO := Lib.hid (ho.base (show w.heap.size ≤ _ by have := HB.out.size; simp; omega))
  clear ho hb CF
  go_wp2_with fail
  go_ret
  exact ⟨_, rfl, HO.out, HB2.out⟩
end Go.Proofs.YtmhjmoeeahepaaaGreat
