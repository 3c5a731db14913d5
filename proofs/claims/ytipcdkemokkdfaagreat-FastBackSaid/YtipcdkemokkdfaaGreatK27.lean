import Derived.Test.YtipcdkemokkdfaaGreatK23
import Derived.Test.YtipcdkemokkdfaaGreatK26
import Derived.Test.YtipcdkemokkdfaaGreatK18
import Derived.Test.YtipcdkemokkdfaaGreatK25
import Derived.Test.YtipcdkemokkdfaaGreatK06
import Derived.OneCell
import Derived.Deep.RegionHeld3
import Derived.Deep.CutRange
/- Layer 8: the codes, as a row of the call's own. -/
namespace Go.Proofs.YtipcdkemokkdfaaGreat
open Go.ChangeShapes Go.WideShapes Go.ChangeAt Go.RowKit
set_option linter.unusedVariables false
set_option maxRecDepth 100000
open KraftMath CanonMath
set_option maxHeartbeats 3200000 in
theorem cCodesO (a : Option Addr) (c : Nat) (l : List Int) (w : World) (h : IsInts w a l) (hE : check l 16 = 0) :
    Calls Tryz.prog 38 #[.slice a l.length c] w fun e w' => ∃ v, e = .returned (.tuple #[v, .int .i64 0]) ∧ OwnI w.heap.size w' v (codesL l) ∧ Below w.heap.size w w' := by
  have C := kCheck_any a c 16 l w h
  · have hok := (check_ok l 16).1 hE
    have hO : codesL l = codeTo l l.length := by unfold codesL; rw [if_pos hE]
    have hll := hok.2.2.1
    have hg := fun k (hk : k < l.length) => hok.2.2.2.1 (l.getD k 0) (by simp [List.getD_eq_getElem?_getD, hk])
    have C2 := fun n => cCounts a c l (w.drewN n) h hok.2.2.2.1
    have C3 := cFirsts l _ rfl (by omega)
    rw [nxtA_start] at C3
    rw [hE] at C
    rw [hO]
    obtain ⟨hz, hi⟩ := arr_zero
    have HSZ : Hid ((Tryz.prog.info? 124).map (·.size) = some (arrI (nxtA l 0)).size) := by show _ = _; rw [hi, arrI_size, nxtA_len]
    have HZS : Hid ((arrI (List.replicate 17 0)).size = (arrI (nxtA l 0)).size) := by show _ = _; rw [arrI_size, arrI_size, nxtA_len, List.length_replicate]
    have HONE := Lib.hid (arrI_one (nxtA l 0))
    have HAN := Lib.hid (fun X => ArrAt.new X (nxtA l 0))
    obtain ⟨Z, hZ⟩ : ∃ Z, arrI (List.replicate 17 (0 : Int)) = Z := ⟨_, rfl⟩
    rw [hZ] at hz HZS
    have C_ := Lib.hid C
    have C2_ := Lib.hid C2
    have C3_ := Lib.hid C3
    have h_ := Lib.hid h
    have hg_ := Lib.hid hg
    clear C C2 C3 h hg
    clear hZ hi hok hE hO
    go_enter Tryz.func38, Tryz.ntmps38
    go_wp2_with fail
    refine C_.out.mono ?_; rintro e w0 ⟨rfl, n0, rfl⟩
    go_wp2_with fail
    refine (C2_.out n0).mono ?_; rintro e w1 ⟨rfl, hb1⟩
    have hb1 : Below w.heap.size w w1 := (below_dn (Below.refl _ w) n0).trans hb1
    go_wp2_with fail
    refine (C3_.out w1).mono ?_; rintro e w2 ⟨rfl, hb2⟩
    have hb2 : Below w.heap.size w w2 := hb1.trans (hb2.mono hb1.size)
    clear hb1
    have hnew : Hid ((w2.alloc (.cells Z 124)).heap[w2.heap.size]? = some (.cells Z 124 (0, 0))) := heap_alloc_new w2 _
    have HT := Lib.hid (HAN.out w2)
    obtain ⟨T, hT⟩ : ∃ T, arrI (nxtA l 0) = T := ⟨_, rfl⟩
    rw [hT] at HSZ HZS HONE
    have HTT := Lib.hid hT
    rw [hT]
    clear hT
    have HLl := Lib.hid (show l.length ≤ 1099511627776 by omega)
    go_wp2_with (first | (refine wpList_store_row rfl 124 (.tmp 5) (.tmp 16) rfl w2.heap.size T rfl rfl 124 Z hnew.out HSZ.out HZS.out HONE.out ?_; rw [setRow_last]) | (refine make_int rfl (.tmp 18) (.tmp 18) rfl .i64 .i64 _ _ l.length rfl rfl rfl rfl HLl.out ?_; intro w3 hown hb3 hsz3))
    rw [HTT.out] at HT
    have HA3 := Lib.hid (HT.out.kept hb3)
    have hbs2 := hb2.size
    have hb3 : Below w.heap.size w w3 := (hb2.alloc hb2.size _).trans (hb3.mono (by simp; omega))
    simp only [World.size_alloc] at hown hsz3
    rw [← codeTo_zero] at hown
    have hown_ := Lib.hid hown
    clear hown
    clear hz C_ C2_ C3_ hnew HAN HZS HONE HSZ HT HTT hb2
    go_wp2
    go_loopw [22] (fun i wr => ∃ k : Nat, k ≤ l.length ∧ i = .int .i64 k ∧ ArrAt wr w2.heap.size (nxtA l k) ∧ OwnI (w2.heap.size + 1) wr (.slice (some ⟨w2.heap.size + 1, 0, none⟩) l.length l.length) (codeTo l k) ∧ Below w.heap.size w wr) (fun i _ => l.length - (intOf i).toNat)
    case atStart => exact ⟨0, Nat.zero_le _, rfl, HA3.out, hown_.out, hb3⟩
    case round =>
      clear hb3
      obtain ⟨k, hk, rfl, hA, hown, hbel⟩ := hrel
      by_cases hlt : k < l.length
      · obtain ⟨x, rfl, hxb, hx⟩ := h_.out.at k hlt
        have cx := hx k hlt
        have cx : wr.cell? (x.add k) = some (.int .i64 (l.getD k 0)) := by rw [hbel.cell (by rw [add_block]; exact hxb)]; exact cx
        obtain ⟨g0, g1⟩ := hg_.out k hlt
        have Z0 := Lib.hid (fun e => And.intro (nxtA_zero l k hlt e) (codeTo_skip l k hlt e))
        have Z1 := Lib.hid (fun m a b c => And.intro (nxtA_one l k m hlt a b c) (codeTo_one l k m hlt a b c))
        obtain ⟨X, hX⟩ : ∃ X, l.getD k 0 = X := ⟨_, rfl⟩
        rw [hX] at cx g0 g1 Z0 Z1
        clear hX hx
        obtain ⟨m, rfl⟩ : ∃ m : Nat, X = m := ⟨X.toNat, by omega⟩
        by_cases h0 : m = 0
        · subst h0
          have HE := Lib.hid (Z0.out rfl)
          have hA_ := Lib.hid hA
          have hown_ := Lib.hid hown
          clear hA hown
          go_wp2
          go_roundw
          case rel => exact ⟨k + 1, by omega, by go_num, by rw [HE.out.1]; exact hA_.out, by rw [HE.out.2]; exact hown_.out, hbel⟩
          case measure => simp [intOf]; omega
        · have HE := Lib.hid (Z1.out m rfl (by omega) (by omega))
          have hc := hA.cell m (by rw [nxtA_len]; omega)
          have hfr := hA.free m
          have hfo := hown.free k
          have hcv : 0 ≤ (nxtA l k).getD m 0 ∧ (nxtA l k).getD m 0 ≤ 70368744177664 := by
            rw [nxtA_get _ _ _ (by omega), if_neg h0]
            have := cnt_le (l.take k) m
            have := first_bd l m (by omega)
            rw [List.length_take] at *
            omega
          have hq := hown.int_cell k (by rw [codeTo_len]; exact hlt)
          obtain ⟨C, hC⟩ : ∃ C, (nxtA l k).getD m 0 = C := ⟨_, rfl⟩
          have hc2 := hA.far (b := w2.heap.size + 1) (i := k) (by omega) (.int .i64 C)
          have HS := Lib.hid (hc2.set m (C + 1))
          have HO := Lib.hid (OwnS.grown (hown.set_int k C (by rw [codeTo_len]; exact hlt)) (World.grownBy_setCell ⟨w2.heap.size, m, none⟩ (.int .i64 (C + 1))) (.inr (by simp [Value.ownBlock])))
          rw [hC] at hc hcv HE
          rw [HE.out.1] at HS
          rw [HE.out.2] at HO
          have hA_ := Lib.hid hA
          have hown_ := Lib.hid hown
          have hc2_ := Lib.hid hc2
          clear hA hown hc2
          clear hC HE
          go_wp2
          go_roundw
          case rel => exact ⟨k + 1, by omega, by go_num, HS.out, HO.out, (hbel.setCell (by simp; omega) _).setCell (by simp; omega) _⟩
          case measure => simp [intOf]; omega
      · obtain rfl : k = l.length := by omega
        have HV := Lib.hid (hown.base (show w.heap.size ≤ w2.heap.size + 1 by omega))
        clear hown hA
        go_wp2
        go_ret2
        exact ⟨_, rfl, HV.out, hbel⟩
end Go.Proofs.YtipcdkemokkdfaaGreat

/- Layer 13: a table is written. -/
namespace Go.Proofs.YtipcdkemokkdfaaGreat
open Go.ChangeShapes Go.WideShapes Go.ChangeAt Go.RowKit
set_option linter.unusedVariables false
set_option linter.unusedSimpArgs false
set_option maxRecDepth 100000
open Bits hiding packF pack_length
open RunsMath KraftMath CanonMath TurnMath Pm
theorem pLenR (a : Option Addr) (c : Nat) (r : List Run) (h : RunsOk r) (w : World) (hi : IsInts w a (cntR r)) :
    Calls Tryz.prog 42 #[.slice a 19 c, .int .i64 7] w fun e w' => ∃ u, e = .returned (.tuple #[u, .int .i64 0]) ∧ OwnI w.heap.size w' u (ofR r) ∧ Below w.heap.size w w' := by
  have e : ofR r = lensV (cntR r) ((7 : Int)).toNat := rfl
  rw [e]
  by_cases h1 : (srtS (cntR r)).length = 1
  · exact pLenOne a c 19 (cntR r) 7 w (cntR_len r) hi h.chk h1
  · exact pLenAll a c 19 (cntR r) 7 w (cntR_len r) hi h.chk h1
theorem code_bits (c n : Nat) : bitsOf (turn c n) n = msb c n :=
  word_inj (by rw [bitsOf_length, msb_len]) (by rw [wordOf_bitsOf, word_msb, Nat.mod_eq_of_lt (turn_lt c n)])
theorem own_ints {B : Nat} {w : World} {g n c : Nat} {l : List Int} (h : OwnI B w (.slice (some ⟨g, 0, none⟩) n c) l) (hl : l.length ≤ 70368744177664) : IsInts w (some ⟨g, 0, none⟩) l := by
  obtain ⟨a, c', e, hi⟩ := OwnS.isL h hl
  injection e with e1 _ _
  subst e1
  exact hi
theorem own_getI {B : Nat} {w : World} {v : Value} {l : List Int} (h : OwnI B w v l) (h0 : l.length ≠ 0) : ∃ g c, v = .slice (some ⟨g, 0, none⟩) l.length c ∧ B ≤ g ∧ g < w.heap.size := by
  have hlt := fun k e => OwnS.lt h k e
  rcases h.2 with ⟨h1, h2⟩ | ⟨g', cap', cur', h1, h2⟩
  · exact absurd h2 h0
  · exact ⟨g', cap', h1, hlt g' (by rw [h1]; rfl)⟩
/-- Runs that lie in a slice. -/
theorem own_r {B : Nat} {w : World} {v : Value} {r : List Run} (h : OwnR B w v r) (h0 : r ≠ []) : ∃ g c, v = .slice (some ⟨g, 0, none⟩) r.length c ∧ B ≤ g ∧ g < w.heap.size := by
  have hlt := fun k e => OwnS.lt h k e
  rcases h.2 with ⟨h1, h2⟩ | ⟨g', cap', cur', h1, h2⟩
  · exact absurd (List.length_eq_zero_iff.1 h2) h0
  · exact ⟨g', cap', h1, hlt g' (by rw [h1]; rfl)⟩
theorem PenW.undrew {w w' : World} {g B : Nat} {bits : List Bool} (h : PenW w.drew w' g B bits) : PenW w w' g B bits :=
  ⟨h.1, ⟨h.2.1.os, h.2.1.tape, h.2.1.output, h.2.1.size, h.2.1.block⟩, h.2.2⟩
/-- A word is put into a world that drew. -/
theorem pPutD (w : World) (g B : Nat) (l : List Bool) (x n : Nat) (h : IsWriter w g B l) (hn : n ≤ 56) (hx : x < 2 ^ n) (hl : l.length + n ≤ 1000000000000) :
    Calls Tryz.prog 27 #[.pointer (some ⟨g, 0, none⟩), .int .u64 x, .int .i64 n] w.drew fun e w' => e = .returned (.int .i64 0) ∧ PenW w w' g B (l ++ bitsOf x n) :=
  (wPut w.drew g B l x n h hn hx hl).mono fun e w' h => ⟨h.1, PenW.undrew ⟨h.2.1, h.2.2.1, h.2.2.2⟩⟩
set_option maxHeartbeats 6400000 in
theorem cPutOk (w0 : World) (g B : Nat) (bits : List Bool) (h : IsWriter w0 g B bits) (hbl : bits.length ≤ 900000) (a : Option Addr) (c : Nat) (l : List Int) (hi : IsInts w0 a l) (h0 : l ≠ []) (hl : l.length ≤ 1024) (hok : okB l = true) :
    Calls Tryz.prog 26 #[.pointer (some ⟨g, 0, none⟩), .slice a l.length c] w0 fun e w' => e = .returned (.int .i64 0) ∧ PenW w0 w' g B (bits ++ writeB (packL l) (ofR (packL l))) := by
  have hl0 : l.length ≠ 0 := fun e => h0 (List.length_eq_zero_iff.1 e)
  have hE : chkL l = 0 := by unfold chkL; rw [if_neg (by omega), if_neg (by rw [hok]; decide)]
  have CC := Lib.hid (cCheckIn a c l hl0 hl w0 hi 0 hE)
  have CP := Lib.hid (rPack a c l w0 hi (by omega))
  have HR := Lib.hid (pack_ok h0 hl hok)
  obtain ⟨r, hr⟩ : ∃ r, packL l = r := ⟨_, rfl⟩
  rw [hr] at CP HR ⊢
  have HW := Lib.hid h
  have hrl := HR.out.few
  clear h hi h0 hE hok hr hl0
  go_enter Tryz.func26, Tryz.ntmps26
  go_wp2_with fail
  refine CC.out.mono ?_; rintro e w1 ⟨rfl, rfl⟩
  go_wp2_with fail
  refine CP.out.mono ?_; rintro e w2 ⟨v2, rfl, ho2, hb2⟩
  obtain ⟨gr, cr, rfl, hgr1, hgr2⟩ := own_r ho2 HR.out.some
  have HR2 := Lib.hid (show IsRuns w2 (some ⟨gr, 0, none⟩) r from by
    obtain ⟨a', c', e, h⟩ := OwnS.isR ho2 (by omega)
    injection e with e1 _ _
    subst e1
    exact h)
  have HB2 := Lib.hid hb2
  clear ho2 hb2 CC CP
  go_wp2_with (first
    | (refine make_int rfl (.const (.int .i64 19)) (.const (.int .i64 19)) rfl .i64 .i64 _ _ 19 rfl rfl rfl rfl (by omega) ?_; intro w3 ho3 hb3 hz3)
    | fail)
  obtain ⟨gf, hgf⟩ : ∃ gf, w2.heap.size = gf := ⟨_, rfl⟩
  rw [hgf] at ho3 hb3 hz3 ⊢
  have hgrf : gr < gf := by rw [← hgf]; exact hgr2
  have HGF := Lib.hid hgf
  obtain ⟨xr, hxr⟩ : ∃ xr : Addr, (⟨gr, 0, none⟩ : Addr) = xr := ⟨_, rfl⟩
  have hxb : xr.block = gr := by rw [← hxr]
  rw [hxr] at HR2 ⊢
  have HXB := Lib.hid hxb
  have HO3 := Lib.hid (show OwnI gf w3 (.slice (some ⟨gf, 0, none⟩) 19 19) (cntR (r.take 0)) by rw [List.take_zero, cntR_nil]; exact ho3)
  have HB3 := Lib.hid hb3
  clear ho3 hb3 hz3 hgf hxr hxb hgr2
  go_loopw [27] (fun iv wr => ∃ k : Nat, iv = .int .i64 k ∧ k ≤ r.length ∧ Hid (OwnI gf wr (.slice (some ⟨gf, 0, none⟩) 19 19) (cntR (r.take k))) ∧ Hid (Below gf w2 wr)) (fun iv _ => r.length - (intOf iv).toNat)
  case atStart => exact ⟨0, rfl, Nat.zero_le _, HO3, HB3⟩
  case round =>
    clear HO3 HB3
    obtain ⟨k, rfl, hk, ho, hb⟩ := hrel
    by_cases hlt : k < r.length
    · obtain ⟨x', he, hxl, cx⟩ := (HR2.out.kept (by rw [HGF.out]; exact hb.out)).at k hlt
      injection he with he
      subst he
      obtain ⟨c0, c1⟩ := cx k hlt
      have hmem : r.getD k (0, 0) ∈ r := by rw [List.getD_eq_getElem?_getD, List.getElem?_eq_getElem hlt]; exact List.getElem_mem hlt
      obtain ⟨s, hs, hs19, -, -, m, hm, -, -⟩ := HR.out.sym hmem
      have hnx : r.take (k + 1) = r.take k ++ [r.getD k (0, 0)] := by
        rw [List.take_succ_eq_append_getElem hlt, List.getD_eq_getElem?_getD, List.getElem?_eq_getElem hlt]; rfl
      have hcn := cntR_next (r.take k) (r.getD k (0, 0)) s hs hs19
      rw [← hnx] at hcn
      rw [hs] at c0
      rw [hm] at c1
      have hle := cntR_le (r.take k) s
      rw [List.length_take, Nat.min_eq_left hk] at hle
      have cf := OwnS.int_cell ho.out s (by rw [cntR_len]; exact hs19)
      have ff := ho.out.free s
      have hgw := (OwnS.lt ho.out gf rfl).2
      have hst := OwnS.set_int ho.out s ((cntR (r.take k)).getD s 0 + 1) (by rw [cntR_len]; exact hs19)
      rw [← hcn] at hst
      obtain ⟨V, hV⟩ : ∃ V, (cntR (r.take k)).getD s 0 = V := ⟨_, rfl⟩
      rw [hV] at cf hst hle
      have HST := Lib.hid (hst.alloc (.cells #[.int .i64 (s : Int), .int .i64 (m : Int)] 97))
      have HBN := Lib.hid ((hb.out.setCell (p := ⟨gf, s, none⟩) (Nat.le_refl _) (.int .i64 (V + 1))).alloc (show gf ≤ (wr.setCell ⟨gf, s, none⟩ (.int .i64 (V + 1))).heap.size by have := hb.out.size; have := HGF.out; simp; omega) (.cells #[.int .i64 (s : Int), .int .i64 (m : Int)] 97))
      have hwV : IntKind.i64.wrap (V + 1) = V + 1 := by rw [IntKind.wrap_i64]; omega
      have hki : (k : Int) < (r.length : Int) := by omega
      have hsi : (s : Int) < 19 := by omega
      have hk0 : (0 : Int) ≤ (k : Int) := by omega
      have hs0 : (0 : Int) ≤ (s : Int) := by omega
      clear cx hmem hs hm hnx hcn hst hV ho hb
      go_wp2_with fail
      go_roundw
      case rel => exact ⟨k + 1, by go_num, by omega, HST, HBN⟩
      case measure => simp [intOf]; omega
    · obtain rfl : k = r.length := by omega
      have hki : ¬ (r.length : Int) < (r.length : Int) := by omega
      have ho' := ho.out
      rw [List.take_length] at ho'
      have HIF := Lib.hid (own_ints ho' (by rw [cntR_len]; omega))
      have HB4 := Lib.hid (show Below w1.heap.size w1 wr from HB2.out.trans (hb.out.mono (by have := HGF.out; have := HB2.out.size; omega)))
      have HR4 := Lib.hid (HR2.out.kept (by rw [HGF.out]; exact hb.out))
      clear ho' ho hb HR2 HB2 HGF
      go_wp2_with fail
      refine (pLenR _ 19 r HR.out wr HIF.out).mono ?_; rintro e w5 ⟨v5, rfl, ho5, hb5⟩
      obtain ⟨go, co, rfl, hgo1, hgo2⟩ := own_getI ho5 (by rw [ofR_len]; decide)
      have HO5 := Lib.hid (own_ints ho5 (by rw [ofR_len]; decide))
      have CCO := Lib.hid (cCodesO (some ⟨go, 0, none⟩) co (ofR r) w5 HO5.out HR.out.chk16.1)
      have HB5 := Lib.hid (HB4.out.trans (hb5.mono HB4.out.size))
      have HR5 := Lib.hid (HR4.out.kept hb5)
      have hgo3 : w1.heap.size ≤ go := Nat.le_trans HB4.out.size hgo1
      have HCL := Lib.hid (codes_len (l := ofR r) HR.out.chk16.1)
      rw [ofR_len] at CCO HCL ⊢
      clear hb5 ho5 HR4 HB4 HIF hgo1
      go_wp2_with fail
      refine CCO.out.mono ?_; rintro e w6 ⟨v6, rfl, ho6, hb6⟩
      obtain ⟨gc, cc, rfl, hgc1, hgc2⟩ := own_getI ho6 (by rw [HCL.out]; decide)
      have HC6 := Lib.hid (own_ints ho6 (by rw [HCL.out]; decide))
      have HO6 := Lib.hid (HO5.out.kept hb6)
      have HR6 := Lib.hid (HR5.out.kept hb6)
      have HB6 := Lib.hid (HB5.out.trans (hb6.mono HB5.out.size))
      have hgc3 : w1.heap.size ≤ gc := Nat.le_trans HB5.out.size hgc1
      rw [HCL.out]
      have HP6 := Lib.hid ((PenW.start HW.out).below HB6.out)
      have HFT := Lib.hid (show ∀ k, w1.heap.size ≤ k → ¬ foot w6 g k from fun k hk e => by
        have := foot_lt HW.out _ ((PenW.foot_iff HW.out HB6.out k).1 e)
        omega)
      have hgr3 : w1.heap.size ≤ xr.block := by rw [HXB.out]; exact hgr1
      have CPH := Lib.hid (cPutHead w6 g B bits HP6.out.1 (by omega) (some ⟨go, 0, none⟩) co (ofR r) (ofR_len r) HO6.out (fun i => ⟨(HR.out.of_bd i).1, (HR.out.of_bd i).2.1⟩) (fun x hx => by injection hx with hx; subst hx; exact HFT.out go hgo3))
      clear hb6 ho6 HO5 HR5 HB5 CCO hgc1 hgo2 hgc2
      go_wp2_with fail
      refine CPH.out.mono ?_; rintro e w7 ⟨rfl, hp7⟩
      have HP7 := Lib.hid (show PenW w6 w7 g B (bits ++ headB (ofR r) ++ (r.take 0).flatMap (runB (ofR r))) by simpa using hp7)
      obtain ⟨xo, hxo⟩ : ∃ xo : Addr, (⟨go, 0, none⟩ : Addr) = xo := ⟨_, rfl⟩
      obtain ⟨xc, hxc⟩ : ∃ xc : Addr, (⟨gc, 0, none⟩ : Addr) = xc := ⟨_, rfl⟩
      have hxob : w1.heap.size ≤ xo.block := by rw [← hxo]; exact hgo3
      have hxcb : w1.heap.size ≤ xc.block := by rw [← hxc]; exact hgc3
      rw [hxo] at HO6 ⊢
      rw [hxc] at HC6 ⊢
      clear hp7 CPH hxo hxc
      go_wp2_with fail
      go_loopw [60] (fun iv wr => ∃ k : Nat, iv = .int .i64 k ∧ k ≤ r.length ∧ Hid (PenW w6 wr g B (bits ++ headB (ofR r) ++ (r.take k).flatMap (runB (ofR r))))) (fun iv _ => r.length - (intOf iv).toNat)
      case atStart => exact ⟨0, rfl, Nat.zero_le _, HP7⟩
      case round =>
        clear HP7
        obtain ⟨k, rfl, hk, hp⟩ := hrel
        by_cases hlt : k < r.length
        · obtain ⟨x', he, hxl, cx⟩ := (hp.out.runs HR6.out (fun x hx => by injection hx with hx; subst hx; exact HFT.out _ hgr3)).at k hlt
          injection he with he
          subst he
          obtain ⟨c0, c1⟩ := cx k hlt
          have hmem : r.getD k (0, 0) ∈ r := by rw [List.getD_eq_getElem?_getD, List.getElem?_eq_getElem hlt]; exact List.getElem_mem hlt
          obtain ⟨s, hs, hs19, hn1, hn7, m, hm, hmE, -⟩ := HR.out.sym hmem
          have hnx := runs_next (ofR r) r k hlt
          have hlen := runs_len HR.out k hk
          rw [hs] at c0 hmE
          rw [hm] at c1
          have hrb : runB (ofR r) (r.getD k (0, 0)) = msb (code (ofR r) s) (len (ofR r) s) ++ bitsOf m (extra (s : Int)) := by
            unfold runB bitsS
            rw [hs, hm, Int.toNat_natCast, Int.toNat_natCast]
          obtain ⟨xo', he, hxol, cxo⟩ := HO6.out.at s (by rw [ofR_len]; exact hs19)
          injection he with he
          subst he
          obtain ⟨xc', he, hxcl, cxc⟩ := HC6.out.at s (by rw [HCL.out]; exact hs19)
          injection he with he
          subst he
          have cn := (hp.out.cell (p := xo.add s) (by rw [add_block]; exact hxol) (by rw [add_block]; exact HFT.out _ hxob)).trans (cxo s (by rw [ofR_len]; exact hs19))
          have cc1 := (hp.out.cell (p := xc.add s) (by rw [add_block]; exact hxcl) (by rw [add_block]; exact HFT.out _ hxcb)).trans (cxc s (by rw [HCL.out]; exact hs19))
          rw [lenI HR.out.chk16.1 (by rw [ofR_len]; exact hs19)] at cn
          rw [codes_at HR.out.chk16.1 (by rw [ofR_len]; exact hs19)] at cc1
          have hcl := ok_c HR.out.chk16.1 (s := s) (by rw [ofR_len]; exact hs19)
          obtain ⟨n, hn⟩ : ∃ n, len (ofR r) s = n := ⟨_, rfl⟩
          obtain ⟨C, hC⟩ : ∃ C, code (ofR r) s = C := ⟨_, rfl⟩
          rw [hn] at cn hn1 hn7 hcl hrb
          rw [hC] at cc1 hcl hrb
          obtain ⟨X, hX⟩ : ∃ X, turn C n = X := ⟨_, rfl⟩
          have hXn : X < 2 ^ n := by rw [← hX]; exact turn_lt C n
          have hn128 : 2 ^ n ≤ 128 := Nat.le_trans (Nat.pow_le_pow_right (by decide) hn7) (by decide)
          have hmsb : msb C n = bitsOf X n := by rw [← hX]; exact (code_bits C n).symm
          rw [hmsb] at hrb
          rw [hrb] at hnx
          have CT := Lib.hid (fun W => show Calls Tryz.prog 39 #[.int .i64 (C : Int), .int .i64 (n : Int)] W fun e w' => e = .returned (.int .i64 (X : Nat)) ∧ w' = W by
            have := bTurned (C : Int) n (by omega) W
            rw [show ((C : Int) % 4294967296).toNat = C by omega, hX] at this
            exact this)
          obtain ⟨EX, hEX⟩ : ∃ EX, extra (s : Int) = EX := ⟨_, rfl⟩
          have hE7 : EX ≤ 7 := by rw [← hEX]; exact extra7 _
          have CE := Lib.hid (fun W => rExtra (s : Int) (EX : Int) (by rw [hEX]) W)
          rw [hEX] at hmE hnx
          have hm128 : m < 128 := Nat.lt_of_lt_of_le hmE (Nat.le_trans (Nat.pow_le_pow_right (by decide) hE7) (by decide))
          have HNX := Lib.hid hnx
          have hAL : Below wr.heap.size wr (wr.alloc (.cells #[.int .i64 (s : Int), .int .i64 (m : Int)] 97)) := (Below.refl _ _).alloc (Nat.le_refl _) _
          have HPB := Lib.hid (hp.out.below hAL)
          have HBX := Lib.hid (heap_alloc_new wr (.cells #[.int .i64 (s : Int), .int .i64 (m : Int)] 97))
          have hfb := PenW.foot_iff hp.out.1 hAL
          have HFX := Lib.hid (show ¬ foot (wr.alloc (.cells #[.int .i64 (s : Int), .int .i64 (m : Int)] 97)) g wr.heap.size from fun e => by
            have := foot_lt hp.out.1 _ ((hfb _).1 e)
            omega)
          have cnb := (hAL.cell (cell_block cn)).trans cn
          have ccb := (hAL.cell (cell_block cc1)).trans cc1
          have hki : (k : Int) < (r.length : Int) := by omega
          have hsi : (s : Int) < 19 := by omega
          have hk0 : (0 : Int) ≤ (k : Int) := by omega
          have hs0 : (0 : Int) ≤ (s : Int) := by omega
          have hu1 : IntKind.u64.wrap (X : Int) = (X : Int) := IntWalk.u64_in _ (by omega)
          have hu2 : IntKind.u64.wrap (m : Int) = (m : Int) := IntWalk.u64_in _ (by omega)
          obtain ⟨gx, hgx⟩ : ∃ gx, wr.heap.size = gx := ⟨_, rfl⟩
          obtain ⟨wb, hwb⟩ : ∃ wb, wr.alloc (.cells #[.int .i64 (s : Int), .int .i64 (m : Int)] 97) = wb := ⟨_, rfl⟩
          have hgxb : gx < wb.heap.size := by rw [← hwb, ← hgx]; simp
          have HGX := Lib.hid hgx
          rw [hwb] at HPB HBX HFX cnb ccb
          rw [hgx] at HBX HFX
          have HLN := Lib.hid hlen
          have HAO := Lib.hid (show ¬ foot wb g xo.block from fun e => (HPB.out.2.2 _ e).elim (HFT.out _ hxob) (fun h => by omega))
          have HAC := Lib.hid (show ¬ foot wb g xc.block from fun e => (HPB.out.2.2 _ e).elim (HFT.out _ hxcb) (fun h => by omega))
          have b0 := cell_lit HBX.out 0 (.int .i64 (s : Int)) rfl
          have b1 := cell_lit HBX.out 1 (.int .i64 (m : Int)) rfl
          have HS0 := Lib.hid (show wb.drew.cell? ⟨gx, 0, none⟩ = some (.int .i64 (s : Int)) ∧ wb.drew.cell? (xc.add s) = some (.int .i64 (C : Int)) ∧ wb.drew.cell? (xo.add s) = some (.int .i64 (n : Int)) from ⟨b0, ccb, cnb⟩)
          have HS0' := Lib.hid (show wb.cell? ⟨gx, 0, none⟩ = some (.int .i64 (s : Int)) ∧ wb.cell? (xc.add s) = some (.int .i64 (C : Int)) ∧ wb.cell? (xo.add s) = some (.int .i64 (n : Int)) from ⟨b0, ccb, cnb⟩)
          have hxcw : xc.block < wb.heap.size := by have := HPB.out.2.1.size; omega
          have hxow : xo.block < wb.heap.size := by have := HPB.out.2.1.size; omega
          have HHL := Lib.hid (show (headB (ofR r)).length ≤ 61 by unfold headB; rw [headTo_len]; have := headN_le (ofR r) 19; omega)
          have CPT := Lib.hid (pPutD wb g B (bits ++ headB (ofR r) ++ (r.take k).flatMap (runB (ofR r))) X n HPB.out.1 (by omega) hXn (by rw [List.length_append, List.length_append]; have := HLN.out; have := HHL.out; omega))
          clear cx hmem hs hm hnx hlen hrb cxo cxc hcl hn hC hX hmsb hEX hAL hfb cn cc1 hxl
          go_wp2_with fail
          try rw [hgx]
          try rw [hwb]
          clear hgx hwb
          go_region_held3 (fun V => V.cell? ⟨gx, 0, none⟩ = some (.int .i64 (s : Int)) ∧ V.cell? (xc.add s) = some (.int .i64 (C : Int)) ∧ V.cell? (xo.add s) = some (.int .i64 (n : Int))) (first | exact HS0.out | exact HS0'.out | exact HS1.out | fail) (first | (go_at_call 39; (with_reducible refine (CT.out _).mono ?_; rintro e wx ⟨rfl, rfl⟩)) | (go_at_call 27; (with_reducible refine CPT.out.mono ?_; rintro e w8 ⟨rfl, hp8⟩; have HP8 := Lib.hid hp8; have HS1 := Lib.hid (show w8.cell? ⟨gx, 0, none⟩ = some (.int .i64 (s : Int)) ∧ w8.cell? (xc.add s) = some (.int .i64 (C : Int)) ∧ w8.cell? (xo.add s) = some (.int .i64 (n : Int)) from ⟨(hp8.cell hgxb HFX.out).trans HS0'.out.1, (hp8.cell (by rw [add_block]; exact hxcw) (by rw [add_block]; exact HAC.out)).trans HS0'.out.2.1, (hp8.cell (by rw [add_block]; exact hxow) (by rw [add_block]; exact HAO.out)).trans HS0'.out.2.2⟩); clear hp8)) | fail)
          have hs81 : w8.cell? ⟨gx, 1, none⟩ = some (.int .i64 (m : Int)) := (HP8.out.cell hgxb HFX.out).trans b1
          have hs80 : w8.cell? ⟨gx, 0, none⟩ = some (.int .i64 (s : Int)) := (HP8.out.cell hgxb HFX.out).trans b0
          have hg8 : gx < w8.heap.size := Nat.lt_of_lt_of_le hgxb HP8.out.2.1.size
          have HF8 := Lib.hid (show ¬ foot w8 g gx from fun e => (HP8.out.2.2 _ e).elim HFX.out (fun h => by omega))
          have HT0 := Lib.hid (show w8.cell? ⟨gx, 1, none⟩ = some (.int .i64 (m : Int)) ∧ w8.cell? ⟨gx, 0, none⟩ = some (.int .i64 (s : Int)) from ⟨hs81, hs80⟩)
          have HT0' := Lib.hid (show w8.drew.cell? ⟨gx, 1, none⟩ = some (.int .i64 (m : Int)) ∧ w8.drew.cell? ⟨gx, 0, none⟩ = some (.int .i64 (s : Int)) from ⟨hs81, hs80⟩)
          have CPM := Lib.hid (pPutD w8 g B (bits ++ headB (ofR r) ++ (r.take k).flatMap (runB (ofR r)) ++ bitsOf X n) m EX HP8.out.1 (by omega) hmE (by rw [List.length_append, List.length_append, List.length_append, bitsOf_length]; have := HLN.out; have := HHL.out; omega))
          have hHP := Lib.hid (HPB.out.chain HP8.out)
          simp only [Exit.then]
          rename_i hK hHeld
          refine hK _ _ ?_
          clear hK hHeld CT CPT
          go_region_held3 (fun V => V.cell? ⟨gx, 1, none⟩ = some (.int .i64 (m : Int)) ∧ V.cell? ⟨gx, 0, none⟩ = some (.int .i64 (s : Int))) (first | exact HT0.out | exact HT0'.out | exact HT1.out | fail) (first | (go_at_call 44; (with_reducible refine (CE.out _).mono ?_; rintro e wx ⟨rfl, rfl⟩)) | (go_at_call 27; (with_reducible refine CPM.out.mono ?_; rintro e w9 ⟨rfl, hp9⟩; have HP9 := Lib.hid hp9; have HT1 := Lib.hid (show w9.cell? ⟨gx, 1, none⟩ = some (.int .i64 (m : Int)) ∧ w9.cell? ⟨gx, 0, none⟩ = some (.int .i64 (s : Int)) from ⟨(hp9.cell hg8 HF8.out).trans HT0.out.1, (hp9.cell hg8 HF8.out).trans HT0.out.2⟩); clear hp9)) | fail)
          have HPF := Lib.hid (show PenW w6 w9 g B (bits ++ headB (ofR r) ++ (r.take (k + 1)).flatMap (runB (ofR r))) by
            rw [HNX.out]
            have := hHP.out.chain HP9.out
            simp only [List.append_assoc] at this ⊢
            exact this)
          clear CE CPM HP8 HP9 hHP HPB HS0 HS0' HT0 HT0' HNX HFX HF8 hg8 hs81 hs80 b0 b1 cnb ccb HBX HAO HAC HLN HHL HGX hgxb hXn hmE hm128 hn128 hE7 hu1 hu2
          try simp only [Exit.inBlock, Exit.then]
          rename_i hK Kx hHeld
          refine hK _ _ ?_
          clear hK hHeld HS1 HT1 Kx
          go_wp2_with fail
          go_roundw
          case rel => exact ⟨k + 1, by go_num, by omega, HPF⟩
          case measure => simp [intOf]; omega
        · obtain rfl : k = r.length := by omega
          have hki : ¬ (r.length : Int) < (r.length : Int) := by omega
          have hp' := hp.out
          rw [List.take_length] at hp'
          have HPE := Lib.hid (HP6.out.chain hp')
          clear hp hp'
          go_wp2_with fail
          go_ret
          exact ⟨rfl, by unfold writeB; rw [← List.append_assoc]; exact HPE.out⟩
end Go.Proofs.YtipcdkemokkdfaaGreat

/- Layer 24: the document's Freqs. -/
namespace Go.Proofs.YtipcdkemokkdfaaGreat
open Go.ChangeShapes Go.WideShapes Go.ChangeAt Go.RowKit
set_option linter.unusedVariables false
set_option linter.unusedSimpArgs false
set_option maxRecDepth 100000
theorem OwnS.other {B : Nat} {w : World} {g n cap k j : Nat} {l : List Int} {u : Value} (h : OwnI B w (.slice (some ⟨g, 0, none⟩) n cap) l) (hk : g ≠ k) : OwnI B (w.setCell ⟨k, j, none⟩ u) (.slice (some ⟨g, 0, none⟩) n cap) l :=
  ownsRow_setCell_other h (by simp [Value.ownBlock, hk]) u
/-- What is told of tokens. -/
def frA (l : List Tk) : List Int × List Int × Int := if ∀ t ∈ l, t.ok then ((tl l).1, (tl l).2, 0) else ([], [], 10)
theorem frA_bad (l : List Tk) (k : Nat) (h : k < l.length) (hb : ¬ l[k].ok) : frA l = ([], [], 10) := by
  unfold frA
  exact if_neg (fun hh => hb (hh _ (List.getElem_mem h)))
theorem frA_ok (l : List Tk) (h : ∀ i (h : i < l.length), l[i].ok) : frA l = ((tl l).1, (tl l).2, 0) := by
  unfold frA
  refine if_pos (fun t ht => ?_)
  obtain ⟨i, hi, rfl⟩ := List.getElem_of_mem ht
  exact h i hi
end Go.Proofs.YtipcdkemokkdfaaGreat

/- Layer 24: Freqs. -/
namespace Go.Proofs.YtipcdkemokkdfaaGreat
open Go.ChangeShapes Go.WideShapes Go.ChangeAt Go.RowKit
set_option linter.unusedVariables false
set_option linter.unusedSimpArgs false
set_option maxRecDepth 100000
theorem made_repF (v : Value) (n : Nat) : (madeCells #[v] n).toList = List.replicate n v := by
  rw [List.eq_replicate_iff]
  refine ⟨by simp [size_madeCells], fun b hb => ?_⟩
  unfold madeCells at hb
  simp only [Array.toList_map, List.mem_map] at hb
  obtain ⟨i, -, rfl⟩ := hb
  simp [Nat.mod_one]
theorem mk_fullI (N : Nat) (L : Int) (hL : L = N) (hN : N ≤ 1000) :
    ∃ ROW : Array Value, (ROW.size = N ∧ ROW.toList = List.replicate N (Value.int .i64 0)) ∧ ∀ w : World, (Instr.makeSlice 65 (.int .i64 L) (.int .i64 L)).run Tryz.prog w = .ok (.slice (some ⟨w.heap.size, 0, none⟩) N N) (w.alloc (.cells ROW 3)) := by
  obtain ⟨i, hi, hz, hs, hb⟩ := info_get info_int
  refine ⟨madeCells (Value.int .i64 0).cells N, ⟨size_madeCells _ _, made_repF _ _⟩, fun w => ?_⟩
  have := run_make (w := w) (P := Tryz.prog) 65 3 i (.int .i64 0) Tryz.underlying65 hi hz .i64 .i64 L L (by omega) (by omega) (by
    rw [hb]
    omega) (by omega)
  rw [hs, hL, Int.toNat_natCast, Nat.mul_one] at this
  rw [hL]
  exact this
theorem own_fullI {w : World} {g N B : Nat} {ROW : Array Value} (h : w.heap[g]? = some (.cells ROW 3 (0, 0))) (hB : B ≤ g) (hs : ROW.size = N ∧ ROW.toList = List.replicate N (Value.int .i64 0)) (hc : N ≤ 1000) : OwnI B w (.slice (some ⟨g, 0, none⟩) N N) (List.replicate N 0) := by
  refine ⟨by rw [flatMap_fI]; simp [intCells], .inr ⟨g, N, ROW, by rw [List.length_replicate], hB, h, by simp, by unfold maxLen; omega, by omega, ?_⟩⟩
  rw [hs.2, Nat.mul_one, List.take_of_length_le (by simp), flatMap_fI]
  simp [intCells]
theorem ad1 (w : World) (a b : Obj) : ((w.alloc a).alloc b).drew.heap[w.heap.size + 1]? = some b := by
  have := heap_alloc_new (w.alloc a) b
  show ((w.alloc a).alloc b).heap[w.heap.size + 1]? = some b
  simpa using this
theorem ad0 (w : World) (a b : Obj) : ((w.alloc a).alloc b).drew.heap[w.heap.size]? = some a := heap_old (heap_alloc_new w a) b
theorem bd2 (w : World) (a b : Obj) : Below w.heap.size w ((w.alloc a).alloc b).drew := (((Below.refl _ _).alloc (Nat.le_refl _) a).alloc (by simp) b).drew
set_option maxHeartbeats 3200000 in
theorem cFreqs (a : Option Addr) (c n : Nat) (l : List Tk) (w : World) (hl : l.length = n) (hi : IsTk w a l) (hn : n ≤ 300) :
    Calls Tryz.prog 36 #[.slice a n c] w fun e w' => ∃ v1 v2, e = .returned (.tuple #[v1, v2, .int .i64 (frA l).2.2]) ∧ IsL w' v1 (frA l).1 ∧ IsL w' v2 (frA l).2.1 ∧ Below w.heap.size w w' := by
  have HI := Lib.hid hi
  have HL := Lib.hid hl
  have CS := Lib.hid (fun (t : Tk) W => Tok.sym_any t.k t.b t.l t.d t.r W)
  have CD := Lib.hid (fun n W h1 h2 => Slo.Dist_in n h1 h2 W)
  clear hi hl
  go_enter Tryz.func36, Tryz.ntmps36
  obtain ⟨R1, hR1, hmk1⟩ := mk_fullI 401 401 rfl (by decide)
  obtain ⟨R2, hR2, hmk2⟩ := mk_fullI 52 52 rfl (by decide)
  have HR1 := Lib.hid hR1; have HR2 := Lib.hid hR2
  clear hR1 hR2
  go_wp2_with fail
  go_cut [5, 6] from 1 to 1 (fun s5 s6 wc => ∃ gm gd, s5 = .slice (some ⟨gm, 0, none⟩) 401 401 ∧ s6 = .slice (some ⟨gd, 0, none⟩) 52 52 ∧ OwnI w.heap.size wc (.slice (some ⟨gm, 0, none⟩) 401 401) (List.replicate 401 0) ∧ OwnI w.heap.size wc (.slice (some ⟨gd, 0, none⟩) 52 52) (List.replicate 52 0) ∧ gm ≠ gd ∧ w.heap.size ≤ gm ∧ w.heap.size ≤ gd ∧ Below w.heap.size w wc)
  case first =>
    go_region_with fail
    all_goals
      go_wp2_with fail
      go_meet
      case rel =>
        refine ⟨_, _, rfl, rfl, ?_, ?_, ?_, ?_, ?_, ?_⟩
        · first | exact own_fullI (ad0 _ _ _) (by omega) HR1.out (by decide) | exact own_fullI (ad1 _ _ _) (by omega) HR1.out (by decide)
        · first | exact own_fullI (ad0 _ _ _) (by omega) HR2.out (by decide) | exact own_fullI (ad1 _ _ _) (by omega) HR2.out (by decide)
        · omega
        · omega
        · omega
        · exact bd2 _ _ _
  case rest =>
    obtain ⟨gm, gd, rfl, rfl, hm, hd, hne, hg1, hg2, hb⟩ := hcut
    have HM := Lib.hid hm
    have HD := Lib.hid hd
    have HB := Lib.hid hb
    have HG1 := Lib.hid hg1
    have HG2 := Lib.hid hg2
    have hne2 : gd ≠ gm := fun h => hne h.symm
    clear hm hd hb hmk1 hmk2 HR1 HR2 hg1 hg2
    go_wp2_with fail
    go_loopw [18] (fun iv wr => ∃ (k : Nat) (m d : List Int), k ≤ n ∧ iv = .int .i64 k ∧ Hid (tl (l.take k) = (m, d)) ∧ Hid (∀ i (h : i < l.length), i < k → l[i].ok) ∧ Hid (OwnI w.heap.size wr (.slice (some ⟨gm, 0, none⟩) 401 401) m) ∧ Hid (OwnI w.heap.size wr (.slice (some ⟨gd, 0, none⟩) 52 52) d) ∧ Hid (Below w.heap.size w wr)) (fun iv _ => n - (intOf iv).toNat)
    case atStart => exact ⟨0, _, _, Nat.zero_le _, rfl, Lib.hid rfl, Lib.hid (fun i h h2 => by omega), HM, HD, HB⟩
    case round =>
      clear HM HD HB
      obtain ⟨k, m, d, hk, rfl, HT, HK, HM, HD, HB⟩ := hrel
      by_cases hlt : k < n
      · have hki : (k : Int) < n := by omega
        have hkl : k < l.length := by rw [HL.out]; exact hlt
        obtain ⟨x, rfl, hx, hc⟩ := HI.out.at k hkl
        have HS := Lib.hid (tl_succ l k hkl)
        have HOKB := Lib.hid (fun h => frA_bad l k hkl h)
        have HK2 := Lib.hid (fun (h : l[k].ok) => (show ∀ i (h : i < l.length), i < k + 1 → l[i].ok from fun i hi h2 => by
          by_cases e : i = k
          · subst e; exact h
          · exact HK.out i hi (by omega)))
        obtain ⟨t, ht⟩ : ∃ t, l[k] = t := ⟨_, rfl⟩
        rw [ht] at hc HS HOKB HK2
        rw [HT.out] at HS
        have hlen := tl_len (l.take k)
        have hbd := tl_bd (l.take k)
        rw [HT.out, List.length_take_of_le (by omega)] at hbd
        rw [HT.out] at hlen
        obtain ⟨hm401, hd52⟩ := hlen
        simp only at hm401 hd52
        obtain ⟨hmb, hdb⟩ := hbd
        obtain ⟨c0, c1, c2, c3, c4⟩ := hc.kept HB.out
        have hxb : (x.add (k * 5)).block < wr.heap.size := cell_block c0
        have CT := Lib.hid (fun W => CS.out t W)
        clear ht hx hc
        obtain ⟨gb, hgb⟩ : ∃ g, wr.heap.size = g := ⟨_, rfl⟩
        have lgm : gm < wr.heap.size := (HM.out.lt _ rfl).2
        have hgbm : gb ≠ gm := by omega
        have hqb := heap_alloc_new wr (.cells #[.int .i64 t.k, .int .i64 t.b, .int .i64 t.l, .int .i64 t.d, .int .i64 t.r] 42)
        have HMa := Lib.hid (HM.out.alloc (.cells #[.int .i64 t.k, .int .i64 t.b, .int .i64 t.l, .int .i64 t.d, .int .i64 t.r] 42))
        have HDa := Lib.hid (HD.out.alloc (.cells #[.int .i64 t.k, .int .i64 t.b, .int .i64 t.l, .int .i64 t.d, .int .i64 t.r] 42))
        have HBa := Lib.hid (HB.out.alloc HB.out.size (.cells #[.int .i64 t.k, .int .i64 t.b, .int .i64 t.l, .int .i64 t.d, .int .i64 t.r] 42))
        rw [hgb] at hqb
        have HQB := Lib.hid hqb
        clear hqb lgm
        by_cases hok : t.ok
        · obtain ⟨s1, s2, s3, s4⟩ := sym_ok t hok
          rw [s1, s3] at CT
          have HS := Lib.hid (show tl (l.take (k + 1)) = (bump m (symN t), if t.k = 1 then bump d (Slo.slotD t.d.toNat) else d) from HS.out)
          have HK3 := Lib.hid (HK2.out hok)
          obtain ⟨S, hS⟩ : ∃ S, symN t = S := ⟨_, rfl⟩
          rw [hS] at CT s2 HS
          obtain ⟨v, hv⟩ : ∃ v, m.getD S 0 = v := ⟨_, rfl⟩
          have hvb := hmb S
          rw [hv] at hvb
          have hvb2 : 0 ≤ v ∧ v ≤ 300 := by omega
          have hSi : (S : Int) < 401 := by omega
          have hS4 : S < 401 := by omega
          clear s1 s3 hok hS HOKB HK2 hvb
          go_wp2_with fail
          refine (CT.out _).mono ?_; rintro e w3 ⟨rfl, hb⟩
          have HM2 := Lib.hid (HMa.out.kept hb)
          have HD2 := Lib.hid (HDa.out.kept hb)
          have HB2 := Lib.hid (HBa.out.trans (hb.mono HBa.out.size))
          have HQ3 := Lib.hid ((hb.block _ (block_lt HQB.out)).trans HQB.out)
          clear hb HM HD HB c0 c1 c2 c3 c4 hxb CT HMa HDa HBa HQB hgb
          have co := HM2.out.int_cell S (by rw [hm401]; exact hS4)
          rw [hv] at co
          have fo := HM2.out.free S
          have lo := (HM2.out.lt _ rfl).2
          have HM3 := Lib.hid (HM2.out.set_int S (v + 1) (by rw [hm401]; exact hS4))
          have HD3 := Lib.hid (HD2.out.other (k := gm) (j := S) (u := .int .i64 (v + 1)) hne2)
          have HB3 := Lib.hid (HB2.out.setCell (p := ⟨gm, S, none⟩) HG1.out (.int .i64 (v + 1)))
          have hq4 := (Below.heap_setCell w3 ⟨gm, S, none⟩ (.int .i64 (v + 1)) gb hgbm).trans HQ3.out
          have b0 := cell_lit hq4 0 (.int .i64 t.k) rfl
          have b3 := cell_lit hq4 3 (.int .i64 t.d) rfl
          have lb := cell_block b0
          have hbm : bump m S = m.set S (v + 1) := by unfold bump; rw [hv]
          clear hq4 HQ3
          by_cases hk1 : t.k = 1
          · obtain ⟨h1, h2⟩ := s4 hk1
            obtain ⟨D, hD⟩ : ∃ D : Nat, t.d = D := ⟨t.d.toNat, by omega⟩
            rw [if_pos hk1, hD, Int.toNat_natCast, hbm] at HS
            rw [hD] at b3
            have CDD := Lib.hid (fun W => CD.out D W (by omega) (by omega))
            have hQ := (Slo.slotD_facts D (by omega) (by omega)).1
            obtain ⟨Q, hQe⟩ : ∃ Q, Slo.slotD D = Q := ⟨_, rfl⟩
            rw [hQe] at CDD hQ HS
            obtain ⟨u, hu⟩ : ∃ u, d.getD Q 0 = u := ⟨_, rfl⟩
            have hub := hdb Q
            rw [hu] at hub
            have hub2 : 0 ≤ u ∧ u ≤ 300 := by omega
            have hQi : (Q : Int) < 52 := by omega
            have hQ4 : Q < 52 := by omega
            have hbd2 : bump d Q = d.set Q (u + 1) := by unfold bump; rw [hu]
            rw [hbd2] at HS
            rw [hk1] at b0
            clear hub hD h1 h2 hQe
            go_wp2_with fail
            refine (CDD.out _).mono ?_; rintro e w4 ⟨rfl, hb⟩
            have HM4 := Lib.hid (HM3.out.kept hb)
            have HD4 := Lib.hid (HD3.out.kept hb)
            have HB4 := Lib.hid (HB3.out.trans (hb.mono HB3.out.size))
            clear hb HM3 HD3 HB3 b0 b3 lb CDD co fo lo HM2 HD2 HB2
            have co := HD4.out.int_cell Q (by rw [hd52]; exact hQ4)
            rw [hu] at co
            have fo := HD4.out.free Q
            have lo := (HD4.out.lt _ rfl).2
            have HD5 := Lib.hid (HD4.out.set_int Q (u + 1) (by rw [hd52]; exact hQ4))
            have HM5 := Lib.hid (HM4.out.other (k := gd) (j := Q) (u := .int .i64 (u + 1)) hne)
            have HB5 := Lib.hid (HB4.out.setCell (p := ⟨gd, Q, none⟩) HG2.out (.int .i64 (u + 1)))
            go_wp2_with fail
            go_roundw
            case rel => exact ⟨k + 1, _, _, by omega, by go_num, HS, HK3, HM5, HD5, HB5⟩
            case measure => simp [intOf] <;> omega
          · rw [if_neg hk1, hbm] at HS
            go_wp2_with fail
            go_roundw
            case rel => exact ⟨k + 1, _, _, by omega, by go_num, HS, HK3, HM3, HD3, HB3⟩
            case measure => simp [intOf] <;> omega
        · have HE := Lib.hid (HOKB.out hok)
          rw [sym_no t hok] at CT
          go_wp2_with fail
          refine (CT.out _).mono ?_; rintro e w3 ⟨rfl, hb⟩
          have HB2 := Lib.hid (HBa.out.trans (hb.mono HBa.out.size))
          clear hb
          go_wp2_with fail
          go_ret3
          rw [HE.out]
          exact ⟨_, _, rfl, IsL.nil _, IsL.nil _, HB2.out⟩
      · obtain rfl : k = n := by omega
        have HF := Lib.hid (frA_ok l (fun i h => HK.out i h (by have := HL.out; omega)))
        have hTk := HT.out
        rw [List.take_of_length_le (by rw [HL.out]; exact Nat.le_refl _)] at hTk
        have hm := (tl_len l).1
        have hd := (tl_len l).2
        rw [hTk] at hm hd
        go_wp2_with fail
        go_ret3
        rw [HF.out, hTk]
        refine ⟨_, _, rfl, ?_, ?_, HB.out⟩
        · exact HM.out.isL (by rw [hm]; decide)
        · exact HD.out.isL (by rw [hd]; decide)
end Go.Proofs.YtipcdkemokkdfaaGreat

/- Layer 24: Prices, both. -/
namespace Go.Proofs.YtipcdkemokkdfaaGreat
open Go.ChangeShapes Go.WideShapes Go.ChangeAt Go.RowKit
set_option linter.unusedVariables false
set_option linter.unusedSimpArgs false
set_option maxRecDepth 100000
end Go.Proofs.YtipcdkemokkdfaaGreat
