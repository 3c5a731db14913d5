import Derived.Test.YtopiiickeojpmaaJ17
import Derived.Test.YtopiiickeojpmaaJ08
import Derived.Test.YtopiiickeojpmaaJ1
/- Layer 13: a table is written. -/
namespace Go.Proofs.Ytopiiickeojpmaa
open Go.ChangeShapes Go.WideShapes Go.ChangeAt Go.RowKit
set_option linter.unusedVariables false
set_option linter.unusedSimpArgs false
set_option maxRecDepth 100000
open Bits hiding packF pack_length
open RunsMath KraftMath CanonMath TurnMath Pm
theorem pLenR (a : Option Addr) (c : Nat) (r : List Run) (h : RunsOk r) (w : World) (hi : IsInts w a (cntR r)) :
    Calls Try.prog 25 #[.slice a 19 c, .int .i64 7] w fun e w' => ∃ u, e = .returned (.tuple #[u, .int .i64 0]) ∧ OwnI w.heap.size w' u (ofR r) ∧ Below w.heap.size w w' := by
  have e : ofR r = lensV (cntR r) ((7 : Int)).toNat := rfl
  rw [e]
  by_cases h1 : (srtS (cntR r)).length = 1
  · exact pLenOne a c 19 (cntR r) 7 w (cntR_len r) hi h.chk h1
  · exact pLenAll a c 19 (cntR r) 7 w (cntR_len r) hi h.chk h1
theorem code_bits (c n : Nat) : bitsOf (turn c n) n = msb c n :=
  word_inj (by rw [bitsOf_length, msb_len]) (by rw [wordOf_bitsOf, word_msb, Nat.mod_eq_of_lt (turn_lt c n)])
set_option maxHeartbeats 1600000 in
theorem cPutNil (a : Option Addr) (n c : Nat) (w : World) : Calls Try.prog 8 #[.pointer none, .slice a n c] w fun e w' => e = .returned (.int .i64 1) ∧ w' = w := by
  go_enter Try.func8, Try.ntmps8
  go_wp2_with fail
  go_ret
  exact ⟨rfl, rfl⟩
set_option maxHeartbeats 1600000 in
theorem cPutBad (p : Addr) (v : Value) (E : Int) (hE : E ≠ 0) (w : World) (C : Calls Try.prog 23 #[v] w fun e w' => e = .returned (.int .i64 E) ∧ w' = w) : Calls Try.prog 8 #[.pointer (some p), v] w fun e w' => e = .returned (.int .i64 E) ∧ w' = w := by
  have CC := Lib.hid C
  have hb : (E != 0) = true := by rw [bne_iff_ne]; exact hE
  clear C hE
  go_enter Try.func8, Try.ntmps8
  go_wp2_with fail
  refine CC.out.mono ?_; rintro e w1 ⟨rfl, rfl⟩
  go_wp2_with fail
  go_ret
  exact ⟨rfl, rfl⟩
theorem own_ints {B : Nat} {w : World} {g n c : Nat} {l : List Int} (h : OwnI B w (.slice (some ⟨g, 0, none⟩) n c) l) (hl : l.length ≤ 70368744177664) : IsInts w (some ⟨g, 0, none⟩) l := by
  obtain ⟨a, c', e, hi⟩ := OwnS.isL h hl
  injection e with e1 _ _
  subst e1
  exact hi
theorem own_getI {B : Nat} {w : World} {v : Value} {l : List Int} (h : OwnI B w v l) (h0 : l.length ≠ 0) : ∃ g c, v = .slice (some ⟨g, 0, none⟩) l.length c ∧ B ≤ g ∧ g < w.heap.size := by
  have hlt := fun k e => OwnS.lt h k e
  rcases h.2 with ⟨h1, h2⟩ | ⟨g', cap', cur', h1, h2⟩
  · exact absurd h2 h0
  · exact ⟨g', cap', h1, hlt g' (by rw [h1]; rfl)⟩
/-- Runs that lie in a slice. -/
theorem own_r {B : Nat} {w : World} {v : Value} {r : List Run} (h : OwnR B w v r) (h0 : r ≠ []) : ∃ g c, v = .slice (some ⟨g, 0, none⟩) r.length c ∧ B ≤ g ∧ g < w.heap.size := by
  have hlt := fun k e => OwnS.lt h k e
  rcases h.2 with ⟨h1, h2⟩ | ⟨g', cap', cur', h1, h2⟩
  · exact absurd (List.length_eq_zero_iff.1 h2) h0
  · exact ⟨g', cap', h1, hlt g' (by rw [h1]; rfl)⟩
theorem PenW.undrew {w w' : World} {g B : Nat} {bits : List Bool} (h : PenW w.drew w' g B bits) : PenW w w' g B bits :=
  ⟨h.1, ⟨h.2.1.os, h.2.1.tape, h.2.1.output, h.2.1.size, h.2.1.block⟩, h.2.2⟩
/-- A word is put into a world that drew. -/
theorem pPutD (w : World) (g B : Nat) (l : List Bool) (x n : Nat) (h : IsWriter w g B l) (hn : n ≤ 56) (hx : x < 2 ^ n) (hl : l.length + n ≤ 1000000000000) :
    Calls Try.prog 7 #[.pointer (some ⟨g, 0, none⟩), .int .u64 x, .int .i64 n] w.drew fun e w' => e = .returned (.int .i64 0) ∧ PenW w w' g B (l ++ bitsOf x n) :=
  (wPut w.drew g B l x n h hn hx hl).mono fun e w' h => ⟨h.1, PenW.undrew ⟨h.2.1, h.2.2.1, h.2.2.2⟩⟩
set_option maxHeartbeats 6400000 in
theorem cPutOk (w0 : World) (g B : Nat) (bits : List Bool) (h : IsWriter w0 g B bits) (hbl : bits.length ≤ 900000) (a : Option Addr) (c : Nat) (l : List Int) (hi : IsInts w0 a l) (h0 : l ≠ []) (hl : l.length ≤ 1024) (hok : okB l = true) :
    Calls Try.prog 8 #[.pointer (some ⟨g, 0, none⟩), .slice a l.length c] w0 fun e w' => e = .returned (.int .i64 0) ∧ PenW w0 w' g B (bits ++ writeB (packL l) (ofR (packL l))) := by
  have hl0 : l.length ≠ 0 := fun e => h0 (List.length_eq_zero_iff.1 e)
  have hE : chkL l = 0 := by unfold chkL; rw [if_neg (by omega), if_neg (by rw [hok]; decide)]
  have CC := Lib.hid (cCheckIn a c l hl0 hl w0 hi 0 hE)
  have CP := Lib.hid (rPack a c l w0 hi (by omega))
  have HR := Lib.hid (pack_ok h0 hl hok)
  obtain ⟨r, hr⟩ : ∃ r, packL l = r := ⟨_, rfl⟩
  rw [hr] at CP HR ⊢
  have HW := Lib.hid h
  have hrl := HR.out.few
  clear h hi h0 hE hok hr hl0
  go_enter Try.func8, Try.ntmps8
  go_wp2_with fail
  refine CC.out.mono ?_; rintro e w1 ⟨rfl, rfl⟩
  go_wp2_with fail
  refine CP.out.mono ?_; rintro e w2 ⟨v2, rfl, ho2, hb2⟩
  obtain ⟨gr, cr, rfl, hgr1, hgr2⟩ := own_r ho2 HR.out.some
  have HR2 := Lib.hid (show IsRuns w2 (some ⟨gr, 0, none⟩) r from by
    obtain ⟨a', c', e, h⟩ := OwnS.isR ho2 (by omega)
    injection e with e1 _ _
    subst e1
    exact h)
  have HB2 := Lib.hid hb2
  clear ho2 hb2 CC CP
  go_wp2_with (first
    | (refine make_int rfl (.const (.int .i64 19)) (.const (.int .i64 19)) rfl .i64 .i64 _ _ 19 rfl rfl rfl rfl (by omega) ?_; intro w3 ho3 hb3 hz3)
    | fail)
  obtain ⟨gf, hgf⟩ : ∃ gf, w2.heap.size = gf := ⟨_, rfl⟩
  rw [hgf] at ho3 hb3 hz3 ⊢
  have hgrf : gr < gf := by rw [← hgf]; exact hgr2
  have HGF := Lib.hid hgf
  obtain ⟨xr, hxr⟩ : ∃ xr : Addr, (⟨gr, 0, none⟩ : Addr) = xr := ⟨_, rfl⟩
  have hxb : xr.block = gr := by rw [← hxr]
  rw [hxr] at HR2 ⊢
  have HXB := Lib.hid hxb
  have HO3 := Lib.hid (show OwnI gf w3 (.slice (some ⟨gf, 0, none⟩) 19 19) (cntR (r.take 0)) by rw [List.take_zero, cntR_nil]; exact ho3)
  have HB3 := Lib.hid hb3
  clear ho3 hb3 hz3 hgf hxr hxb hgr2
  go_loopw [27] (fun iv wr => ∃ k : Nat, iv = .int .i64 k ∧ k ≤ r.length ∧ Hid (OwnI gf wr (.slice (some ⟨gf, 0, none⟩) 19 19) (cntR (r.take k))) ∧ Hid (Below gf w2 wr)) (fun iv _ => r.length - (intOf iv).toNat)
  case atStart => exact ⟨0, rfl, Nat.zero_le _, HO3, HB3⟩
  case round =>
    clear HO3 HB3
    obtain ⟨k, rfl, hk, ho, hb⟩ := hrel
    by_cases hlt : k < r.length
    · obtain ⟨x', he, hxl, cx⟩ := (HR2.out.kept (by rw [HGF.out]; exact hb.out)).at k hlt
      injection he with he
      subst he
      obtain ⟨c0, c1⟩ := cx k hlt
      have hmem : r.getD k (0, 0) ∈ r := by rw [List.getD_eq_getElem?_getD, List.getElem?_eq_getElem hlt]; exact List.getElem_mem hlt
      obtain ⟨s, hs, hs19, -, -, m, hm, -, -⟩ := HR.out.sym hmem
      have hnx : r.take (k + 1) = r.take k ++ [r.getD k (0, 0)] := by
        rw [List.take_succ_eq_append_getElem hlt, List.getD_eq_getElem?_getD, List.getElem?_eq_getElem hlt]; rfl
      have hcn := cntR_next (r.take k) (r.getD k (0, 0)) s hs hs19
      rw [← hnx] at hcn
      rw [hs] at c0
      rw [hm] at c1
      have hle := cntR_le (r.take k) s
      rw [List.length_take, Nat.min_eq_left hk] at hle
      have cf := OwnS.int_cell ho.out s (by rw [cntR_len]; exact hs19)
      have ff := ho.out.free s
      have hgw := (OwnS.lt ho.out gf rfl).2
      have hst := OwnS.set_int ho.out s ((cntR (r.take k)).getD s 0 + 1) (by rw [cntR_len]; exact hs19)
      rw [← hcn] at hst
      obtain ⟨V, hV⟩ : ∃ V, (cntR (r.take k)).getD s 0 = V := ⟨_, rfl⟩
      rw [hV] at cf hst hle
      have HST := Lib.hid (hst.alloc (.cells #[.int .i64 (s : Int), .int .i64 (m : Int)] 54))
      have HBN := Lib.hid ((hb.out.setCell (p := ⟨gf, s, none⟩) (Nat.le_refl _) (.int .i64 (V + 1))).alloc (show gf ≤ (wr.setCell ⟨gf, s, none⟩ (.int .i64 (V + 1))).heap.size by have := hb.out.size; have := HGF.out; simp; omega) (.cells #[.int .i64 (s : Int), .int .i64 (m : Int)] 54))
      have hwV : IntKind.i64.wrap (V + 1) = V + 1 := by rw [IntKind.wrap_i64]; omega
      have hki : (k : Int) < (r.length : Int) := by omega
      have hsi : (s : Int) < 19 := by omega
      have hk0 : (0 : Int) ≤ (k : Int) := by omega
      have hs0 : (0 : Int) ≤ (s : Int) := by omega
      clear cx hmem hs hm hnx hcn hst hV ho hb
      go_wp2_with fail
      go_roundw
      case rel => exact ⟨k + 1, by go_num, by omega, HST, HBN⟩
      case measure => simp [intOf]; omega
    · obtain rfl : k = r.length := by omega
      have hki : ¬ (r.length : Int) < (r.length : Int) := by omega
      have ho' := ho.out
      rw [List.take_length] at ho'
      have HIF := Lib.hid (own_ints ho' (by rw [cntR_len]; omega))
      have HB4 := Lib.hid (show Below w1.heap.size w1 wr from HB2.out.trans (hb.out.mono (by have := HGF.out; have := HB2.out.size; omega)))
      have HR4 := Lib.hid (HR2.out.kept (by rw [HGF.out]; exact hb.out))
      clear ho' ho hb HR2 HB2 HGF
      go_wp2_with fail
      refine (pLenR _ 19 r HR.out wr HIF.out).mono ?_; rintro e w5 ⟨v5, rfl, ho5, hb5⟩
      obtain ⟨go, co, rfl, hgo1, hgo2⟩ := own_getI ho5 (by rw [ofR_len]; decide)
      have HO5 := Lib.hid (own_ints ho5 (by rw [ofR_len]; decide))
      have CCO := Lib.hid (cCodesO (some ⟨go, 0, none⟩) co (ofR r) w5 HO5.out HR.out.chk16.1)
      have HB5 := Lib.hid (HB4.out.trans (hb5.mono HB4.out.size))
      have HR5 := Lib.hid (HR4.out.kept hb5)
      have hgo3 : w1.heap.size ≤ go := Nat.le_trans HB4.out.size hgo1
      have HCL := Lib.hid (codes_len (l := ofR r) HR.out.chk16.1)
      rw [ofR_len] at CCO HCL ⊢
      clear hb5 ho5 HR4 HB4 HIF hgo1
      go_wp2_with fail
      refine CCO.out.mono ?_; rintro e w6 ⟨v6, rfl, ho6, hb6⟩
      obtain ⟨gc, cc, rfl, hgc1, hgc2⟩ := own_getI ho6 (by rw [HCL.out]; decide)
      have HC6 := Lib.hid (own_ints ho6 (by rw [HCL.out]; decide))
      have HO6 := Lib.hid (HO5.out.kept hb6)
      have HR6 := Lib.hid (HR5.out.kept hb6)
      have HB6 := Lib.hid (HB5.out.trans (hb6.mono HB5.out.size))
      have hgc3 : w1.heap.size ≤ gc := Nat.le_trans HB5.out.size hgc1
      rw [HCL.out]
      have HP6 := Lib.hid ((PenW.start HW.out).below HB6.out)
      have HFT := Lib.hid (show ∀ k, w1.heap.size ≤ k → ¬ foot w6 g k from fun k hk e => by
        have := foot_lt HW.out _ ((PenW.foot_iff HW.out HB6.out k).1 e)
        omega)
      have hgr3 : w1.heap.size ≤ xr.block := by rw [HXB.out]; exact hgr1
      have CPH := Lib.hid (cPutHead w6 g B bits HP6.out.1 (by omega) (some ⟨go, 0, none⟩) co (ofR r) (ofR_len r) HO6.out (fun i => ⟨(HR.out.of_bd i).1, (HR.out.of_bd i).2.1⟩) (fun x hx => by injection hx with hx; subst hx; exact HFT.out go hgo3))
      clear hb6 ho6 HO5 HR5 HB5 CCO hgc1 hgo2 hgc2
      go_wp2_with fail
      refine CPH.out.mono ?_; rintro e w7 ⟨rfl, hp7⟩
      have HP7 := Lib.hid (show PenW w6 w7 g B (bits ++ headB (ofR r) ++ (r.take 0).flatMap (runB (ofR r))) by simpa using hp7)
      obtain ⟨xo, hxo⟩ : ∃ xo : Addr, (⟨go, 0, none⟩ : Addr) = xo := ⟨_, rfl⟩
      obtain ⟨xc, hxc⟩ : ∃ xc : Addr, (⟨gc, 0, none⟩ : Addr) = xc := ⟨_, rfl⟩
      have hxob : w1.heap.size ≤ xo.block := by rw [← hxo]; exact hgo3
      have hxcb : w1.heap.size ≤ xc.block := by rw [← hxc]; exact hgc3
      rw [hxo] at HO6 ⊢
      rw [hxc] at HC6 ⊢
      clear hp7 CPH hxo hxc
      go_wp2_with fail
      go_loopw [60] (fun iv wr => ∃ k : Nat, iv = .int .i64 k ∧ k ≤ r.length ∧ Hid (PenW w6 wr g B (bits ++ headB (ofR r) ++ (r.take k).flatMap (runB (ofR r))))) (fun iv _ => r.length - (intOf iv).toNat)
      case atStart => exact ⟨0, rfl, Nat.zero_le _, HP7⟩
      case round =>
        clear HP7
        obtain ⟨k, rfl, hk, hp⟩ := hrel
        by_cases hlt : k < r.length
        · obtain ⟨x', he, hxl, cx⟩ := (hp.out.runs HR6.out (fun x hx => by injection hx with hx; subst hx; exact HFT.out _ hgr3)).at k hlt
          injection he with he
          subst he
          obtain ⟨c0, c1⟩ := cx k hlt
          have hmem : r.getD k (0, 0) ∈ r := by rw [List.getD_eq_getElem?_getD, List.getElem?_eq_getElem hlt]; exact List.getElem_mem hlt
          obtain ⟨s, hs, hs19, hn1, hn7, m, hm, hmE, -⟩ := HR.out.sym hmem
          have hnx := runs_next (ofR r) r k hlt
          have hlen := runs_len HR.out k hk
          rw [hs] at c0 hmE
          rw [hm] at c1
          have hrb : runB (ofR r) (r.getD k (0, 0)) = msb (code (ofR r) s) (len (ofR r) s) ++ bitsOf m (extra (s : Int)) := by
            unfold runB bitsS
            rw [hs, hm, Int.toNat_natCast, Int.toNat_natCast]
          obtain ⟨xo', he, hxol, cxo⟩ := HO6.out.at s (by rw [ofR_len]; exact hs19)
          injection he with he
          subst he
          obtain ⟨xc', he, hxcl, cxc⟩ := HC6.out.at s (by rw [HCL.out]; exact hs19)
          injection he with he
          subst he
          have cn := (hp.out.cell (p := xo.add s) (by rw [add_block]; exact hxol) (by rw [add_block]; exact HFT.out _ hxob)).trans (cxo s (by rw [ofR_len]; exact hs19))
          have cc1 := (hp.out.cell (p := xc.add s) (by rw [add_block]; exact hxcl) (by rw [add_block]; exact HFT.out _ hxcb)).trans (cxc s (by rw [HCL.out]; exact hs19))
          rw [lenI HR.out.chk16.1 (by rw [ofR_len]; exact hs19)] at cn
          rw [codes_at HR.out.chk16.1 (by rw [ofR_len]; exact hs19)] at cc1
          have hcl := ok_c HR.out.chk16.1 (s := s) (by rw [ofR_len]; exact hs19)
          obtain ⟨n, hn⟩ : ∃ n, len (ofR r) s = n := ⟨_, rfl⟩
          obtain ⟨C, hC⟩ : ∃ C, code (ofR r) s = C := ⟨_, rfl⟩
          rw [hn] at cn hn1 hn7 hcl hrb
          rw [hC] at cc1 hcl hrb
          obtain ⟨X, hX⟩ : ∃ X, turn C n = X := ⟨_, rfl⟩
          have hXn : X < 2 ^ n := by rw [← hX]; exact turn_lt C n
          have hn128 : 2 ^ n ≤ 128 := Nat.le_trans (Nat.pow_le_pow_right (by decide) hn7) (by decide)
          have hmsb : msb C n = bitsOf X n := by rw [← hX]; exact (code_bits C n).symm
          rw [hmsb] at hrb
          rw [hrb] at hnx
          have CT := Lib.hid (fun W => show Calls Try.prog 28 #[.int .i64 (C : Int), .int .i64 (n : Int)] W fun e w' => e = .returned (.int .i64 (X : Nat)) ∧ w' = W by
            have := bTurned (C : Int) n (by omega) W
            rw [show ((C : Int) % 4294967296).toNat = C by omega, hX] at this
            exact this)
          obtain ⟨EX, hEX⟩ : ∃ EX, extra (s : Int) = EX := ⟨_, rfl⟩
          have hE7 : EX ≤ 7 := by rw [← hEX]; exact extra7 _
          have CE := Lib.hid (fun W => rExtra (s : Int) (EX : Int) (by rw [hEX]) W)
          rw [hEX] at hmE hnx
          have hm128 : m < 128 := Nat.lt_of_lt_of_le hmE (Nat.le_trans (Nat.pow_le_pow_right (by decide) hE7) (by decide))
          have HNX := Lib.hid hnx
          have hAL : Below wr.heap.size wr (wr.alloc (.cells #[.int .i64 (s : Int), .int .i64 (m : Int)] 54)) := (Below.refl _ _).alloc (Nat.le_refl _) _
          have HPB := Lib.hid (hp.out.below hAL)
          have HBX := Lib.hid (heap_alloc_new wr (.cells #[.int .i64 (s : Int), .int .i64 (m : Int)] 54))
          have hfb := PenW.foot_iff hp.out.1 hAL
          have HFX := Lib.hid (show ¬ foot (wr.alloc (.cells #[.int .i64 (s : Int), .int .i64 (m : Int)] 54)) g wr.heap.size from fun e => by
            have := foot_lt hp.out.1 _ ((hfb _).1 e)
            omega)
          have cnb := (hAL.cell (cell_block cn)).trans cn
          have ccb := (hAL.cell (cell_block cc1)).trans cc1
          have hki : (k : Int) < (r.length : Int) := by omega
          have hsi : (s : Int) < 19 := by omega
          have hk0 : (0 : Int) ≤ (k : Int) := by omega
          have hs0 : (0 : Int) ≤ (s : Int) := by omega
          have hu1 : IntKind.u64.wrap (X : Int) = (X : Int) := IntWalk.u64_in _ (by omega)
          have hu2 : IntKind.u64.wrap (m : Int) = (m : Int) := IntWalk.u64_in _ (by omega)
          obtain ⟨gx, hgx⟩ : ∃ gx, wr.heap.size = gx := ⟨_, rfl⟩
          obtain ⟨wb, hwb⟩ : ∃ wb, wr.alloc (.cells #[.int .i64 (s : Int), .int .i64 (m : Int)] 54) = wb := ⟨_, rfl⟩
          have hgxb : gx < wb.heap.size := by rw [← hwb, ← hgx]; simp
          have HGX := Lib.hid hgx
          rw [hwb] at HPB HBX HFX cnb ccb
          rw [hgx] at HBX HFX
          have HLN := Lib.hid hlen
          have HAO := Lib.hid (show ¬ foot wb g xo.block from fun e => (HPB.out.2.2 _ e).elim (HFT.out _ hxob) (fun h => by omega))
          have HAC := Lib.hid (show ¬ foot wb g xc.block from fun e => (HPB.out.2.2 _ e).elim (HFT.out _ hxcb) (fun h => by omega))
          have b0 := cell_lit HBX.out 0 (.int .i64 (s : Int)) rfl
          have b1 := cell_lit HBX.out 1 (.int .i64 (m : Int)) rfl
          have HS0 := Lib.hid (show wb.drew.cell? ⟨gx, 0, none⟩ = some (.int .i64 (s : Int)) ∧ wb.drew.cell? (xc.add s) = some (.int .i64 (C : Int)) ∧ wb.drew.cell? (xo.add s) = some (.int .i64 (n : Int)) from ⟨b0, ccb, cnb⟩)
          have HS0' := Lib.hid (show wb.cell? ⟨gx, 0, none⟩ = some (.int .i64 (s : Int)) ∧ wb.cell? (xc.add s) = some (.int .i64 (C : Int)) ∧ wb.cell? (xo.add s) = some (.int .i64 (n : Int)) from ⟨b0, ccb, cnb⟩)
          have hxcw : xc.block < wb.heap.size := by have := HPB.out.2.1.size; omega
          have hxow : xo.block < wb.heap.size := by have := HPB.out.2.1.size; omega
          have HHL := Lib.hid (show (headB (ofR r)).length ≤ 61 by unfold headB; rw [headTo_len]; have := headN_le (ofR r) 19; omega)
          have CPT := Lib.hid (pPutD wb g B (bits ++ headB (ofR r) ++ (r.take k).flatMap (runB (ofR r))) X n HPB.out.1 (by omega) hXn (by rw [List.length_append, List.length_append]; have := HLN.out; have := HHL.out; omega))
          clear cx hmem hs hm hnx hlen hrb cxo cxc hcl hn hC hX hmsb hEX hAL hfb cn cc1 hxl
          go_wp2_with fail
          try rw [hgx]
          try rw [hwb]
          clear hgx hwb
          go_region_held3 (fun V => V.cell? ⟨gx, 0, none⟩ = some (.int .i64 (s : Int)) ∧ V.cell? (xc.add s) = some (.int .i64 (C : Int)) ∧ V.cell? (xo.add s) = some (.int .i64 (n : Int))) (first | exact HS0.out | exact HS0'.out | exact HS1.out | fail) (first | (go_at_call 28; (with_reducible refine (CT.out _).mono ?_; rintro e wx ⟨rfl, rfl⟩)) | (go_at_call 7; (with_reducible refine CPT.out.mono ?_; rintro e w8 ⟨rfl, hp8⟩; have HP8 := Lib.hid hp8; have HS1 := Lib.hid (show w8.cell? ⟨gx, 0, none⟩ = some (.int .i64 (s : Int)) ∧ w8.cell? (xc.add s) = some (.int .i64 (C : Int)) ∧ w8.cell? (xo.add s) = some (.int .i64 (n : Int)) from ⟨(hp8.cell hgxb HFX.out).trans HS0'.out.1, (hp8.cell (by rw [add_block]; exact hxcw) (by rw [add_block]; exact HAC.out)).trans HS0'.out.2.1, (hp8.cell (by rw [add_block]; exact hxow) (by rw [add_block]; exact HAO.out)).trans HS0'.out.2.2⟩); clear hp8)) | fail)
          have hs81 : w8.cell? ⟨gx, 1, none⟩ = some (.int .i64 (m : Int)) := (HP8.out.cell hgxb HFX.out).trans b1
          have hs80 : w8.cell? ⟨gx, 0, none⟩ = some (.int .i64 (s : Int)) := (HP8.out.cell hgxb HFX.out).trans b0
          have hg8 : gx < w8.heap.size := Nat.lt_of_lt_of_le hgxb HP8.out.2.1.size
          have HF8 := Lib.hid (show ¬ foot w8 g gx from fun e => (HP8.out.2.2 _ e).elim HFX.out (fun h => by omega))
          have HT0 := Lib.hid (show w8.cell? ⟨gx, 1, none⟩ = some (.int .i64 (m : Int)) ∧ w8.cell? ⟨gx, 0, none⟩ = some (.int .i64 (s : Int)) from ⟨hs81, hs80⟩)
          have HT0' := Lib.hid (show w8.drew.cell? ⟨gx, 1, none⟩ = some (.int .i64 (m : Int)) ∧ w8.drew.cell? ⟨gx, 0, none⟩ = some (.int .i64 (s : Int)) from ⟨hs81, hs80⟩)
          have CPM := Lib.hid (pPutD w8 g B (bits ++ headB (ofR r) ++ (r.take k).flatMap (runB (ofR r)) ++ bitsOf X n) m EX HP8.out.1 (by omega) hmE (by rw [List.length_append, List.length_append, List.length_append, bitsOf_length]; have := HLN.out; have := HHL.out; omega))
          have hHP := Lib.hid (HPB.out.chain HP8.out)
          simp only [Exit.then]
          rename_i hK hHeld
          refine hK _ _ ?_
          clear hK hHeld CT CPT
          go_region_held3 (fun V => V.cell? ⟨gx, 1, none⟩ = some (.int .i64 (m : Int)) ∧ V.cell? ⟨gx, 0, none⟩ = some (.int .i64 (s : Int))) (first | exact HT0.out | exact HT0'.out | exact HT1.out | fail) (first | (go_at_call 29; (with_reducible refine (CE.out _).mono ?_; rintro e wx ⟨rfl, rfl⟩)) | (go_at_call 7; (with_reducible refine CPM.out.mono ?_; rintro e w9 ⟨rfl, hp9⟩; have HP9 := Lib.hid hp9; have HT1 := Lib.hid (show w9.cell? ⟨gx, 1, none⟩ = some (.int .i64 (m : Int)) ∧ w9.cell? ⟨gx, 0, none⟩ = some (.int .i64 (s : Int)) from ⟨(hp9.cell hg8 HF8.out).trans HT0.out.1, (hp9.cell hg8 HF8.out).trans HT0.out.2⟩); clear hp9)) | fail)
          have HPF := Lib.hid (show PenW w6 w9 g B (bits ++ headB (ofR r) ++ (r.take (k + 1)).flatMap (runB (ofR r))) by
            rw [HNX.out]
            have := hHP.out.chain HP9.out
            simp only [List.append_assoc] at this ⊢
            exact this)
          clear CE CPM HP8 HP9 hHP HPB HS0 HS0' HT0 HT0' HNX HFX HF8 hg8 hs81 hs80 b0 b1 cnb ccb HBX HAO HAC HLN HHL HGX hgxb hXn hmE hm128 hn128 hE7 hu1 hu2
          try simp only [Exit.inBlock, Exit.then]
          rename_i hK Kx hHeld
          refine hK _ _ ?_
          clear hK hHeld HS1 HT1 Kx
          go_wp2_with fail
          go_roundw
          case rel => exact ⟨k + 1, by go_num, by omega, HPF⟩
          case measure => simp [intOf]; omega
        · obtain rfl : k = r.length := by omega
          have hki : ¬ (r.length : Int) < (r.length : Int) := by omega
          have hp' := hp.out
          rw [List.take_length] at hp'
          have HPE := Lib.hid (HP6.out.chain hp')
          clear hp hp'
          go_wp2_with fail
          go_ret
          exact ⟨rfl, by unfold writeB; rw [← List.append_assoc]; exact HPE.out⟩
end Go.Proofs.Ytopiiickeojpmaa
