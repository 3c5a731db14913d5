/- Layer 61: a text as bytes. -/
import Derived.Test.YtkdkedgpchcfpaaV7
namespace Go.Proofs.Ytkdkedgpchcfpaa
open Go.ChangeShapes Go.WideShapes Go.ChangeAt Go.RowKit
set_option linter.unusedVariables false
set_option linter.unusedSimpArgs false
set_option maxRecDepth 100000
open Range
theorem mk_cap (ST E : TypeId) (z : Value) (bytes : Nat) (hST : Try.prog.underlying ST = some (.slice E)) (hE : (Try.prog.info? E).map (fun i => (i.zero, i.size, i.bytes)) = some (some z, 1, bytes)) (hby : bytes ≤ 8) (L : Nat) (hL : L ≤ 1000000) :
    ∃ ROW : Array Value, ROW.size = 8 * L ∧ ∀ w : World, (Instr.makeSlice ST (.int .i64 0) (.int .i64 (8 * (L : Int)))).run Try.prog w = .ok (.slice (some ⟨w.heap.size, 0, none⟩) 0 (8 * L)) (w.alloc (.cells ROW E)) := by
  obtain ⟨i, hi, hz, hs, hb⟩ := info_get hE
  refine ⟨madeCells z.cells (8 * L), size_madeCells _ _, fun w => ?_⟩
  have := run_make (w := w) (P := Try.prog) ST E i z hST hi hz .i64 .i64 0 (8 * (L : Int)) (by decide) (by omega) (by
    rw [hb]
    have : (bytes : Int) * (8 * (L : Int)) ≤ 8 * (8 * (L : Int)) := Int.mul_le_mul_of_nonneg_right (by omega) (by omega)
    omega) (by omega)
  rw [hs, show (8 * (L : Int)).toNat = 8 * L by omega, Nat.mul_one] at this
  exact this
theorem own_cap {w : World} {g cap B : Nat} {E : TypeId} {ROW : Array Value} (h : w.heap[g]? = some (.cells ROW E (0, 0))) (hB : B ≤ g) (hs : ROW.size = cap) (hc : cap ≤ 1000000000) : w.ownsRow B E 1 (.slice (some ⟨g, 0, none⟩) 0 cap) 0 [] := by
  refine ⟨rfl, .inr ⟨g, cap, ROW, rfl, hB, h, Nat.zero_le _, by unfold maxLen; omega, by omega, by simp⟩⟩
theorem al3 (w : World) (a b c d : Obj) : ((((w.alloc a).alloc b).alloc c).alloc d).drew.heap[w.heap.size + 1 + 1 + 1]? = some d := by
  have := heap_alloc_new (((w.alloc a).alloc b).alloc c) d
  show ((((w.alloc a).alloc b).alloc c).alloc d).heap[w.heap.size + 1 + 1 + 1]? = some d
  simpa using this
theorem al2 (w : World) (a b c d : Obj) : ((((w.alloc a).alloc b).alloc c).alloc d).drew.heap[w.heap.size + 1 + 1]? = some c := by
  have := heap_old (heap_alloc_new ((w.alloc a).alloc b) c) d
  show ((((w.alloc a).alloc b).alloc c).alloc d).heap[w.heap.size + 1 + 1]? = some c
  simpa using this
theorem al1 (w : World) (a b c d : Obj) : ((((w.alloc a).alloc b).alloc c).alloc d).drew.heap[w.heap.size + 1]? = some b := by
  have := heap_old (heap_old (heap_alloc_new (w.alloc a) b) c) d
  show ((((w.alloc a).alloc b).alloc c).alloc d).heap[w.heap.size + 1]? = some b
  simpa using this
theorem al0 (w : World) (a b c d : Obj) : ((((w.alloc a).alloc b).alloc c).alloc d).drew.heap[w.heap.size]? = some a := by
  have := heap_old (heap_old (heap_old (heap_alloc_new w a) b) c) d
  show ((((w.alloc a).alloc b).alloc c).alloc d).heap[w.heap.size]? = some a
  simpa using this
theorem below4 (w : World) (a b c d : Obj) : Below w.heap.size w ((((w.alloc a).alloc b).alloc c).alloc d).drew := (((((Below.refl _ _).alloc (Nat.le_refl _) a).alloc (by simp) b).alloc (by simp; omega) c).alloc (by simp; omega) d).drew
structure MMid (w : World) (B gm gc gb gp : Nat) (vb vp : Value) (p : ES × Nat) : Prop where
  mod : w.heap[gm]? = some (.cells (mV gc p.2) 146 (0, 0))
  ch : IsCh w gc p.1.ch
  bb : w.heap[gb]? = some (.cells #[vb] 22 (0, 0))
  bp : w.heap[gp]? = some (.cells #[vp] 23 (0, 0))
  rb : OwnB B w vb p.1.bl
  rp : OwnI B w vp p.1.pl
  Bm : B ≤ gm
  Bc : B ≤ gc
  Bb : B ≤ gb
  Bp : B ≤ gp
  mc : gm ≠ gc
theorem MMid.start {w : World} {B gm gc gb gp : Nat} {vb vp : Value} {p : ES × Nat} (h : MMid w B gm gc gb gp vb vp p) (hB : B ≤ w.heap.size) (x : Nat) : MEnc (w.alloc (.cells #[.int .u8 x] 5)) B gm gc w.heap.size gb gp p.2 x vb vp ⟨p.1.bl, p.1.pl, p.1.ch, 1⟩ ∧ Below B w (w.alloc (.cells #[.int .u8 x] 5)) := by
  have hb : Below w.heap.size w (w.alloc (.cells #[.int .u8 x] 5)) := (Below.refl _ _).alloc (Nat.le_refl _) _
  exact ⟨⟨heap_old h.mod _, h.ch.block (hb.block _ h.ch.lt), ⟨heap_alloc_new _ _, heap_old h.bb _, heap_old h.bp _, h.rb.alloc _, h.rp.alloc _, hB, h.Bb, h.Bp⟩, h.Bm, h.Bc, h.mc⟩, hb.mono hB⟩
theorem MEnc.mid {w : World} {B gm gc gx gb gp last x : Nat} {vb vp : Value} {s : ES} (h : MEnc w B gm gc gx gb gp last x vb vp s) : MMid w B gm gc gb gp vb vp (s, last) :=
  ⟨h.mod, h.ch, h.em.bb, h.em.bp, h.em.rb, h.em.rp, h.Bm, h.Bc, h.em.Bb, h.em.Bp, h.mc⟩
theorem bys_take (s : ByteArray) (k : Nat) (h : k < s.size) : (bys s.data.toList).take (k + 1) = (bys s.data.toList).take k ++ [(s[k]'h).toNat] := by
  have hl : k < (bys s.data.toList).length := by rw [bys_len]; simpa using h
  rw [List.take_succ_eq_append_getElem hl]
  congr 2
  simp [bys]
  rfl
set_option maxHeartbeats 6400000 in
theorem mEncode (N : Nat) (hN : N = 65536) (s : ByteArray) (hs : s.size ≤ 10000) (w : World) :
    Calls Try.prog 36 #[.string s] w fun e w' => e = .returned (.tuple #[.string (sB (encM N s.data.toList)), .int .i64 0]) ∧ Below w.heap.size w w' := by
  have HENC := Lib.hid (show encM N s.data.toList = told (pr (mEs (e0M N) (bys s.data.toList)).1) from rfl)
  obtain ⟨SS, hSS⟩ : ∃ SS, encM N s.data.toList = SS := ⟨_, rfl⟩
  rw [hSS] at HENC ⊢
  clear hSS
  obtain ⟨R1, hR1, hmk1⟩ := mk_cap 22 4 (.bool false) 1 Try.underlying22 info_bool (by decide) s.size (by omega)
  obtain ⟨R2, hR2, hmk2⟩ := mk_cap 23 3 (.int .i64 0) 8 Try.underlying23 info_int (by decide) s.size (by omega)
  have C2 := Lib.hid (fun W => mNew N hN W)
  have hmf : ∀ (fn : Fn) (first cap : Array Value) (w : World), (Instr.makeFunc fn first cap).run Try.prog w = .ok (.func fn first cap) w := fun _ _ _ _ => rfl
  have HR1 := Lib.hid hR1; have HR2 := Lib.hid hR2
  clear hR1 hR2
  go_enter Try.func36, Try.ntmps36
  go_wp2_with fail
  go_cut [4, 5] from 12 to 19 (fun s4 s5 wc => ∃ gb gp vb vp, s4 = .pointer (some ⟨gb, 0, none⟩) ∧ s5 = .pointer (some ⟨gp, 0, none⟩) ∧ wc.heap[gb]? = some (.cells #[vb] 22 (0, 0)) ∧ wc.heap[gp]? = some (.cells #[vp] 23 (0, 0)) ∧ OwnB w.heap.size wc vb [] ∧ OwnI w.heap.size wc vp [] ∧ w.heap.size ≤ gb ∧ w.heap.size ≤ gp ∧ Below w.heap.size w wc)
  case first =>
    have hwr : IntKind.i64.wrap (8 * (s.size : Int)) = 8 * (s.size : Int) := by rw [IntKind.wrap_i64]; omega
    go_region_with fail
    all_goals
      go_wp2_with fail
      go_meet
      case rel =>
        refine ⟨_, _, ?_, ?_, rfl, rfl, ?_, ?_, ?_, ?_, ?_, ?_, ?_⟩
        rotate_left 2
        · first | exact al0 _ _ _ _ _ | exact al1 _ _ _ _ _ | exact al2 _ _ _ _ _ | exact al3 _ _ _ _ _
        · first | exact al0 _ _ _ _ _ | exact al1 _ _ _ _ _ | exact al2 _ _ _ _ _ | exact al3 _ _ _ _ _
        · first | exact own_cap (al0 _ _ _ _ _) (by omega) HR1.out (by omega) | exact own_cap (al1 _ _ _ _ _) (by omega) HR1.out (by omega) | exact own_cap (al2 _ _ _ _ _) (by omega) HR1.out (by omega) | exact own_cap (al3 _ _ _ _ _) (by omega) HR1.out (by omega)
        · first | exact own_cap (al0 _ _ _ _ _) (by omega) HR2.out (by omega) | exact own_cap (al1 _ _ _ _ _) (by omega) HR2.out (by omega) | exact own_cap (al2 _ _ _ _ _) (by omega) HR2.out (by omega) | exact own_cap (al3 _ _ _ _ _) (by omega) HR2.out (by omega)
        · omega
        · omega
        · exact below4 _ _ _ _ _
  case rest =>
    obtain ⟨gb, gp, vb, vp, rfl, rfl, hgb, hgp, hrb, hrp, hb1, hb2, hbe⟩ := hcut
    have HCUT := Lib.hid (show wc.heap[gb]? = some (.cells #[vb] 22 (0, 0)) ∧ wc.heap[gp]? = some (.cells #[vp] 23 (0, 0)) ∧ OwnB w.heap.size wc vb [] ∧ OwnI w.heap.size wc vp [] ∧ w.heap.size ≤ gb ∧ w.heap.size ≤ gp ∧ Below w.heap.size w wc from ⟨hgb, hgp, hrb, hrp, hb1, hb2, hbe⟩)
    clear hgb hgp hrb hrp hb1 hb2 hbe hmk1 hmk2 HR1 HR2
    go_wp2_with fail
    refine (C2.out _).mono ?_; rintro e w2 ⟨gm, gc, rfl, hmod, hch, hmc, hgm, hgc, hbn⟩
    obtain ⟨hgb, hgp, hrb, hrp, hb1, hb2, hbe⟩ := HCUT.out
    have hsz := hbe.size
    have hmid : MMid w2 w.heap.size gm gc gb gp vb vp (mEs (e0M N) []) := ⟨hmod, hch, (hbn.block _ (block_lt hgb)).trans hgb, (hbn.block _ (block_lt hgp)).trans hgp, OwnS.kept hrb hbn, OwnS.kept hrp hbn, by omega, by omega, hb1, hb2, hmc⟩
    have HMID := Lib.hid hmid
    have HBW := Lib.hid (hbe.trans (hbn.mono hsz))
    have HML := Lib.hid (fun k => midM_s hN ((bys s.data.toList).take k) (mid0M N) (fun x h => bys_lt _ x (List.mem_of_mem_take h)))
    have HLEN := Lib.hid (bys_len s.data.toList)
    have HSN := Lib.hid (fun xs x => mEs_snoc (e0M N) xs x)
    have HE00 := Lib.hid (show (e0M N).1.bl.length = 0 from rfl)
    obtain ⟨E0, hE0⟩ : ∃ E0, e0M N = E0 := ⟨_, rfl⟩
    rw [hE0] at HMID HML HSN HENC HE00
    clear hgb hgp hrb hrp hbe hmid hmod hch hbn hE0 C2 HCUT hgm hgc hb1 hb2 hsz
    go_wp2_with fail
    go_loopw [23] (fun i wr => ∃ k : Nat, k ≤ s.size ∧ i = .int .i64 k ∧ ∃ vb vp, MMid wr w.heap.size gm gc gb gp vb vp (mEs E0 ((bys s.data.toList).take k)) ∧ Below w.heap.size w wr) (fun i _ => s.size - (intOf i).toNat)
    case atStart => exact ⟨0, Nat.zero_le _, rfl, _, _, HMID.out, HBW.out⟩
    case round =>
      obtain ⟨k, hk, rfl, vb, vp, hmid, hb⟩ := hrel
      by_cases hlt : k < s.size
      · have HNX := Lib.hid (bys_take s k hlt)
        have hx256 : (s[k]'hlt).toNat < 256 := UInt8.toNat_lt _
        obtain ⟨hmm, -, hlen⟩ := HML.out k
        have HSX := Lib.hid (HSN.out ((bys s.data.toList).take k) (s[k]'hlt).toNat)
        rw [← HNX.out] at HSX
        rw [HE00.out] at hlen
        have hlen2 : (mEs E0 ((bys s.data.toList).take k)).1.bl.length ≤ 90000 := by
          have e1 : ((bys s.data.toList).take k).length ≤ 10000 := by rw [List.length_take]; omega
          omega
        obtain ⟨P, hP⟩ : ∃ P, mEs E0 ((bys s.data.toList).take k) = P := ⟨_, rfl⟩
        rw [hP] at hmid HSX hmm hlen2
        have hBw : w.heap.size ≤ wr.heap.size := hb.size
        obtain ⟨hst1, hst2⟩ := hmid.start hBw (s[k]'hlt).toNat
        have HNUM := Lib.hid (mNextE _ N hN w.heap.size gm gc wr.heap.size gb gp P.2 (s[k]'hlt).toNat vb vp ⟨P.1.bl, P.1.pl, P.1.ch, 1⟩ hmm.2 hx256 (Nat.le_trans hBw hst2.size) (by show P.1.bl.length ≤ 500000; omega) hst1 hmm.1.fine rfl)
        have HBX := Lib.hid (hb.trans hst2)
        have HSX2 := Lib.hid (show mE P (s[k]'hlt).toNat = (stepsE (256 * P.2) (s[k]'hlt).toNat 8 ⟨P.1.bl, P.1.pl, P.1.ch, 1⟩ 8, (s[k]'hlt).toNat) from rfl)
        clear hP hst1 hst2 hmid hb hmm hlen hlen2
        go_wp2_with fail
        (with_reducible refine (HNUM.out).mono ?_); rintro e w6 ⟨y, vb', vp', rfl, hte, hb6⟩
        have HTM2 := Lib.hid hte.mid
        have HB6 := Lib.hid (HBX.out.trans hb6)
        clear hte hb6
        go_wp2_with fail
        go_roundw
        case rel => exact ⟨k + 1, by omega, by go_num, vb', vp', by rw [HSX.out, HSX2.out]; exact HTM2.out, HB6.out⟩
        case measure => simp [intOf]; omega
      · obtain rfl : k = s.size := by omega
        obtain ⟨hmm, -, hlen⟩ := HML.out s.size
        have ht : (bys s.data.toList).take s.size = bys s.data.toList := List.take_of_length_le (by rw [HLEN.out]; simp)
        rw [ht] at hmid hmm hlen
        rw [HE00.out, HLEN.out] at hlen
        have hds : s.data.toList.length = s.size := by simp
        obtain ⟨P, hP⟩ : ∃ P, mEs E0 (bys s.data.toList) = P := ⟨_, rfl⟩
        rw [hP] at hmid hmm hlen HENC
        have hm1 := hmm.1.2.2.1
        have hpl : P.1.pl.length ≤ 100000 := by omega
        have GB := Lib.hid (OwnB.isB hmid.rb)
        have GP := Lib.hid (hmid.rp.isL (by omega))
        have cb := cell_lit hmid.bb 0 _ rfl
        have cp := cell_lit hmid.bp 0 _ rfl
        have HES2 := Lib.hid (show encS P.1.bl P.1.pl = (SS, 0) by
          unfold encS
          rw [if_neg (by omega), hmm.1.2.2.2, if_neg (by decide), HENC.out]; rfl)
        have hsz := hb.size
        have HBB := Lib.hid hb
        clear hb hmid hlen hmm ht hP HENC
        go_wp2_with fail
        refine (gEncodeT GB.out GP.out hpl SS 0 HES2.out).mono ?_; rintro e w7 ⟨rfl, hb7⟩
        have HB7 := Lib.hid (HBB.out.trans (hb7.mono hsz))
        clear hb7
        go_wp2_with fail
        go_ret2
        exact ⟨rfl, HB7.out⟩
end Go.Proofs.Ytkdkedgpchcfpaa
