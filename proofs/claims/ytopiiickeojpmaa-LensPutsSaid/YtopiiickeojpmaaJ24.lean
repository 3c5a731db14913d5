import Derived.Test.YtopiiickeojpmaaJ23
/- Layer 13: the law's codes. -/
namespace Go.Proofs.Ytopiiickeojpmaa
open Go.ChangeShapes Go.WideShapes Go.ChangeAt Go.RowKit
set_option linter.unusedVariables false
set_option linter.unusedSimpArgs false
set_option maxRecDepth 100000
open Bits hiding packF pack_length
open RunsMath KraftMath CanonMath TurnMath Pm
set_option maxHeartbeats 6400000 in
theorem lCodes (w0 : World) (a : Option Addr) (c : Nat) (r : List Run) (h : IsRuns w0 a r) (hR : RunsOk r) :
    Calls Try.prog 12 #[.slice a r.length c] w0 fun e w' => ∃ u, e = .returned u ∧ OwnI w0.heap.size w' u (ofR r) ∧ Below w0.heap.size w0 w' := by
  have HR2 := Lib.hid h
  have HR := Lib.hid hR
  have hrl := hR.few
  clear h hR
  go_enter Try.func12, Try.ntmps12
  go_wp2_with (first
    | (refine make_int rfl (.const (.int .i64 19)) (.const (.int .i64 19)) rfl .i64 .i64 _ _ 19 rfl rfl rfl rfl (by omega) ?_; intro w3 ho3 hb3 hz3)
    | fail)
  obtain ⟨gf, hgf⟩ : ∃ gf, w0.heap.size = gf := ⟨_, rfl⟩
  rw [hgf] at ho3 hb3 hz3 ⊢
  have HGF := Lib.hid hgf
  have HO3 := Lib.hid (show OwnI gf w3 (.slice (some ⟨gf, 0, none⟩) 19 19) (cntR (r.take 0)) by rw [List.take_zero, cntR_nil]; exact ho3)
  have HB3 := Lib.hid hb3
  clear ho3 hb3 hz3 hgf
  go_wp2_with fail
  go_loopw [4] (fun iv wr => ∃ k : Nat, iv = .int .i64 k ∧ k ≤ r.length ∧ Hid (OwnI gf wr (.slice (some ⟨gf, 0, none⟩) 19 19) (cntR (r.take k))) ∧ Hid (Below gf w0 wr)) (fun iv _ => r.length - (intOf iv).toNat)
  case atStart => exact ⟨0, rfl, Nat.zero_le _, HO3, HB3⟩
  case round =>
    clear HO3 HB3
    obtain ⟨k, rfl, hk, ho, hb⟩ := hrel
    by_cases hlt : k < r.length
    · obtain ⟨x, hx, hxl, cx⟩ := (HR2.out.kept (by rw [HGF.out]; exact hb.out)).at k hlt
      subst hx
      obtain ⟨c0, c1⟩ := cx k hlt
      have hmem : r.getD k (0, 0) ∈ r := by rw [List.getD_eq_getElem?_getD, List.getElem?_eq_getElem hlt]; exact List.getElem_mem hlt
      obtain ⟨s, hs, hs19, -, -, m, hm, -, -⟩ := HR.out.sym hmem
      have hnx : r.take (k + 1) = r.take k ++ [r.getD k (0, 0)] := by
        rw [List.take_succ_eq_append_getElem hlt, List.getD_eq_getElem?_getD, List.getElem?_eq_getElem hlt]; rfl
      have hcn := cntR_next (r.take k) (r.getD k (0, 0)) s hs hs19
      rw [← hnx] at hcn
      rw [hs] at c0
      have hle := cntR_le (r.take k) s
      rw [List.length_take, Nat.min_eq_left hk] at hle
      have cf := OwnS.int_cell ho.out s (by rw [cntR_len]; exact hs19)
      have ff := ho.out.free s
      have hgw := (OwnS.lt ho.out gf rfl).2
      have hst := OwnS.set_int ho.out s ((cntR (r.take k)).getD s 0 + 1) (by rw [cntR_len]; exact hs19)
      rw [← hcn] at hst
      obtain ⟨V, hV⟩ : ∃ V, (cntR (r.take k)).getD s 0 = V := ⟨_, rfl⟩
      rw [hV] at cf hst hle
      have HST := Lib.hid (show OwnI gf ((wr.setCell ⟨gf, s, none⟩ (.int .i64 (V + 1))).drew) (.slice (some ⟨gf, 0, none⟩) 19 19) (cntR (r.take (k + 1))) from OwnS.drew hst)
      have HBN := Lib.hid (show Below gf w0 ((wr.setCell ⟨gf, s, none⟩ (.int .i64 (V + 1))).drew) from (hb.out.setCell (p := ⟨gf, s, none⟩) (Nat.le_refl _) (.int .i64 (V + 1))).drew)
      have hwV : IntKind.i64.wrap (V + 1) = V + 1 := by rw [IntKind.wrap_i64]; omega
      have hki : (k : Int) < (r.length : Int) := by omega
      have hsi : (s : Int) < 19 := by omega
      have hk0 : (0 : Int) ≤ (k : Int) := by omega
      have hs0 : (0 : Int) ≤ (s : Int) := by omega
      clear cx hmem hs hm hnx hcn hst hV ho hb c1
      go_wp2_with fail
      go_region
      go_wp2_with fail
      go_roundw
      case rel => exact ⟨k + 1, by go_num, by omega, HST, HBN⟩
      case measure => simp [intOf]; omega
    · obtain rfl : k = r.length := by omega
      have hki : ¬ (r.length : Int) < (r.length : Int) := by omega
      have ho' := ho.out
      rw [List.take_length] at ho'
      have HIF := Lib.hid (own_ints ho' (by rw [cntR_len]; omega))
      have HBX := hb
      clear ho' ho hb
      go_wp2_with fail
      refine (pLenR _ 19 r HR.out wr HIF.out).mono ?_; rintro e w5 ⟨v5, rfl, ho5, hb5⟩
      have HO5 := Lib.hid (OwnS.base (B' := w0.heap.size) ho5 (by rw [HGF.out]; have := HBX.out.size; have := HGF.out; omega))
      have HB5 := Lib.hid (show Below w0.heap.size w0 w5 by rw [HGF.out]; exact HBX.out.trans (hb5.mono (by have := HBX.out.size; have := HGF.out; omega)))
      clear ho5 hb5
      go_wp2_with fail
      go_ret
      exact ⟨_, rfl, HO5.out, HB5.out⟩
end Go.Proofs.Ytopiiickeojpmaa

/- Layer 13: what is put is what the document writes. -/
namespace Go.Proofs.Ytopiiickeojpmaa
open Go.ChangeShapes Go.WideShapes Go.ChangeAt Go.RowKit
set_option linter.unusedVariables false
set_option linter.unusedSimpArgs false
set_option maxRecDepth 100000
open Bits hiding packF pack_length
open RunsMath KraftMath CanonMath TurnMath Pm
theorem bits_none (n : Nat) : bitsOf 0 n = List.replicate n false := by
  induction n with
  | zero => rfl
  | succ n ih => rw [List.replicate_succ, ← ih]; rfl
theorem mkB (n : Nat) (hn : (n : Int) ≤ 1000000) : ∀ w : World, (Instr.makeSlice 35 (.int .i64 (n : Int)) (.int .i64 (n : Int))).run Try.prog w = .ok (.slice (some ⟨w.heap.size, 0, none⟩) n n) (w.alloc (.cells (madeCells (Value.bool false).cells n) 4)) := by
  obtain ⟨i, hi, hz, hs, hb⟩ := info_get info_bool
  intro w
  have := run_make (w := w) (P := Try.prog) 35 4 i (.bool false) Try.underlying35 hi hz .i64 .i64 (n : Int) (n : Int) (by omega) (by omega) (by rw [hb]; omega) (by omega)
  rw [hs, Int.toNat_natCast, Nat.mul_one] at this
  exact this
theorem ownB_made {w : World} {g B n : Nat} (h : w.heap[g]? = some (.cells (madeCells (Value.bool false).cells n) 4 (0, 0))) (hB : B ≤ g) (hn : (n : Int) ≤ 1000000) : OwnB B w (.slice (some ⟨g, 0, none⟩) n n) (List.replicate n false) := by
  have hf : (madeCells (Value.bool false).cells n).toList = (List.replicate n false).flatMap fB := by
    apply List.ext_getElem?
    intro j
    by_cases hj : j < n
    · have h2 := flat_get flatB (List.replicate n false) j 0 false (by simp [hj]) (by decide)
      rw [Nat.mul_one, Nat.add_zero] at h2
      rw [h2]
      simp [madeCells, hj, fB, Value.cells, Nat.mod_one]
    · rw [List.getElem?_eq_none (by rw [Array.length_toList, size_madeCells]; omega), List.getElem?_eq_none (by rw [flat_len flatB]; simp; omega)]
  refine ⟨by rw [List.length_replicate, flat_len flatB, List.length_replicate], .inr ⟨g, n, _, by rw [List.length_replicate], hB, h, by rw [List.length_replicate]; exact Nat.le_refl _, by unfold maxLen; omega, by rw [size_madeCells]; omega, ?_⟩⟩
  rw [List.length_replicate, hf, List.take_of_length_le (by rw [flat_len flatB]; simp)]
theorem below_on {a b c : World} (h : Below a.heap.size a b) (k : Below b.heap.size b c) : Below a.heap.size a c := h.trans (k.mono h.size)
theorem made_one {w5 w7 : World} {n : Nat} (hn : (n : Int) ≤ 1000000) (hb : Below (w5.alloc (.cells (madeCells #[.bool false] n) 4)).drew.heap.size (w5.alloc (.cells (madeCells #[.bool false] n) 4)).drew w7) : OwnB w5.heap.size w7 (.slice (some ⟨w5.heap.size, 0, none⟩) n n) (List.replicate n false) :=
  OwnS.kept (ownB_made (w := (w5.alloc (.cells (madeCells #[.bool false] n) 4)).drew) (heap_alloc_new w5 _) (Nat.le_refl _) hn) hb
theorem made_two {w5 w7 : World} {n : Nat} (hn : (n : Int) ≤ 1000000) (hb : Below w5.drew.heap.size w5.drew w7) : OwnB w5.heap.size (w7.alloc (.cells (madeCells #[.bool false] n) 4)) (.slice (some ⟨w7.heap.size, 0, none⟩) n n) (List.replicate n false) :=
  ownB_made (heap_alloc_new w7 _) hb.size hn
set_option maxHeartbeats 6400000 in
theorem lensputs_ok (a0 : Option Addr) (c0 : Nat) (l : List Int) (U : Nat) (hne : l ≠ []) (hok : okB l = true) (hU : U < 256) (hl : l.length ≤ 1024) (w : World) (hi : IsInts w a0 l) :
    Calls Try.prog 3 #[.slice a0 l.length c0, .int .u8 U] w fun e w' => e = .returned (.bool true) ∧ Below w.heap.size w w' := by
  have hR : RunsOk (packL l) := pack_ok hne hl hok
  have hwl : (writeB (packL l) (ofR (packL l))).length ≤ 61 + 14 * 1024 := by
    unfold writeB
    have h1 := runs_len hR (packL l).length (Nat.le_refl _)
    rw [List.take_length] at h1
    have h2 : (headB (ofR (packL l))).length ≤ 61 := by
      unfold headB; rw [headTo_len]; have := headN_le (ofR (packL l)) 19; omega
    have := hR.few
    rw [List.length_append]; omega
  have CN := Lib.hid (wNew w)
  obtain ⟨n, hn⟩ : ∃ n, U % 8 = n := ⟨_, rfl⟩
  have hn8 : n < 8 := by omega
  have hni : (U : Int) % 8 = (n : Int) := by omega
  have CPW := Lib.hid (fun W g B (h : IsWriter W g B []) => show Calls Try.prog 7 #[.pointer (some ⟨g, 0, none⟩), .int .u64 0, .int .i64 n] W fun e w' => e = .returned (.int .i64 0) ∧ PenW W w' g B (bitsOf 0 n) from
    (wPut W g B [] 0 n h (by omega) (Nat.two_pow_pos n) (by simp; omega)).mono fun e w' h => ⟨h.1, h.2.1, h.2.2.1, h.2.2.2⟩)
  have CP := Lib.hid (fun W g B (h : IsWriter W g B (bitsOf 0 n)) (hi : IsInts W a0 l) => cPutOk W g B _ h (by rw [bitsOf_length]; omega) a0 c0 l hi hne hl hok)
  have CS := Lib.hid (fun W (hi : IsInts W a0 l) => cSizeOk a0 c0 l hne hl hok W hi)
  have CPK := Lib.hid (fun W (hi : IsInts W a0 l) => dPack a0 c0 l W hi (by omega))
  have HV := Lib.hid (fun i (h : i < l.length) => (okB_iff l).1 hok (l.getD i 0) (by rw [List.getD_eq_getElem?_getD, List.getElem?_eq_getElem h]; exact List.getElem_mem h))
  obtain ⟨r, hr⟩ : ∃ r, packL l = r := ⟨_, rfl⟩
  rw [hr] at CP CS CPK hR hwl
  have hrl := hR.few
  have CC := Lib.hid (fun W a c (h : IsRuns W a r) => lCodes W a c r h hR)
  obtain ⟨o, ho⟩ : ∃ o, ofR r = o := ⟨_, rfl⟩
  have hol : o.length = 19 := by rw [← ho, ofR_len]
  rw [ho] at CP CS CC hwl
  have CWR := Lib.hid (fun W a b c d (h1 : IsRuns W a r) (h2 : IsInts W b o) => dWrite13 W a b c d r o h1 h2 hR ho)
  obtain ⟨b, hb⟩ : ∃ b, writeB r o = b := ⟨_, rfl⟩
  rw [hb] at CP CS CWR hwl
  have hbp : 1 ≤ b.length := by rw [← hb]; unfold writeB headB; rw [List.length_append, headTo_len]; omega
  have HI := Lib.hid hi
  have hlen : (l.length : Int) ≤ 1100 := by omega
  have hl0 : l.length ≠ 0 := fun e => hne (List.length_eq_zero_iff.1 e)
  clear hi hn hne hok hr ho hb hR
  go_enter Try.func3, Try.ntmps3
  go_wp2_with fail
  refine CN.out.mono ?_; rintro e w1 ⟨rfl, hw, hbw, hz, hf⟩
  have HW := Lib.hid (show Wr w.heap.size w w1 w.heap.size w.heap.size [] from ⟨hw, hbw, hf⟩)
  have hsz := hbw.size
  clear hw hbw hz hf CN
  go_wp2_with fail
  refine (CPW.out w1 _ _ HW.out.wr).mono ?_; rintro e w2 ⟨rfl, hp2⟩
  have HW2 := Lib.hid (HW.out.pen hp2 hsz)
  have hsz2 : w.heap.size ≤ w2.heap.size := Nat.le_trans hsz hp2.2.1.size
  clear hp2 HW hsz CPW
  go_wp2_with fail
  refine (CP.out w2 _ _ HW2.out.wr (HI.out.kept HW2.out.old)).mono ?_; rintro e w3 ⟨rfl, hp3⟩
  have HW3 := Lib.hid (HW2.out.pen hp3 hsz2)
  have hsz3 : w.heap.size ≤ w3.heap.size := Nat.le_trans hsz2 hp3.2.1.size
  clear hp3 HW2 hsz2 CP
  go_wp2_with fail
  go_loopw [8, 9] (fun bv iv wr => ∃ i : Nat, iv = .int .i64 i ∧ i ≤ l.length ∧ bv = .int .i64 0 ∧ Hid (∃ k, wr = w3.drewN k)) (fun _ iv _ => l.length - (intOf iv).toNat)
  case atStart => exact ⟨0, rfl, Nat.zero_le _, rfl, Lib.hid ⟨0, rfl⟩⟩
  case round =>
    obtain ⟨i, rfl, hi, rfl, hwr⟩ := hrel
    by_cases hlt : i < l.length
    · obtain ⟨k, hk⟩ := hwr.out
      have hbr : Below w3.heap.size w3 wr := by rw [hk]; exact below_dn (Below.refl _ _) k
      obtain ⟨x, hx, -, cx⟩ := (HI.out.kept (HW3.out.old.trans (hbr.mono hsz3))).at i hlt
      subst hx
      have c0 := cx i hlt
      have hvv := HV.out i hlt
      obtain ⟨V, hV⟩ : ∃ V, l.getD i 0 = V := ⟨_, rfl⟩
      rw [hV] at c0 hvv
      have hii : (i : Int) < (l.length : Int) := by omega
      have hi0 : (0 : Int) ≤ (i : Int) := by omega
      have hv0 : ¬ V < 0 := by omega
      have hv1 : ¬ 15 < V := by omega
      clear cx hV hk hbr hvv
      go_wp2_with fail
      go_roundw
      case rel => exact ⟨i + 1, by go_num, by omega, rfl, hwr⟩
      case measure => simp [intOf]; omega
    · obtain rfl : i = l.length := by omega
      have hii : ¬ (l.length : Int) < (l.length : Int) := by omega
      obtain ⟨k, hk⟩ := hwr.out
      have HWr := Lib.hid (show Wr w.heap.size w wr w.heap.size w.heap.size (bitsOf 0 n ++ b) by rw [hk]; exact HW3.out.below (below_dn (Below.refl _ _) k) hsz3)
      have hszr := HWr.out.old.size
      have hl1 : ((l.length : Int) == 0) = false := by rw [beq_eq_false_iff_ne]; omega
      have hl2 : ¬ (1024 : Int) < (l.length : Int) := by omega
      clear hwr hk HW3 hsz3 HV
      go_wp2_with fail
      refine (CPK.out wr (HI.out.kept HWr.out.old)).mono ?_; rintro e w4 ⟨v4, rfl, ho4, hb4⟩
      obtain ⟨ar, cr, rfl, hr4⟩ := OwnS.isR ho4 (by omega)
      have HR4 := Lib.hid hr4
      have HW4 := Lib.hid (HWr.out.below hb4 hszr)
      have hsz4 := HW4.out.old.size
      clear ho4 hb4 hr4 HWr hszr CPK
      go_wp2_with fail
      refine (CC.out w4 ar cr HR4.out).mono ?_; rintro e w5 ⟨u5, rfl, ho5, hb5⟩
      obtain ⟨ab, cb, rfl, hi5⟩ := OwnS.isL ho5 (by omega)
      rw [hol]
      have HI5 := Lib.hid hi5
      have HR5 := Lib.hid (HR4.out.kept hb5)
      have HW5 := Lib.hid (HW4.out.below hb5 hsz4)
      have hsz5 := HW5.out.old.size
      clear ho5 hb5 hi5 HR4 HW4 hsz4 CC
      have mk1 := mkB n (by omega)
      go_wp2_with fail
      have HB0 := Lib.hid (Below.refl w5.heap.size w5)
      have hn6 := Lib.hid (show (n : Int) ≤ 1000000 by omega)
      have HL1 := Lib.hid (show 1 ≤ b.length from hbp)
      have HL2 := Lib.hid (show (List.replicate n false).length + b.length ≤ 1000000 by rw [List.length_replicate]; omega)
      go_region_held3 (fun V => Below w5.heap.size w5 V) (first | exact HB0.out | exact HB0.out.drew | exact (HB0.out.alloc (Nat.le_refl _) _) | exact (HB0.out.drew.alloc (Nat.le_refl _) _) | exact below_on HB0.out hb7 | exact below_on HB0.out.drew hb7 | exact below_on (HB0.out.alloc (Nat.le_refl _) _) hb7 | exact below_on (HB0.out.drew.alloc (Nat.le_refl _) _) hb7 | exact (below_on HB0.out.drew hb7).alloc (by have := hb7.size; simp at this ⊢; omega) _ | exact (below_on (HB0.out.drew.alloc (Nat.le_refl _) _) hb7).trans hb8 | exact (below_on HB0.out.drew hb7).alloc (by have := hb7.size; simp at this ⊢; omega) _ |>.trans hb8 | exact below_on (HB0.out.alloc (Nat.le_refl _) _) hb7 |>.trans hb8 | exact (below_on HB0.out hb7).alloc (by have := hb7.size; simp at this ⊢; omega) _ |>.trans hb8 | fail) (first | ((go_at_call 13; refine (CWR.out _ _ _ _ _ (HR5.out.kept (by assumption)) (HI5.out.kept (by assumption))).mono ?_; rintro e w7 ⟨v7, rfl, ho7, hb7⟩; obtain ⟨va7, c7, rfl, -, hboo7⟩ := ho7.boo)) | ((refine step_rowB rfl (.tmp 82) (.tmp 85) (by rfl) w5.heap.size _ (List.replicate n false) b (by rfl) (by first | exact made_one hn6.out hb7 | exact made_two hn6.out hb7) va7 _ c7 (by rfl) rfl (by first | exact hboo7 | exact hboo7.alloc _) HL1.out HL2.out (by have := hb7.size; simp at this ⊢; omega) ?_; intro v8 w8 ho8 hb8)) | fail)
      all_goals
        have HB8 := Lib.hid (show Below w5.heap.size w5 w8 from by
          first
          | exact (below_on (HB0.out.alloc (Nat.le_refl _) _).drew hb7).trans hb8
          | exact ((below_on HB0.out.drew hb7).alloc (by have := hb7.size; simp at this ⊢; omega) _).trans hb8)
        have HO8 := Lib.hid (show OwnB w5.heap.size w8 v8 (bitsOf 0 n ++ b) by rw [bits_none]; exact ho8)
        have HW8 := Lib.hid (HW5.out.below HB8.out hsz5)
        clear ho8 hb8 hb7 hboo7 ho7 HB8 HB0 HR5 HI5 mk1 HL1 HL2 hn6
        obtain ⟨va8, c8, rfl, -, hboo8⟩ := HO8.out.boo
        have HBO8 := Lib.hid hboo8
        have hsz8 := HW8.out.old.size
        clear hboo8 HO8 HW5
        obtain ⟨T, hT⟩ : ∃ T, bitsOf 0 n ++ b = T := ⟨_, rfl⟩
        have hTl : T.length = n + b.length := by rw [← hT, List.length_append, bitsOf_length]
        rw [hT] at HW8 HBO8 ⊢
        clear hT
        have hTn : IntKind.i64.wrap ((T.length : Int) - (n : Int)) = (b.length : Int) := by rw [IntKind.wrap_i64]; omega
        have CBY := Lib.hid (fun W g B (h : IsWriter W g B T) => wBytes W g B T h)
        have CDB := Lib.hid (fun W (h : IsBoo W va8 T) => dBytes va8 c8 T W h (by omega))
        have CLN := Lib.hid (fun W g B (h : IsWriter W g B T) => wLen W g B T h)
        obtain ⟨S, hS⟩ : ∃ S : ByteArray, ⟨(pack T).toArray⟩ = S := ⟨_, rfl⟩
        rw [hS] at CBY CDB
        obtain ⟨TL, hTL⟩ : ∃ TL, T.length = TL := ⟨_, rfl⟩
        rw [hTL] at CDB CLN hTn ⊢
        clear hS hTL hTl
        go_wp2_with fail
        refine (CBY.out w8 _ _ HW8.out.wr).mono ?_; rintro e w9 ⟨rfl, hb9⟩
        have HW9 := Lib.hid (HW8.out.below hb9 hsz8)
        have HBO9 := Lib.hid (HBO8.out.kept hb9)
        have hsz9 := HW9.out.old.size
        clear hb9 HW8 HBO8 hsz8 CBY
        go_wp2_with fail
        refine (CDB.out w9 HBO9.out).mono ?_; rintro e w10 ⟨rfl, hb10⟩
        have HW10 := Lib.hid (HW9.out.below hb10 hsz9)
        have hsz10 := HW10.out.old.size
        clear hb10 HW9 HBO9 hsz9 CDB
        go_wp2_with fail
        refine (CLN.out w10 _ _ HW10.out.wr).mono ?_; rintro e w11 ⟨rfl, k11, h11⟩
        have HB11 := Lib.hid (show Below w.heap.size w w11 by rw [h11]; exact below_dn HW10.out.old k11)
        have hsz11 := HB11.out.size
        clear h11 HW10 hsz10 CLN
        go_wp2_with fail
        refine (CS.out w11 (HI.out.kept HB11.out)).mono ?_; rintro e w12 ⟨rfl, hb12⟩
        have HB12 := Lib.hid (HB11.out.trans (hb12.mono hsz11))
        have hsz12 := HB12.out.size
        clear hb12 HB11 hsz11 CS
        go_wp2_with fail
        refine (awake13 _).mono ?_; rintro e w13 ⟨rfl, hb13⟩
        have HB13 := Lib.hid (HB12.out.trans (hb13.mono hsz12))
        clear hb13 HB12 hsz12
        go_wp2_with fail
        go_ret
        exact ⟨rfl, HB13.out⟩
end Go.Proofs.Ytopiiickeojpmaa
