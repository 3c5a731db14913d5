/- Layer 61: the document's text as bytes. -/
import Derived.Test.YtkdkedgpchcfpaaV8
import Derived.Test.YtkdkedgpchcfpaaV9
import Derived.Test.YtkdkedgpchcfpaaG23
namespace Go.Proofs.Ytkdkedgpchcfpaa
open Go.ChangeShapes Go.WideShapes Go.ChangeAt Go.RowKit
set_option linter.unusedVariables false
set_option linter.unusedSimpArgs false
set_option maxRecDepth 100000
open Range
theorem and1_8 (x k : Nat) (hx : x < 256) : (bits .and .u8 ((x : Int) / 2 ^ k) 1 == 1) = bitK x k := by
  have e1 : (x : Int) / 2 ^ k = ((x / 2 ^ k : Nat) : Int) := by simp
  have hle : x / 2 ^ k ≤ x := Nat.div_le_self _ _
  have h : bits .and .u8 ((x / 2 ^ k : Nat) : Int) ((1 : Nat) : Int) = ((x / 2 ^ k &&& 1 : Nat) : Int) := by
    have : ∀ y : Fin 256, bits .and .u8 ((y.1 : Nat) : Int) ((1 : Nat) : Int) = ((y.1 &&& 1 : Nat) : Int) := by decide +kernel
    exact this ⟨x / 2 ^ k, by omega⟩
  rw [e1, show (1 : Int) = ((1 : Nat) : Int) from rfl, h, Nat.and_one_is_mod]
  unfold bitK
  rw [Bool.eq_iff_iff, beq_iff_eq, decide_eq_true_iff]
  omega
set_option maxHeartbeats 6400000 in
theorem bEncodeM (N : Nat) (hN : N = 65536) (s : ByteArray) (hs : s.size ≤ 10000) (w : World) :
    Calls Try.prog 37 #[.string s] w fun e w' => e = .returned (.tuple #[.string (sB (encM N s.data.toList)), .int .i64 0]) ∧ Below w.heap.size w w' := by
  have HENC := Lib.hid (show encM N s.data.toList = told (pr (mEs (e0M N) (bys s.data.toList)).1) from rfl)
  obtain ⟨SS, hSS⟩ : ∃ SS, encM N s.data.toList = SS := ⟨_, rfl⟩
  rw [hSS] at HENC ⊢
  clear hSS
  have HML := Lib.hid (fun k => midM_s hN ((bys s.data.toList).take k) (mid0M N) (fun x h => bys_lt _ x (List.mem_of_mem_take h)))
  have HLEN := Lib.hid (bys_len s.data.toList)
  have HSN := Lib.hid (fun xs x => mEs_snoc (e0M N) xs x)
  have HE0 := Lib.hid (show (e0M N).1.bl = [] ∧ (e0M N).1.pl = [] ∧ (e0M N).1.ch = List.replicate N 1024 ∧ (e0M N).2 = 0 from ⟨rfl, rfl, rfl, rfl⟩)
  have C1 := Lib.hid (fun W => dFresh61 N hN W)
  have HN := Lib.hid hN
  have hN0 : 0 < N := by omega
  obtain ⟨E0, hE0⟩ : ∃ E0, e0M N = E0 := ⟨_, rfl⟩
  rw [hE0] at HML HSN HENC HE0
  clear hE0 hN
  go_enter Try.func37, Try.ntmps37
  go_wp2_with fail
  refine (C1.out _).mono ?_; rintro e w1 ⟨v1, rfl, hown1, hb1⟩
  obtain ⟨gc, cap, rfl, hgc, hgc2⟩ := hown1.form (by simp; omega) (by decide)
  rw [List.length_replicate] at hown1 ⊢
  have HO1 := Lib.hid (show OwnI w.heap.size w1 (.slice (some ⟨gc, 0, none⟩) N cap) (mEs E0 []).1.ch by rw [show mEs E0 [] = E0 from rfl, HE0.out.2.2.1]; exact hown1)
  have HB1 := Lib.hid hb1
  obtain ⟨G0, hG0⟩ : ∃ G0, w1.heap.size = G0 := ⟨_, rfl⟩
  rw [hG0] at hgc2
  have hwG : w.heap.size ≤ G0 := by have := hb1.size; omega
  have HG1 := Lib.hid (Nat.le_of_eq hG0.symm)
  have HBL0 := Lib.hid (show (mEs E0 []).1.bl = [] ∧ (mEs E0 []).1.pl = [] ∧ (mEs E0 []).2 = 0 from ⟨HE0.out.1, HE0.out.2.1, HE0.out.2.2.2⟩)
  clear hown1 hb1 C1 hG0 hN0
  go_wp2_with fail
  go_loopw [5, 6, 7, 8] (fun ub up la i wr => ∃ k : Nat, k ≤ s.size ∧ i = .int .i64 k ∧ la = .int .i64 (mEs E0 ((bys s.data.toList).take k)).2 ∧ OwnI w.heap.size wr (.slice (some ⟨gc, 0, none⟩) N cap) (mEs E0 ((bys s.data.toList).take k)).1.ch ∧ OwnB G0 wr ub (mEs E0 ((bys s.data.toList).take k)).1.bl ∧ OwnI G0 wr up (mEs E0 ((bys s.data.toList).take k)).1.pl ∧ Below w.heap.size w wr ∧ G0 ≤ wr.heap.size) (fun _ _ _ i _ => s.size - (intOf i).toNat)
  case atStart => exact ⟨0, Nat.zero_le _, rfl, by rw [List.take_zero, HBL0.out.2.2]; rfl, HO1.out, by rw [List.take_zero, HBL0.out.1]; exact OwnS.nil, by rw [List.take_zero, HBL0.out.2.1]; exact OwnS.nil, HB1.out, HG1.out⟩
  case round =>
    obtain ⟨k, hk, rfl, rfl, hch, hob, hop, hb, hgs⟩ := hrel
    obtain ⟨wo, hwo⟩ : ∃ wo : World, wo = wr := ⟨_, rfl⟩
    subst hwo
    by_cases hlt : k < s.size
    · have HNX := Lib.hid (bys_take s k hlt)
      obtain ⟨hmm, -, hlen⟩ := HML.out k
      have HSX := Lib.hid (HSN.out ((bys s.data.toList).take k) (s[k]'hlt).toNat)
      rw [← HNX.out] at HSX
      rw [HE0.out.1] at hlen
      have hlen2 : (mEs E0 ((bys s.data.toList).take k)).1.bl.length ≤ 90000 := by
        have e1 : ((bys s.data.toList).take k).length ≤ 10000 := by rw [List.length_take]; omega
        simp only [List.length_nil, Nat.zero_add] at hlen
        omega
      have hx256 : (s[k]'hlt).toNat < 256 := UInt8.toNat_lt _
      obtain ⟨P, hP⟩ : ∃ P, mEs E0 ((bys s.data.toList).take k) = P := ⟨_, rfl⟩
      rw [hP] at hch hob hop HSX hmm hlen2 ⊢
      have hLA := hmm.2
      have HSX2 := Lib.hid (show mE P (s[k]'hlt).toNat = (stepsE (P.2 * 256) (s[k]'hlt).toNat 8 ⟨P.1.bl, P.1.pl, P.1.ch, 1⟩ 8, (s[k]'hlt).toNat) by rw [Nat.mul_comm]; rfl)
      obtain ⟨xn, hxn⟩ : ∃ xn, (s[k]'hlt).toNat = xn := ⟨_, rfl⟩
      have HXN := Lib.hid hxn
      rw [hxn] at HSX HSX2 hx256
      obtain ⟨LA, hLAe⟩ : ∃ LA, P.2 = LA := ⟨_, rfl⟩
      rw [hLAe] at HSX2 hLA ⊢
      obtain ⟨S0, hS0⟩ : ∃ S0 : ES, S0 = ⟨P.1.bl, P.1.pl, P.1.ch, 1⟩ := ⟨_, rfl⟩
      have HF := Lib.hid (fineE_steps (o := LA * 256) (n := 8) (show FineE S0 N 0 by rw [hS0]; exact hmm.1.fine) (by have := HN.out; omega) xn)
      rw [← hS0] at HSX2
      have HL := Lib.hid (stepsE_len (LA * 256) xn 8 S0)
      have hl0 : S0.bl.length ≤ 90000 := by rw [hS0]; exact hlen2
      have HR0 := Lib.hid (show S0.r = 1 by rw [hS0])
      have HC := Lib.hid (show OwnI w.heap.size wo (.slice (some ⟨gc, 0, none⟩) N cap) S0.ch by rw [hS0]; exact hch)
      have HOB := Lib.hid (show OwnB G0 wo u5 S0.bl by rw [hS0]; exact hob)
      have HOP := Lib.hid (show OwnI G0 wo u6 S0.pl by rw [hS0]; exact hop)
      have HBo := Lib.hid hb
      have HGo := Lib.hid hgs
      clear hch hob hop hb hmm hlen hlen2 hP hS0 hgs hLAe
      have hdec : decide ((k : Int) < (s.size : Int)) = true := by simp; omega
      go_wp2_with fail
      go_loopw [5, 6, 9, 10] (fun ub up at' i wr => ∃ j : Nat, j ≤ 8 ∧ i = .int .i64 (7 - (j : Int)) ∧ at' = .int .i64 ((stepsE (LA * 256) xn 8 S0 j).r : Nat) ∧ OwnI w.heap.size wr (.slice (some ⟨gc, 0, none⟩) N cap) (stepsE (LA * 256) xn 8 S0 j).ch ∧ OwnB G0 wr ub (stepsE (LA * 256) xn 8 S0 j).bl ∧ OwnI G0 wr up (stepsE (LA * 256) xn 8 S0 j).pl ∧ Below w.heap.size w wr ∧ G0 ≤ wr.heap.size) (fun _ _ _ i _ => (intOf i + 1).toNat)
      case atStart => exact ⟨0, Nat.zero_le _, rfl, by show _ = Value.int .i64 ((S0.r : Nat) : Int); rw [HR0.out]; rfl, HC.out, HOB.out, HOP.out, HBo.out, HGo.out⟩
      case round =>
        obtain ⟨j, hj, rfl, rfl, hch, hob, hop, hb, hgs⟩ := hrel
        clear hdec
        by_cases hlt2 : j < 8
        · obtain ⟨kk, hkk⟩ : ∃ kk : Nat, (7 : Int) - (j : Int) = kk := ⟨7 - j, by omega⟩
          have hBA : bitAt xn 8 j = bitK xn kk := by unfold bitAt bitK; rw [show 8 - 1 - j = kk by omega]
          rw [hkk]
          have hkk9 : kk ≤ 7 := by omega
          have HKK := Lib.hid (show ((kk : Int) - 1) = 7 - ((j + 1 : Nat) : Int) by omega)
          obtain ⟨hrr, Zc, hZc, hz1, hz2⟩ := fineE_at (o := LA * 256) (n := 8) (HF.out j hj) hlt2 (by have := HN.out; omega)
          have hTl := (HF.out j hj).1
          have hlen := HL.out j
          have hlen2 := (HF.out j hj).2.2.2.2.1
          have hR8 : (stepsE (LA * 256) xn 8 S0 j).r < 256 := by
            have h5 := (HF.out j hj).2.2.2.1
            have : 2 ^ (j + 1) ≤ 2 ^ 8 := Nat.pow_le_pow_right (by decide) (by omega)
            omega
          have HST := Lib.hid (show stepsE (LA * 256) xn 8 S0 (j + 1) = stepE (LA * 256) (bitAt xn 8 j) (stepsE (LA * 256) xn 8 S0 j) from rfl)
          obtain ⟨T, hT⟩ : ∃ T, stepsE (LA * 256) xn 8 S0 j = T := ⟨_, rfl⟩
          rw [hT] at hch hob hop hrr hZc hTl hlen hlen2 HST hR8 ⊢
          obtain ⟨BT, hBT⟩ : ∃ BT, bitK xn kk = BT := ⟨_, rfl⟩
          have hBV : (bits .and .u8 ((xn : Int) / 2 ^ kk) 1 == 1) = BT := (and1_8 xn kk hx256).trans hBT
          have HST2 := Lib.hid (HST.out.trans (show stepE (LA * 256) (bitAt xn 8 j) T = ⟨T.bl ++ [BT], T.pl ++ [(Zc : Int)], T.ch.set (LA * 256 + T.r) (updB Zc BT : Nat), 2 * T.r + if BT then 1 else 0⟩ by unfold stepE; rw [hBA, hBT, hZc]; rfl))
          have cr := OwnS.int_cell hch (LA * 256 + T.r) hrr
          rw [hZc] at cr
          have hrN : LA * 256 + T.r < N := by omega
          have CU := Lib.hid (fun W => dUpdate Zc ⟨hz1, hz2⟩ BT W)
          have HLB := Lib.hid (show T.bl.length ≤ 1099511627776 by omega)
          have HLP := Lib.hid (show T.pl.length ≤ 1099511627776 by omega)
          have HC1 := Lib.hid hch; have HB1 := Lib.hid hob; have HP1 := Lib.hid hop; have HBB := Lib.hid hb; have HGG := Lib.hid hgs
          have HRR := Lib.hid hrr
          clear hch hob hop hb hgs hZc hTl hlen hlen2 hT hBA hBT hrr HF HL hkk
          go_wp2_with (at_builtin; first
                | (refine app_bool rfl _ _ rfl _ _ _ _ BT rfl HB1.out _ 1 rfl rfl HLB.out HGG.out ?_; intro v2 w2 ho2 hb2 hg2; have cr2 : w2.cell? ⟨gc, LA * 256 + T.r, none⟩ = some (.int .i64 Zc) := (hb2.cell (p := ⟨gc, LA * 256 + T.r, none⟩) hgc2).trans cr; have hop2 := Lib.hid (OwnS.grown HP1.out hg2 (own_apart HP1.out HB1.out (by decide))); have hob2 := Lib.hid ho2; have hbb2 := Lib.hid hb2; have hG2 := Lib.hid (Nat.le_trans HGG.out hb2.size); clear ho2 hb2 hg2)
                | (refine app_int rfl _ _ rfl _ _ _ _ _ rfl hop2.out _ 1 rfl rfl HLP.out hG2.out ?_; intro v3 w3 ho3 hb3 hg3; have cr3 : w3.cell? ⟨gc, LA * 256 + T.r, none⟩ = some (.int .i64 Zc) := (hb3.cell (p := ⟨gc, LA * 256 + T.r, none⟩) hgc2).trans cr2))
          clear cr hBV
          have hob3 : OwnB G0 w3 v2 (T.bl ++ [BT]) := OwnS.grown hob2.out hg3 (own_apart hob2.out hop2.out (by decide))
          have hch3 : OwnI w.heap.size w3 (.slice (some ⟨gc, 0, none⟩) N cap) T.ch := row_same HC1.out ((hb3.block gc hgc2).trans (hbb2.out.block gc hgc2))
          have fr3 := hch3.free (LA * 256 + T.r)
          have hbb3 := HBB.out.trans ((hbb2.out.trans hb3).mono hwG)
          have HC4 := Lib.hid (OwnS.set_int hch3 (LA * 256 + T.r) (updB Zc BT : Nat) HRR.out)
          have HB4 := Lib.hid (hob3.setLow (p := ⟨gc, LA * 256 + T.r, none⟩) hgc2 (.int .i64 (updB Zc BT : Nat)))
          have HP4 := Lib.hid (ho3.setLow (p := ⟨gc, LA * 256 + T.r, none⟩) hgc2 (.int .i64 (updB Zc BT : Nat)))
          have HBB4 := Lib.hid (hbb3.setCell (p := ⟨gc, LA * 256 + T.r, none⟩) hgc (.int .i64 (updB Zc BT : Nat)))
          have HG4 := Lib.hid (show G0 ≤ (w3.setCell ⟨gc, LA * 256 + T.r, none⟩ (.int .i64 (updB Zc BT : Nat))).heap.size by
            have := Nat.le_trans hG2.out hb3.size
            simpa using this)
          clear cr2 hob3 hch3 ho3 hb3 hg3 hbb3
          go_wp2_with fail
          refine (CU.out _).mono ?_; rintro e w6 ⟨rfl, rfl⟩
          cases BT with
          | true =>
            go_wp2_with fail
            go_roundw
            case rel => exact ⟨j + 1, by omega, congrArg (Value.int .i64) HKK.out, by rw [HST2.out]; go_num, by rw [HST2.out]; exact HC4.out, by rw [HST2.out]; exact HB4.out, by rw [HST2.out]; exact HP4.out, HBB4.out, HG4.out⟩
            case measure => simp [intOf]
          | false =>
            go_wp2_with fail
            go_roundw
            case rel => exact ⟨j + 1, by omega, congrArg (Value.int .i64) HKK.out, by rw [HST2.out]; go_num, by rw [HST2.out]; exact HC4.out, by rw [HST2.out]; exact HB4.out, by rw [HST2.out]; exact HP4.out, HBB4.out, HG4.out⟩
            case measure => simp [intOf]
        · obtain rfl : j = 8 := by omega
          have e1 : (7 : Int) - ((8 : Nat) : Int) = -1 := by omega
          rw [e1]
          have HC1 := Lib.hid hch; have HB1 := Lib.hid hob; have HP1 := Lib.hid hop; have HBB := Lib.hid hb; have HGG := Lib.hid hgs
          clear hch hob hop hb hgs e1
          go_wp2_with fail
          go_roundw
          case rel => exact ⟨k + 1, by omega, by go_num, by rw [HSX.out, HSX2.out], by rw [HSX.out, HSX2.out]; exact HC1.out, by rw [HSX.out, HSX2.out]; exact HB1.out, by rw [HSX.out, HSX2.out]; exact HP1.out, HBB.out, HGG.out⟩
          case measure => simp [intOf]; omega
    · obtain rfl : k = s.size := by omega
      obtain ⟨hmm, -, hlen⟩ := HML.out s.size
      have ht : (bys s.data.toList).take s.size = bys s.data.toList := List.take_of_length_le (by rw [HLEN.out]; simp)
      rw [ht] at hob hop hmm hlen
      rw [HE0.out.1, HLEN.out] at hlen
      have hds : s.data.toList.length = s.size := by simp
      obtain ⟨P, hP⟩ : ∃ P, mEs E0 (bys s.data.toList) = P := ⟨_, rfl⟩
      rw [hP] at hob hop hmm hlen HENC
      have hm1 := hmm.1.2.2.1
      simp only [List.length_nil, Nat.zero_add] at hlen
      have hpl : P.1.pl.length ≤ 100000 := by omega
      have hsz := hb.size
      have GB := Lib.hid (OwnB.isB hob)
      have GP := Lib.hid (hop.isL (by omega))
      have HES2 := Lib.hid (show encS P.1.bl P.1.pl = (SS, 0) by
        unfold encS
        rw [if_neg (by omega), hmm.1.2.2.2, if_neg (by decide), HENC.out]; rfl)
      have HBB := Lib.hid hb
      clear hch hob hop hb hlen hmm ht hP HENC
      go_wp2_with fail
      refine (dEncodeT GB.out GP.out hpl SS 0 HES2.out).mono ?_; rintro e w4 ⟨rfl, hb4⟩
      have HB4 := Lib.hid (HBB.out.trans (hb4.mono hsz))
      clear hb4
      go_wp2_with fail
      go_ret2
      exact ⟨rfl, HB4.out⟩
end Go.Proofs.Ytkdkedgpchcfpaa
