/- Layer 46: the document's numbers as bytes. -/
import Derived.Test.YtkdkedgpchcfpaaGq
import Derived.Test.YtkdkedgpchcfpaaG22
import Derived.Test.YtkdkedgpchcfpaaG11
namespace Go.Proofs.Ytkdkedgpchcfpaa
open Go.ChangeShapes Go.WideShapes Go.ChangeAt Go.RowKit
set_option linter.unusedVariables false
set_option maxRecDepth 100000
open Range
theorem bEncArg (v : Value) (n : Int) (hn : n < 1 ∨ 9 < n) (w : World) : Calls Try.prog 26 #[v, .int .i64 n] w fun e w' => e = .returned (.tuple #[.string ⟨#[]⟩, .int .i64 1]) ∧ w' = w := by
  rcases hn with h | h
  · have hd : decide (n < 1) = true := by simpa using h
    go_enter Try.func26, Try.ntmps26
    go_wp2_with fail
    go_ret2
    exact ⟨rfl, rfl⟩
  · have hd : decide (n < 1) = false := by simp; omega
    have hd2 : decide (9 < n) = true := by simpa using h
    go_enter Try.func26, Try.ntmps26
    go_wp2_with fail
    go_ret2
    exact ⟨rfl, rfl⟩
theorem inB_step {n k : Nat} {l : List Int} (h : inB n (l.take k) = true) (hk : k < l.length) (h1 : 0 ≤ l.getD k 0) (h2 : l.getD k 0 < ((2 ^ n : Nat) : Int)) : inB n (l.take (k + 1)) = true := by
  rw [take_getD l k hk]
  unfold inB at *
  rw [List.all_append, h]
  simp only [List.all_cons, List.all_nil, Bool.and_true, Bool.true_and, Bool.and_eq_true, decide_eq_true_eq]
  exact ⟨h1, h2⟩
theorem inB_bad {n k : Nat} {l : List Int} (hk : k < l.length) (h : l.getD k 0 < 0 ∨ ((2 ^ n : Nat) : Int) ≤ l.getD k 0) : inB n l = false := by
  rw [← Bool.not_eq_true]
  intro h2
  have := inB_at h2 (l.getD k 0) (by simp [List.getD_eq_getElem?_getD, hk])
  omega
theorem encB_bad {n : Nat} {l : List Int} {S : List UInt8} {E : Int} (hn1 : 1 ≤ n) (hn : n ≤ 9) (h : encB l n = (S, E)) (hb : inB n l = false) : S = [] ∧ E = 2 := by
  unfold encB at h
  rw [if_neg (by omega), Int.toNat_natCast, hb, if_pos rfl] at h
  simpa using h.symm
theorem encB_good {n : Nat} {l : List Int} {S : List UInt8} {E : Int} (hn1 : 1 ≤ n) (hn : n ≤ 9) (h : encB l n = (S, E)) (hb : inB n l = true) : S = told (pr (numsE n (e0 (2 ^ n)) (nats l))) ∧ E = 0 := by
  unfold encB at h
  rw [if_neg (by omega), Int.toNat_natCast, hb, if_neg (by decide)] at h
  simpa [eq_comm] using h
set_option maxHeartbeats 3200000 in
theorem bEncode (a : Option Addr) (c : Nat) (l : List Int) (n : Nat) (hn1 : 1 ≤ n) (hn : n ≤ 9) (hl : l.length ≤ 10000) (w : World) (h : IsInts w a l) (S : List UInt8) (E : Int) (hr : encB l n = (S, E)) :
    Calls Try.prog 26 #[.slice a l.length c, .int .i64 n] w fun e w' => e = .returned (.tuple #[.string (sB S), .int .i64 E]) ∧ Below w.heap.size w w' := by
  have hN9 : 2 ^ n ≤ 512 := Nat.pow_le_pow_right (n := 2) (by decide) hn
  have hN0 : 0 < 2 ^ n := Nat.pow_pos (by decide)
  have hW : wrap64 ((2 : Int) ^ n) = ((2 ^ n : Nat) : Int) := by
    have e1 : (2 : Int) ^ n = ((2 ^ n : Nat) : Int) := by simp
    rw [e1]; unfold wrap64; generalize 2 ^ n = q at *; omega
  have HBAD := Lib.hid (fun hb => encB_bad hn1 hn hr hb)
  have HGOOD := Lib.hid (fun hb => encB_good hn1 hn hr hb)
  have HMID := Lib.hid (fun xs => (numsE_mid (n := n) (mid0 (2 ^ n)) (Nat.le_refl _) xs).1)
  have HLEN := Lib.hid (fun xs => numsE_len n (e0 (2 ^ n)) xs)
  have HSN := Lib.hid (fun xs x => numsE_snoc n (e0 (2 ^ n)) xs x)
  have HE0 := Lib.hid (show (e0 (2 ^ n)).bl = [] ∧ (e0 (2 ^ n)).pl = [] ∧ (e0 (2 ^ n)).ch = List.replicate (2 ^ n) 1024 from ⟨rfl, rfl, rfl⟩)
  have HI := Lib.hid h
  have hq1 : decide ((n : Int) < 1) = false := by simp; omega
  have hq2 : decide ((9 : Int) < (n : Int)) = false := by simp; omega
  have C1 := Lib.hid (fun W => dFresh n (by omega) W)
  obtain ⟨N, hN⟩ : ∃ N, 2 ^ n = N := ⟨_, rfl⟩
  have HN := Lib.hid hN
  rw [hN] at hW hN9 HMID HLEN HSN HE0 HGOOD
  obtain ⟨ES0, hES0⟩ : ∃ ES0, e0 N = ES0 := ⟨_, rfl⟩
  rw [hES0] at HMID HLEN HSN HE0 HGOOD
  clear hr h hN hES0
  go_enter Try.func26, Try.ntmps26
  go_wp2_with fail
  clear hq1 hq2
  refine (C1.out _).mono ?_; rintro e w1 ⟨v1, rfl, hown1, hb1⟩
  obtain ⟨gc, cap, rfl, hgc, hgc2⟩ := hown1.form (by simp; omega) (by decide)
  rw [List.length_replicate, HN.out] at hown1 ⊢
  have HO1 := Lib.hid (show OwnI w.heap.size w1 (.slice (some ⟨gc, 0, none⟩) N cap) (numsE n ES0 []).ch by rw [show numsE n ES0 [] = ES0 from rfl, HE0.out.2.2]; exact hown1)
  have HB1 := Lib.hid hb1
  obtain ⟨G0, hG0⟩ : ∃ G0, w1.heap.size = G0 := ⟨_, rfl⟩
  rw [hG0] at hgc2
  have hwG : w.heap.size ≤ G0 := by have := hb1.size; omega
  have HG1 := Lib.hid (Nat.le_of_eq hG0.symm)
  have HBL0 := Lib.hid (show (numsE n ES0 []).bl = [] ∧ (numsE n ES0 []).pl = [] from ⟨HE0.out.1, HE0.out.2.1⟩)
  clear hown1 hb1 C1 hG0 hN0
  go_wp2_with fail
  go_loopw [7, 8, 9] (fun ub up i wr => ∃ k : Nat, k ≤ l.length ∧ i = .int .i64 k ∧ Hid (inB n (l.take k) = true) ∧ OwnI w.heap.size wr (.slice (some ⟨gc, 0, none⟩) N cap) (numsE n ES0 ((nats l).take k)).ch ∧ OwnB G0 wr ub (numsE n ES0 ((nats l).take k)).bl ∧ OwnI G0 wr up (numsE n ES0 ((nats l).take k)).pl ∧ Below w.heap.size w wr ∧ G0 ≤ wr.heap.size) (fun _ _ i _ => l.length - (intOf i).toNat)
  case atStart => exact ⟨0, Nat.zero_le _, rfl, Lib.hid (by simp [inB]), HO1.out, by rw [List.take_zero, HBL0.out.1]; exact OwnS.nil, by rw [List.take_zero, HBL0.out.2]; exact OwnS.nil, HB1.out, HG1.out⟩
  case round =>
    obtain ⟨k, hk, rfl, HT, hch, hob, hop, hb, hgs⟩ := hrel
    obtain ⟨wo, hwo⟩ : ∃ wo : World, wo = wr := ⟨_, rfl⟩
    subst hwo
    by_cases hlt : k < l.length
    · obtain ⟨x, rfl, hxb, hx⟩ := HI.out.at k hlt
      have cx := hx k hlt
      have hxk : (x.add k).block < w.heap.size := by rw [add_block]; exact hxb
      have HTN := Lib.hid (fun h1 h2 => inB_step HT.out hlt h1 h2)
      have HNO := Lib.hid (fun h => inB_bad (n := n) hlt h)
      have HNT := Lib.hid (nats_take l k hlt)
      have HCX := Lib.hid (fun W (hb : Below w.heap.size w W) => (hb.cell (p := x.add k) hxk).trans cx)
      have cxo := HCX.out _ hb
      obtain ⟨Z, hZ⟩ : ∃ Z, l.getD k 0 = Z := ⟨_, rfl⟩
      rw [hZ] at cx HTN HNO HNT HCX cxo
      rw [HN.out] at HTN HNO
      clear hx hZ
      by_cases h1 : Z < 0
      · have HB := Lib.hid (HBAD.out (HNO.out (.inl h1)))
        have HBe := Lib.hid hb
        clear hch hob hop hb
        go_wp2_with fail
        go_ret2
        exact ⟨by rw [HB.out.1, HB.out.2]; rfl, HBe.out⟩
      · by_cases h2 : (N : Int) ≤ Z
        · have HB := Lib.hid (HBAD.out (HNO.out (.inr h2)))
          have HBe := Lib.hid hb
          clear hch hob hop hb
          go_wp2_with fail
          go_ret2
          exact ⟨by rw [HB.out.1, HB.out.2]; rfl, HBe.out⟩
        · have HT2 := Lib.hid (HTN.out (by omega) (by omega))
          obtain ⟨xn, rfl⟩ : ∃ xn : Nat, Z = xn := ⟨Z.toNat, by omega⟩
          rw [Int.toNat_natCast] at HNT
          have hxn : xn < N := by omega
          have hxn5 : xn ≤ 1000000 := by omega
          have HSX := Lib.hid (HSN.out ((nats l).take k) xn)
          rw [← HNT.out] at HSX
          have hmid := HMID.out ((nats l).take k)
          have hlen := HLEN.out ((nats l).take k)
          rw [HE0.out.1] at hlen
          have hlen2 : (numsE n ES0 ((nats l).take k)).bl.length ≤ 90000 := by
            have e1 : ((nats l).take k).length ≤ 10000 := by rw [List.length_take, nats_len]; omega
            have e2 : n * ((nats l).take k).length ≤ 9 * 10000 := Nat.mul_le_mul hn e1
            simp only [List.length_nil, Nat.zero_add] at hlen
            omega
          obtain ⟨SK, hSK⟩ : ∃ SK, numsE n ES0 ((nats l).take k) = SK := ⟨_, rfl⟩
          rw [hSK] at hch hob hop HSX hmid hlen2
          obtain ⟨S0, hS0⟩ : ∃ S0 : ES, S0 = ⟨SK.bl, SK.pl, SK.ch, 1⟩ := ⟨_, rfl⟩
          have HSX2 := Lib.hid (show numE 0 n SK xn = stepsE 0 xn n S0 n by rw [hS0]; rfl)
          have HF := Lib.hid (fineE_steps (o := 0) (n := n) (show FineE S0 N 0 by rw [hS0]; exact hmid.fine) (by have := HN.out; omega) xn)
          have HL := Lib.hid (stepsE_len 0 xn n S0)
          have hl0 : S0.bl.length ≤ 90000 := by rw [hS0]; exact hlen2
          have HR0 := Lib.hid (show S0.r = 1 by rw [hS0])
          have HC := Lib.hid (show OwnI w.heap.size wo (.slice (some ⟨gc, 0, none⟩) N cap) S0.ch by rw [hS0]; exact hch)
          have HOB := Lib.hid (show OwnB G0 wo u7 S0.bl by rw [hS0]; exact hob)
          have HOP := Lib.hid (show OwnI G0 wo u8 S0.pl by rw [hS0]; exact hop)
          have HBo := Lib.hid hb
          have HGo := Lib.hid hgs
          clear hch hob hop hb hmid hlen hlen2 hSK hS0 cx hgs
          have hdec : decide ((k : Int) < (l.length : Int)) = true := by simp; omega
          have hd1 : decide ((xn : Int) < 0) = false := by simp
          have hd2 : decide ((N : Int) ≤ (xn : Int)) = false := by simp; omega
          have hn1' : ((n : Int) - 1) = ((n : Int) - 1 - ((0 : Nat) : Int)) := by simp
          have HN1 := Lib.hid hn1'
          clear hn1'
          go_wp2_with fail
          go_loopw [7, 8, 10, 11] (fun ub up at' i wr => ∃ j : Nat, j ≤ n ∧ i = .int .i64 ((n : Int) - 1 - (j : Int)) ∧ at' = .int .i64 ((stepsE 0 xn n S0 j).r : Nat) ∧ OwnI w.heap.size wr (.slice (some ⟨gc, 0, none⟩) N cap) (stepsE 0 xn n S0 j).ch ∧ OwnB G0 wr ub (stepsE 0 xn n S0 j).bl ∧ OwnI G0 wr up (stepsE 0 xn n S0 j).pl ∧ Below w.heap.size w wr ∧ G0 ≤ wr.heap.size) (fun _ _ _ i _ => (intOf i + 1).toNat)
          case atStart => exact ⟨0, Nat.zero_le _, by rw [← HN1.out], by show _ = Value.int .i64 ((S0.r : Nat) : Int); rw [HR0.out]; rfl, HC.out, HOB.out, HOP.out, HBo.out, HGo.out⟩
          case round =>
            obtain ⟨j, hj, rfl, rfl, hch, hob, hop, hb, hgs⟩ := hrel
            clear hdec hd1 hd2
            by_cases hlt2 : j < n
            · obtain ⟨kk, hkk⟩ : ∃ kk : Nat, (n : Int) - 1 - (j : Int) = kk := ⟨n - 1 - j, by omega⟩
              have hBA : bitAt xn n j = bitK xn kk := by unfold bitAt bitK; rw [show n - 1 - j = kk by omega]
              rw [hkk]
              have hkk9 : kk ≤ 9 := by omega
              have HKK := Lib.hid (show ((kk : Int) - 1) = (n : Int) - 1 - ((j + 1 : Nat) : Int) by omega)
              obtain ⟨hrr, Zc, hZc, hz1, hz2⟩ := fineE_at (o := 0) (n := n) (HF.out j hj) hlt2 (by have := HN.out; omega)
              rw [Nat.zero_add] at hrr hZc
              have hTl := (HF.out j hj).1
              have hlen := HL.out j
              have hlen2 := (HF.out j hj).2.2.2.2.1
              have HST := Lib.hid (show stepsE 0 xn n S0 (j + 1) = stepE 0 (bitAt xn n j) (stepsE 0 xn n S0 j) from rfl)
              obtain ⟨T, hT⟩ : ∃ T, stepsE 0 xn n S0 j = T := ⟨_, rfl⟩
              rw [hT] at hch hob hop hrr hZc hTl hlen hlen2 HST ⊢
              obtain ⟨BT, hBT⟩ : ∃ BT, bitK xn kk = BT := ⟨_, rfl⟩
              have hBV : (bits .and .i64 ((xn : Int) / 2 ^ kk) 1 == 1) = BT := (and1 xn kk hxn5).trans hBT
              have HST2 := Lib.hid (HST.out.trans (show stepE 0 (bitAt xn n j) T = ⟨T.bl ++ [BT], T.pl ++ [(Zc : Int)], T.ch.set T.r (updB Zc BT : Nat), 2 * T.r + if BT then 1 else 0⟩ by unfold stepE; rw [hBA, hBT, Nat.zero_add, hZc]; rfl))
              have cr := OwnS.int_cell hch T.r hrr
              rw [hZc] at cr
              have cxr := HCX.out _ hb
              have hrN : T.r < N := by omega
              have hrN5 : T.r ≤ 512 := by omega
              have CU := Lib.hid (fun W => dUpdate Zc ⟨hz1, hz2⟩ BT W)
              have HLB := Lib.hid (show T.bl.length ≤ 1099511627776 by omega)
              have HLP := Lib.hid (show T.pl.length ≤ 1099511627776 by omega)
              have HC1 := Lib.hid hch; have HB1 := Lib.hid hob; have HP1 := Lib.hid hop; have HBB := Lib.hid hb; have HGG := Lib.hid hgs
              have HRR := Lib.hid hrr
              clear hch hob hop hb hgs hZc hTl hlen hlen2 hT hBA hBT hrr HF HL hkk
              go_wp2_with (at_builtin; first
                | (refine app_bool rfl _ _ rfl _ _ _ _ BT rfl HB1.out _ 1 rfl rfl HLB.out HGG.out ?_; intro v2 w2 ho2 hb2 hg2; have cr2 : w2.cell? ⟨gc, T.r, none⟩ = some (.int .i64 Zc) := (hb2.cell (p := ⟨gc, T.r, none⟩) hgc2).trans cr; have hop2 := Lib.hid (OwnS.grown HP1.out hg2 (own_apart HP1.out HB1.out (by decide))); have hG2 := Lib.hid (Nat.le_trans HGG.out hb2.size); have hob2 := Lib.hid ho2; have hbb2 := Lib.hid hb2; clear ho2 hg2 hb2)
                | (refine app_int rfl _ _ rfl _ _ _ _ _ rfl hop2.out _ 1 rfl rfl HLP.out hG2.out ?_; intro v3 w3 ho3 hb3 hg3; have cr3 : w3.cell? ⟨gc, T.r, none⟩ = some (.int .i64 Zc) := (hb3.cell (p := ⟨gc, T.r, none⟩) hgc2).trans cr2))
              clear cr cxr hBV
              have hob3 : OwnB G0 w3 v2 (T.bl ++ [BT]) := OwnS.grown hob2.out hg3 (own_apart hob2.out hop2.out (by decide))
              have hch3 : OwnI w.heap.size w3 (.slice (some ⟨gc, 0, none⟩) N cap) T.ch := row_same HC1.out ((hb3.block gc hgc2).trans (hbb2.out.block gc hgc2))
              have fr3 := hch3.free T.r
              have hbb3 := HBB.out.trans ((hbb2.out.trans hb3).mono hwG)
              have HC4 := Lib.hid (OwnS.set_int hch3 T.r (updB Zc BT : Nat) HRR.out)
              have HB4 := Lib.hid (hob3.setLow (p := ⟨gc, T.r, none⟩) hgc2 (.int .i64 (updB Zc BT : Nat)))
              have HP4 := Lib.hid (ho3.setLow (p := ⟨gc, T.r, none⟩) hgc2 (.int .i64 (updB Zc BT : Nat)))
              have HBB4 := Lib.hid (hbb3.setCell (p := ⟨gc, T.r, none⟩) hgc (.int .i64 (updB Zc BT : Nat)))
              have HG4 := Lib.hid (show G0 ≤ (w3.setCell ⟨gc, T.r, none⟩ (.int .i64 (updB Zc BT : Nat))).heap.size by
                have := Nat.le_trans hG2.out hb3.size
                simpa using this)
              clear cr2 hob3 hch3 ho3 hb3 hg3 hbb3
              go_wp2_with fail
              refine (CU.out _).mono ?_; rintro e w6 ⟨rfl, rfl⟩
              cases BT with
              | true =>
                go_wp2_with fail
                go_roundw
                case rel => exact ⟨j + 1, by omega, congrArg (Value.int .i64) HKK.out, by rw [HST2.out]; go_num, by rw [HST2.out]; exact HC4.out, by rw [HST2.out]; exact HB4.out, by rw [HST2.out]; exact HP4.out, HBB4.out, HG4.out⟩
                case measure => simp [intOf]
              | false =>
                go_wp2_with fail
                go_roundw
                case rel => exact ⟨j + 1, by omega, congrArg (Value.int .i64) HKK.out, by rw [HST2.out]; go_num, by rw [HST2.out]; exact HC4.out, by rw [HST2.out]; exact HB4.out, by rw [HST2.out]; exact HP4.out, HBB4.out, HG4.out⟩
                case measure => simp [intOf]
            · obtain rfl : j = n := by omega
              have e1 : (j : Int) - 1 - (j : Int) = -1 := by omega
              rw [e1]
              have HC1 := Lib.hid hch; have HB1 := Lib.hid hob; have HP1 := Lib.hid hop; have HBB := Lib.hid hb; have HGG := Lib.hid hgs
              clear hch hob hop hb hgs e1
              go_wp2_with fail
              go_roundw
              case rel => exact ⟨k + 1, by omega, by go_num, HT2, by rw [HSX.out, HSX2.out]; exact HC1.out, by rw [HSX.out, HSX2.out]; exact HB1.out, by rw [HSX.out, HSX2.out]; exact HP1.out, HBB.out, HGG.out⟩
              case measure => simp [intOf]; omega
    · obtain rfl : k = l.length := by omega
      have HA := Lib.hid (show inB n l = true by have := HT.out; rwa [List.take_length] at this)
      have HES := Lib.hid (HGOOD.out HA.out)
      have hlen := HLEN.out (nats l)
      have hmid := HMID.out (nats l)
      rw [List.take_of_length_le (show (nats l).length ≤ l.length by rw [nats_len]; exact Nat.le_refl _)] at hob hop
      have hBL : (numsE n ES0 (nats l)).bl.length ≤ 100000 := by
        have e2 : n * (nats l).length ≤ 9 * 10000 := Nat.mul_le_mul hn (by rw [nats_len]; omega)
        rw [HE0.out.1, List.length_nil, Nat.zero_add] at hlen
        omega
      obtain ⟨SL, hSL⟩ : ∃ SL, numsE n ES0 (nats l) = SL := ⟨_, rfl⟩
      rw [hSL] at hob hop hmid hBL HES
      have hpl : SL.pl.length ≤ 100000 := by have := hmid.2.2.1; omega
      have hsz := hb.size
      have GB := Lib.hid (OwnB.isB hob)
      have GP := Lib.hid (hop.isL (by omega))
      have HES2 := Lib.hid (show encS SL.bl SL.pl = (S, E) by
        unfold encS
        rw [if_neg (by have := hmid.2.2.1; omega), hmid.2.2.2, if_neg (by decide), HES.out.1, HES.out.2]; rfl)
      have HBB := Lib.hid hb
      clear hch hob hop hb hmid hlen hSL HES hBL
      go_wp2_with fail
      refine (dEncodeT GB.out GP.out hpl S E HES2.out).mono ?_; rintro e w4 ⟨rfl, hb4⟩
      have HB4 := Lib.hid (HBB.out.trans (hb4.mono hsz))
      clear hb4
      go_wp2_with fail
      go_ret2
      exact ⟨rfl, HB4.out⟩
end Go.Proofs.Ytkdkedgpchcfpaa
