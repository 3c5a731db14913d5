import Derived.Test.YtedmnlfbmmlcbaaJ08
import Derived.Test.YtedmnlfbmmlcbaaJ11
import Derived.Test.YtedmnlfbmmlcbaaJ07
import Derived.Test.YtedmnlfbmmlcbaaJ02
/- Layer 46: the document's numbers as bytes. -/
namespace Go.Proofs.Ytedmnlfbmmlcbaa
open Go.ChangeShapes Go.WideShapes Go.ChangeAt Go.RowKit
set_option linter.unusedVariables false
set_option maxRecDepth 100000
open Range
theorem bEncArg (v : Value) (n : Int) (hn : n < 1 ∨ 9 < n) (w : World) : Calls Try.prog 18 #[v, .int .i64 n] w fun e w' => e = .returned (.tuple #[.string ⟨#[]⟩, .int .i64 1]) ∧ w' = w := by
  rcases hn with h | h
  · have hd : decide (n < 1) = true := by simpa using h
    go_enter Try.func18, Try.ntmps18
    go_wp2_with fail
    go_ret2
    exact ⟨rfl, rfl⟩
  · have hd : decide (n < 1) = false := by simp; omega
    have hd2 : decide (9 < n) = true := by simpa using h
    go_enter Try.func18, Try.ntmps18
    go_wp2_with fail
    go_ret2
    exact ⟨rfl, rfl⟩
theorem inB_step {n k : Nat} {l : List Int} (h : inB n (l.take k) = true) (hk : k < l.length) (h1 : 0 ≤ l.getD k 0) (h2 : l.getD k 0 < ((2 ^ n : Nat) : Int)) : inB n (l.take (k + 1)) = true := by
  rw [take_getD l k hk]
  unfold inB at *
  rw [List.all_append, h]
  simp only [List.all_cons, List.all_nil, Bool.and_true, Bool.true_and, Bool.and_eq_true, decide_eq_true_eq]
  exact ⟨h1, h2⟩
theorem inB_bad {n k : Nat} {l : List Int} (hk : k < l.length) (h : l.getD k 0 < 0 ∨ ((2 ^ n : Nat) : Int) ≤ l.getD k 0) : inB n l = false := by
  rw [← Bool.not_eq_true]
  intro h2
  have := inB_at h2 (l.getD k 0) (by simp [List.getD_eq_getElem?_getD, hk])
  omega
theorem encB_bad {n : Nat} {l : List Int} {S : List UInt8} {E : Int} (hn1 : 1 ≤ n) (hn : n ≤ 9) (h : encB l n = (S, E)) (hb : inB n l = false) : S = [] ∧ E = 2 := by
  unfold encB at h
  rw [if_neg (by omega), Int.toNat_natCast, hb, if_pos rfl] at h
  simpa using h.symm
theorem encB_good {n : Nat} {l : List Int} {S : List UInt8} {E : Int} (hn1 : 1 ≤ n) (hn : n ≤ 9) (h : encB l n = (S, E)) (hb : inB n l = true) : S = told (pr (numsE n (e0 (2 ^ n)) (nats l))) ∧ E = 0 := by
  unfold encB at h
  rw [if_neg (by omega), Int.toNat_natCast, hb, if_neg (by decide)] at h
  simpa [eq_comm] using h
set_option maxHeartbeats 3200000 in
theorem bEncode (a : Option Addr) (c : Nat) (l : List Int) (n : Nat) (hn1 : 1 ≤ n) (hn : n ≤ 9) (hl : l.length ≤ 10000) (w : World) (h : IsInts w a l) (S : List UInt8) (E : Int) (hr : encB l n = (S, E)) :
    Calls Try.prog 18 #[.slice a l.length c, .int .i64 n] w fun e w' => e = .returned (.tuple #[.string (sB S), .int .i64 E]) ∧ Below w.heap.size w w' := by
  have hN9 : 2 ^ n ≤ 512 := Nat.pow_le_pow_right (n := 2) (by decide) hn
  have hN0 : 0 < 2 ^ n := Nat.pow_pos (by decide)
  have hW : wrap64 ((2 : Int) ^ n) = ((2 ^ n : Nat) : Int) := by
    have e1 : (2 : Int) ^ n = ((2 ^ n : Nat) : Int) := by simp
    rw [e1]; unfold wrap64; generalize 2 ^ n = q at *; omega
  have HBAD := Lib.hid (fun hb => encB_bad hn1 hn hr hb)
  have HGOOD := Lib.hid (fun hb => encB_good hn1 hn hr hb)
  have HMID := Lib.hid (fun xs => (numsE_mid (n := n) (mid0 (2 ^ n)) (Nat.le_refl _) xs).1)
  have HLEN := Lib.hid (fun xs => numsE_len n (e0 (2 ^ n)) xs)
  have HSN := Lib.hid (fun xs x => numsE_snoc n (e0 (2 ^ n)) xs x)
  have HE0 := Lib.hid (show (e0 (2 ^ n)).bl = [] ∧ (e0 (2 ^ n)).pl = [] ∧ (e0 (2 ^ n)).ch = List.replicate (2 ^ n) 1024 from ⟨rfl, rfl, rfl⟩)
  have HI := Lib.hid h
  have hq1 : decide ((n : Int) < 1) = false := by simp; omega
  have hq2 : decide ((9 : Int) < (n : Int)) = false := by simp; omega
  have C1 := Lib.hid (fun W => dFresh n (by omega) W)
  obtain ⟨N, hN⟩ : ∃ N, 2 ^ n = N := ⟨_, rfl⟩
  have HN := Lib.hid hN
  rw [hN] at hW hN9 HMID HLEN HSN HE0 HGOOD
  obtain ⟨ES0, hES0⟩ : ∃ ES0, e0 N = ES0 := ⟨_, rfl⟩
  rw [hES0] at HMID HLEN HSN HE0 HGOOD
  clear hr h hN hES0
  go_enter Try.func18, Try.ntmps18
  go_wp2_with fail
  clear hq1 hq2
  refine (C1.out _).mono ?_; rintro e w1 ⟨v1, rfl, hown1, hb1⟩
  obtain ⟨gc, cap, rfl, hgc, hgc2⟩ := hown1.form (by simp; omega) (by decide)
  rw [List.length_replicate, HN.out] at hown1 ⊢
  have HO1 := Lib.hid (show OwnI w.heap.size w1 (.slice (some ⟨gc, 0, none⟩) N cap) (numsE n ES0 []).ch by rw [show numsE n ES0 [] = ES0 from rfl, HE0.out.2.2]; exact hown1)
  have HB1 := Lib.hid hb1
  obtain ⟨G0, hG0⟩ : ∃ G0, w1.heap.size = G0 := ⟨_, rfl⟩
  rw [hG0] at hgc2
  have hwG : w.heap.size ≤ G0 := by have := hb1.size; omega
  have HG1 := Lib.hid (Nat.le_of_eq hG0.symm)
  have HBL0 := Lib.hid (show (numsE n ES0 []).bl = [] ∧ (numsE n ES0 []).pl = [] from ⟨HE0.out.1, HE0.out.2.1⟩)
  clear hown1 hb1 C1 hG0 hN0
  go_wp2_with fail
  go_loopw [7, 8, 9] (fun ub up i wr => ∃ k : Nat, k ≤ l.length ∧ i = .int .i64 k ∧ Hid (inB n (l.take k) = true) ∧ OwnI w.heap.size wr (.slice (some ⟨gc, 0, none⟩) N cap) (numsE n ES0 ((nats l).take k)).ch ∧ OwnB G0 wr ub (numsE n ES0 ((nats l).take k)).bl ∧ OwnI G0 wr up (numsE n ES0 ((nats l).take k)).pl ∧ Below w.heap.size w wr ∧ G0 ≤ wr.heap.size) (fun _ _ i _ => l.length - (intOf i).toNat)
  case atStart => exact ⟨0, Nat.zero_le _, rfl, Lib.hid (by simp [inB]), HO1.out, by rw [List.take_zero, HBL0.out.1]; exact OwnS.nil, by rw [List.take_zero, HBL0.out.2]; exact OwnS.nil, HB1.out, HG1.out⟩
  case round =>
    obtain ⟨k, hk, rfl, HT, hch, hob, hop, hb, hgs⟩ := hrel
    obtain ⟨wo, hwo⟩ : ∃ wo : World, wo = wr := ⟨_, rfl⟩
    subst hwo
    by_cases hlt : k < l.length
    · obtain ⟨x, rfl, hxb, hx⟩ := HI.out.at k hlt
      have cx := hx k hlt
      have hxk : (x.add k).block < w.heap.size := by rw [add_block]; exact hxb
      have HTN := Lib.hid (fun h1 h2 => inB_step HT.out hlt h1 h2)
      have HNO := Lib.hid (fun h => inB_bad (n := n) hlt h)
      have HNT := Lib.hid (nats_take l k hlt)
      have HCX := Lib.hid (fun W (hb : Below w.heap.size w W) => (hb.cell (p := x.add k) hxk).trans cx)
      have cxo := HCX.out _ hb
      obtain ⟨Z, hZ⟩ : ∃ Z, l.getD k 0 = Z := ⟨_, rfl⟩
      rw [hZ] at cx HTN HNO HNT HCX cxo
      rw [HN.out] at HTN HNO
      clear hx hZ
      by_cases h1 : Z < 0
      · have HB := Lib.hid (HBAD.out (HNO.out (.inl h1)))
        have HBe := Lib.hid hb
        clear hch hob hop hb
        go_wp2_with fail
        go_ret2
        exact ⟨by rw [HB.out.1, HB.out.2]; rfl, HBe.out⟩
      · by_cases h2 : (N : Int) ≤ Z
        · have HB := Lib.hid (HBAD.out (HNO.out (.inr h2)))
          have HBe := Lib.hid hb
          clear hch hob hop hb
          go_wp2_with fail
          go_ret2
          exact ⟨by rw [HB.out.1, HB.out.2]; rfl, HBe.out⟩
        · have HT2 := Lib.hid (HTN.out (by omega) (by omega))
          obtain ⟨xn, rfl⟩ : ∃ xn : Nat, Z = xn := ⟨Z.toNat, by omega⟩
          rw [Int.toNat_natCast] at HNT
          have hxn : xn < N := by omega
          have hxn5 : xn ≤ 1000000 := by omega
          have HSX := Lib.hid (HSN.out ((nats l).take k) xn)
          rw [← HNT.out] at HSX
          have hmid := HMID.out ((nats l).take k)
          have hlen := HLEN.out ((nats l).take k)
          rw [HE0.out.1] at hlen
          have hlen2 : (numsE n ES0 ((nats l).take k)).bl.length ≤ 90000 := by
            have e1 : ((nats l).take k).length ≤ 10000 := by rw [List.length_take, nats_len]; omega
            have e2 : n * ((nats l).take k).length ≤ 9 * 10000 := Nat.mul_le_mul hn e1
            simp only [List.length_nil, Nat.zero_add] at hlen
            omega
          obtain ⟨SK, hSK⟩ : ∃ SK, numsE n ES0 ((nats l).take k) = SK := ⟨_, rfl⟩
          rw [hSK] at hch hob hop HSX hmid hlen2
          obtain ⟨S0, hS0⟩ : ∃ S0 : ES, S0 = ⟨SK.bl, SK.pl, SK.ch, 1⟩ := ⟨_, rfl⟩
          have HSX2 := Lib.hid (show numE 0 n SK xn = stepsE 0 xn n S0 n by rw [hS0]; rfl)
          have HF := Lib.hid (fineE_steps (o := 0) (n := n) (show FineE S0 N 0 by rw [hS0]; exact hmid.fine) (by have := HN.out; omega) xn)
          have HL := Lib.hid (stepsE_len 0 xn n S0)
          have hl0 : S0.bl.length ≤ 90000 := by rw [hS0]; exact hlen2
          have HR0 := Lib.hid (show S0.r = 1 by rw [hS0])
          have HC := Lib.hid (show OwnI w.heap.size wo (.slice (some ⟨gc, 0, none⟩) N cap) S0.ch by rw [hS0]; exact hch)
          have HOB := Lib.hid (show OwnB G0 wo u7 S0.bl by rw [hS0]; exact hob)
          have HOP := Lib.hid (show OwnI G0 wo u8 S0.pl by rw [hS0]; exact hop)
          have HBo := Lib.hid hb
          have HGo := Lib.hid hgs
          clear hch hob hop hb hmid hlen hlen2 hSK hS0 cx hgs
          have hdec : decide ((k : Int) < (l.length : Int)) = true := by simp; omega
          have hd1 : decide ((xn : Int) < 0) = false := by simp
          have hd2 : decide ((N : Int) ≤ (xn : Int)) = false := by simp; omega
          have hn1' : ((n : Int) - 1) = ((n : Int) - 1 - ((0 : Nat) : Int)) := by simp
          have HN1 := Lib.hid hn1'
          clear hn1'
          go_wp2_with fail
          go_loopw [7, 8, 10, 11] (fun ub up at' i wr => ∃ j : Nat, j ≤ n ∧ i = .int .i64 ((n : Int) - 1 - (j : Int)) ∧ at' = .int .i64 ((stepsE 0 xn n S0 j).r : Nat) ∧ OwnI w.heap.size wr (.slice (some ⟨gc, 0, none⟩) N cap) (stepsE 0 xn n S0 j).ch ∧ OwnB G0 wr ub (stepsE 0 xn n S0 j).bl ∧ OwnI G0 wr up (stepsE 0 xn n S0 j).pl ∧ Below w.heap.size w wr ∧ G0 ≤ wr.heap.size) (fun _ _ _ i _ => (intOf i + 1).toNat)
          case atStart => exact ⟨0, Nat.zero_le _, by rw [← HN1.out], by show _ = Value.int .i64 ((S0.r : Nat) : Int); rw [HR0.out]; rfl, HC.out, HOB.out, HOP.out, HBo.out, HGo.out⟩
          case round =>
            obtain ⟨j, hj, rfl, rfl, hch, hob, hop, hb, hgs⟩ := hrel
            clear hdec hd1 hd2
            by_cases hlt2 : j < n
            · obtain ⟨kk, hkk⟩ : ∃ kk : Nat, (n : Int) - 1 - (j : Int) = kk := ⟨n - 1 - j, by omega⟩
              have hBA : bitAt xn n j = bitK xn kk := by unfold bitAt bitK; rw [show n - 1 - j = kk by omega]
              rw [hkk]
              have hkk9 : kk ≤ 9 := by omega
              have HKK := Lib.hid (show ((kk : Int) - 1) = (n : Int) - 1 - ((j + 1 : Nat) : Int) by omega)
              obtain ⟨hrr, Zc, hZc, hz1, hz2⟩ := fineE_at (o := 0) (n := n) (HF.out j hj) hlt2 (by have := HN.out; omega)
              rw [Nat.zero_add] at hrr hZc
              have hTl := (HF.out j hj).1
              have hlen := HL.out j
              have hlen2 := (HF.out j hj).2.2.2.2.1
              have HST := Lib.hid (show stepsE 0 xn n S0 (j + 1) = stepE 0 (bitAt xn n j) (stepsE 0 xn n S0 j) from rfl)
              obtain ⟨T, hT⟩ : ∃ T, stepsE 0 xn n S0 j = T := ⟨_, rfl⟩
              rw [hT] at hch hob hop hrr hZc hTl hlen hlen2 HST ⊢
              obtain ⟨BT, hBT⟩ : ∃ BT, bitK xn kk = BT := ⟨_, rfl⟩
              have hBV : (bits .and .i64 ((xn : Int) / 2 ^ kk) 1 == 1) = BT := (and1 xn kk hxn5).trans hBT
              have HST2 := Lib.hid (HST.out.trans (show stepE 0 (bitAt xn n j) T = ⟨T.bl ++ [BT], T.pl ++ [(Zc : Int)], T.ch.set T.r (updB Zc BT : Nat), 2 * T.r + if BT then 1 else 0⟩ by unfold stepE; rw [hBA, hBT, Nat.zero_add, hZc]; rfl))
              have cr := OwnS.int_cell hch T.r hrr
              rw [hZc] at cr
              have cxr := HCX.out _ hb
              have hrN : T.r < N := by omega
              have hrN5 : T.r ≤ 512 := by omega
              have CU := Lib.hid (fun W => dUpdate Zc ⟨hz1, hz2⟩ BT W)
              have HLB := Lib.hid (show T.bl.length ≤ 1099511627776 by omega)
              have HLP := Lib.hid (show T.pl.length ≤ 1099511627776 by omega)
              have HC1 := Lib.hid hch; have HB1 := Lib.hid hob; have HP1 := Lib.hid hop; have HBB := Lib.hid hb; have HGG := Lib.hid hgs
              have HRR := Lib.hid hrr
              clear hch hob hop hb hgs hZc hTl hlen hlen2 hT hBA hBT hrr HF HL hkk
              go_wp2_with (at_builtin; first
                | (refine app_bool rfl _ _ rfl _ _ _ _ BT rfl HB1.out _ 1 rfl rfl HLB.out HGG.out ?_; intro v2 w2 ho2 hb2 hg2; have cr2 : w2.cell? ⟨gc, T.r, none⟩ = some (.int .i64 Zc) := (hb2.cell (p := ⟨gc, T.r, none⟩) hgc2).trans cr; have hop2 := Lib.hid (OwnS.grown HP1.out hg2 (own_apart HP1.out HB1.out (by decide))); have hG2 := Lib.hid (Nat.le_trans HGG.out hb2.size); have hob2 := Lib.hid ho2; have hbb2 := Lib.hid hb2; clear ho2 hg2 hb2)
                | (refine app_int rfl _ _ rfl _ _ _ _ _ rfl hop2.out _ 1 rfl rfl HLP.out hG2.out ?_; intro v3 w3 ho3 hb3 hg3; have cr3 : w3.cell? ⟨gc, T.r, none⟩ = some (.int .i64 Zc) := (hb3.cell (p := ⟨gc, T.r, none⟩) hgc2).trans cr2))
              clear cr cxr hBV
              have hob3 : OwnB G0 w3 v2 (T.bl ++ [BT]) := OwnS.grown hob2.out hg3 (own_apart hob2.out hop2.out (by decide))
              have hch3 : OwnI w.heap.size w3 (.slice (some ⟨gc, 0, none⟩) N cap) T.ch := row_same HC1.out ((hb3.block gc hgc2).trans (hbb2.out.block gc hgc2))
              have fr3 := hch3.free T.r
              have hbb3 := HBB.out.trans ((hbb2.out.trans hb3).mono hwG)
              have HC4 := Lib.hid (OwnS.set_int hch3 T.r (updB Zc BT : Nat) HRR.out)
              have HB4 := Lib.hid (hob3.setLow (p := ⟨gc, T.r, none⟩) hgc2 (.int .i64 (updB Zc BT : Nat)))
              have HP4 := Lib.hid (ho3.setLow (p := ⟨gc, T.r, none⟩) hgc2 (.int .i64 (updB Zc BT : Nat)))
              have HBB4 := Lib.hid (hbb3.setCell (p := ⟨gc, T.r, none⟩) hgc (.int .i64 (updB Zc BT : Nat)))
              have HG4 := Lib.hid (show G0 ≤ (w3.setCell ⟨gc, T.r, none⟩ (.int .i64 (updB Zc BT : Nat))).heap.size by
                have := Nat.le_trans hG2.out hb3.size
                simpa using this)
              clear cr2 hob3 hch3 ho3 hb3 hg3 hbb3
              go_wp2_with fail
              refine (CU.out _).mono ?_; rintro e w6 ⟨rfl, rfl⟩
              cases BT with
              | true =>
                go_wp2_with fail
                go_roundw
                case rel => exact ⟨j + 1, by omega, congrArg (Value.int .i64) HKK.out, by rw [HST2.out]; go_num, by rw [HST2.out]; exact HC4.out, by rw [HST2.out]; exact HB4.out, by rw [HST2.out]; exact HP4.out, HBB4.out, HG4.out⟩
                case measure => simp [intOf]
              | false =>
                go_wp2_with fail
                go_roundw
                case rel => exact ⟨j + 1, by omega, congrArg (Value.int .i64) HKK.out, by rw [HST2.out]; go_num, by rw [HST2.out]; exact HC4.out, by rw [HST2.out]; exact HB4.out, by rw [HST2.out]; exact HP4.out, HBB4.out, HG4.out⟩
                case measure => simp [intOf]
            · obtain rfl : j = n := by omega
              have e1 : (j : Int) - 1 - (j : Int) = -1 := by omega
              rw [e1]
              have HC1 := Lib.hid hch; have HB1 := Lib.hid hob; have HP1 := Lib.hid hop; have HBB := Lib.hid hb; have HGG := Lib.hid hgs
              clear hch hob hop hb hgs e1
              go_wp2_with fail
              go_roundw
              case rel => exact ⟨k + 1, by omega, by go_num, HT2, by rw [HSX.out, HSX2.out]; exact HC1.out, by rw [HSX.out, HSX2.out]; exact HB1.out, by rw [HSX.out, HSX2.out]; exact HP1.out, HBB.out, HGG.out⟩
              case measure => simp [intOf]; omega
    · obtain rfl : k = l.length := by omega
      have HA := Lib.hid (show inB n l = true by have := HT.out; rwa [List.take_length] at this)
      have HES := Lib.hid (HGOOD.out HA.out)
      have hlen := HLEN.out (nats l)
      have hmid := HMID.out (nats l)
      rw [List.take_of_length_le (show (nats l).length ≤ l.length by rw [nats_len]; exact Nat.le_refl _)] at hob hop
      have hBL : (numsE n ES0 (nats l)).bl.length ≤ 100000 := by
        have e2 : n * (nats l).length ≤ 9 * 10000 := Nat.mul_le_mul hn (by rw [nats_len]; omega)
        rw [HE0.out.1, List.length_nil, Nat.zero_add] at hlen
        omega
      obtain ⟨SL, hSL⟩ : ∃ SL, numsE n ES0 (nats l) = SL := ⟨_, rfl⟩
      rw [hSL] at hob hop hmid hBL HES
      have hpl : SL.pl.length ≤ 100000 := by have := hmid.2.2.1; omega
      have hsz := hb.size
      have GB := Lib.hid (OwnB.isB hob)
      have GP := Lib.hid (hop.isL (by omega))
      have HES2 := Lib.hid (show encS SL.bl SL.pl = (S, E) by
        unfold encS
        rw [if_neg (by have := hmid.2.2.1; omega), hmid.2.2.2, if_neg (by decide), HES.out.1, HES.out.2]; rfl)
      have HBB := Lib.hid hb
      clear hch hob hop hb hmid hlen hSL HES hBL
      go_wp2_with fail
      refine (dEncodeT GB.out GP.out hpl S E HES2.out).mono ?_; rintro e w4 ⟨rfl, hb4⟩
      have HB4 := Lib.hid (HBB.out.trans (hb4.mono hsz))
      clear hb4
      go_wp2_with fail
      go_ret2
      exact ⟨rfl, HB4.out⟩
end Go.Proofs.Ytedmnlfbmmlcbaa

/- Layer 46 by values; the chapter's example. -/
namespace Go.Proofs.Ytedmnlfbmmlcbaa
open Go.ChangeShapes Go.WideShapes Go.ChangeAt Go.RowKit
set_option linter.unusedVariables false
set_option maxRecDepth 100000
open Range
theorem tDecArg (s : ByteArray) (many n : Int) (h : n < 1 ∨ 9 < n ∨ many < 0 ∨ 1048576 < many) (w : World) : Calls Try.prog 41 #[.string s, .int .i64 many, .int .i64 n] w fun e w' => e = .returned (.tuple #[.slice none 0 0, .int .i64 1]) ∧ w' = w := by
  by_cases h1 : n < 1
  · have hd : decide (n < 1) = true := by simpa using h1
    go_enter Try.func41, Try.ntmps41
    go_wp2_with fail
    go_ret2
    exact ⟨rfl, rfl⟩
  · have hd1 : decide (n < 1) = false := by simpa using h1
    by_cases h2 : 9 < n
    · have hd : decide (9 < n) = true := by simpa using h2
      go_enter Try.func41, Try.ntmps41
      go_wp2_with fail
      go_ret2
      exact ⟨rfl, rfl⟩
    · have hd2 : decide (9 < n) = false := by simpa using h2
      by_cases h3 : many < 0
      · have hd : decide (many < 0) = true := by simpa using h3
        go_enter Try.func41, Try.ntmps41
        go_wp2_with fail
        go_ret2
        exact ⟨rfl, rfl⟩
      · have hd3 : decide (many < 0) = false := by simpa using h3
        have hd : decide (1048576 < many) = true := by simp; omega
        go_enter Try.func41, Try.ntmps41
        go_wp2_with fail
        go_ret2
        exact ⟨rfl, rfl⟩
theorem tEncodeT {w : World} {v : Value} {l : List Int} (h : IsL w v l) (hl : l.length ≤ 10000) (n : Int) (S : List UInt8) (E : Int) (hr : encB l n = (S, E)) :
    Calls Try.prog 13 #[v, .int .i64 n] w fun e w' => e = .returned (.tuple #[.string (sB S), .int .i64 E]) ∧ Below w.heap.size w w' := by
  by_cases hn : n < 1 ∨ 9 < n
  · unfold encB at hr
    rw [if_pos hn] at hr
    obtain ⟨rfl, rfl⟩ := hr
    refine (tEncodeArg v n hn w).mono ?_
    rintro e w' ⟨rfl, rfl⟩
    exact ⟨rfl, Below.refl _ _⟩
  · obtain ⟨m, rfl⟩ : ∃ m : Nat, n = m := ⟨n.toNat, by omega⟩
    obtain ⟨a, c, rfl, h⟩ := h
    exact tEncode a c l m (by omega) (by omega) hl w h S E hr
theorem bEncodeT {w : World} {v : Value} {l : List Int} (h : IsL w v l) (hl : l.length ≤ 10000) (n : Int) (S : List UInt8) (E : Int) (hr : encB l n = (S, E)) :
    Calls Try.prog 18 #[v, .int .i64 n] w fun e w' => e = .returned (.tuple #[.string (sB S), .int .i64 E]) ∧ Below w.heap.size w w' := by
  by_cases hn : n < 1 ∨ 9 < n
  · unfold encB at hr
    rw [if_pos hn] at hr
    obtain ⟨rfl, rfl⟩ := hr
    refine (bEncArg v n hn w).mono ?_
    rintro e w' ⟨rfl, rfl⟩
    exact ⟨rfl, Below.refl _ _⟩
  · obtain ⟨m, rfl⟩ : ∃ m : Nat, n = m := ⟨n.toNat, by omega⟩
    obtain ⟨a, c, rfl, h⟩ := h
    exact bEncode a c l m (by omega) (by omega) hl w h S E hr
theorem tDecodeT {w : World} (s : ByteArray) (hs : s.size ≤ 1000000) (many n : Int) (L : List Int) (E : Int) (hr : decB s.data.toList many n = (L, E)) :
    Calls Try.prog 41 #[.string s, .int .i64 many, .int .i64 n] w fun e w' => ∃ v, e = .returned (.tuple #[v, .int .i64 E]) ∧ IsL w' v L ∧ Below w.heap.size w w' := by
  by_cases hn : n < 1 ∨ 9 < n ∨ many < 0 ∨ 1048576 < many
  · unfold decB at hr
    rw [if_pos hn] at hr
    obtain ⟨rfl, rfl⟩ := hr
    refine (tDecArg s many n hn w).mono ?_
    rintro e w' ⟨rfl, rfl⟩
    exact ⟨_, rfl, IsL.nil _, Below.refl _ _⟩
  · unfold decB at hr
    rw [if_neg hn] at hr
    obtain ⟨rfl, rfl⟩ := hr
    obtain ⟨m, rfl⟩ : ∃ m : Nat, n = m := ⟨n.toNat, by omega⟩
    obtain ⟨k, rfl⟩ : ∃ k : Nat, many = k := ⟨many.toNat, by omega⟩
    refine (tDecode s hs k m (by omega) (by omega) (by omega) w).mono ?_
    rintro e w' ⟨v, rfl, h1, h2⟩
    exact ⟨v, rfl, by rw [Int.toNat_natCast, Int.toNat_natCast]; exact h1.isL (by rw [outD_len]; omega), h2⟩
theorem litI (w : World) (is : List Int) (t2 c2 : Nat) (hl : is.length ≤ 70368744177664) : IsL (w.alloc (.cells (is.map (Value.int .i64 ·)).toArray t2)) (.slice (some ⟨w.heap.size, 0, none⟩) is.length c2) is := lit1 w is t2 c2 hl
end Go.Proofs.Ytedmnlfbmmlcbaa

/- Layer 49, carried over: Pack. -/
namespace Go.Proofs.Ytedmnlfbmmlcbaa.Zero

namespace ZerosMath
/-- The signs of a run of n noughts, with fuel; 0 is one, 1 is two of what the sign counts. -/
def signsF : Nat → Nat → List Int
  | 0, _ => []
  | f + 1, n => if n = 0 then [] else (((n - 1) % 2 : Nat) : Int) :: signsF f ((n - 1) / 2)
def signs (n : Nat) : List Int := signsF n n
theorem signsF_enough (f g n : Nat) (h : n ≤ f) (k : n ≤ g) : signsF f n = signsF g n := by
  induction f generalizing g n with
  | zero => obtain rfl : n = 0 := by omega
            cases g <;> simp [signsF]
  | succ f ih =>
    cases g with
    | zero => obtain rfl : n = 0 := by omega
              simp [signsF]
    | succ g =>
      simp only [signsF]
      by_cases h0 : n = 0
      · rw [if_pos h0, if_pos h0]
      · rw [if_neg h0, if_neg h0, ih g _ (by omega) (by omega)]
theorem signs_zero : signs 0 = [] := rfl
theorem signs_step (n : Nat) (h : 0 < n) : signs n = (((n - 1) % 2 : Nat) : Int) :: signs ((n - 1) / 2) := by
  unfold signs
  obtain ⟨m, rfl⟩ : ∃ m, n = m + 1 := ⟨n - 1, by omega⟩
  rw [show signsF (m + 1) (m + 1) = (((m + 1 - 1) % 2 : Nat) : Int) :: signsF m ((m + 1 - 1) / 2) from by simp [signsF]]
  rw [signsF_enough m ((m + 1 - 1) / 2) _ (by omega) (by omega)]
theorem signs_length (n : Nat) : (signs n).length ≤ n := by
  induction n using Nat.strongRecOn with
  | _ n ih =>
    by_cases h : 0 < n
    · rw [signs_step n h, List.length_cons]; have := ih ((n - 1) / 2) (by omega); omega
    · obtain rfl : n = 0 := by omega
      simp [signs_zero]
theorem signs_digit (n : Nat) : ∀ d ∈ signs n, d = 0 ∨ d = 1 := by
  induction n using Nat.strongRecOn with
  | _ n ih =>
    by_cases h : 0 < n
    · rw [signs_step n h]
      intro d hd
      rcases List.mem_cons.1 hd with rfl | hd
      · omega
      · exact ih _ (by omega) d hd
    · obtain rfl : n = 0 := by omega
      simp [signs_zero]
/-- How many noughts signs are. -/
def val : List Int → Nat
  | [] => 0
  | d :: l => (d.toNat + 1) + 2 * val l
theorem val_signs (n : Nat) : val (signs n) = n := by
  induction n using Nat.strongRecOn with
  | _ n ih =>
    by_cases h : 0 < n
    · rw [signs_step n h, val, ih _ (by omega)]; omega
    · obtain rfl : n = 0 := by omega
      rfl
theorem signs_val (l : List Int) (h : ∀ d ∈ l, d = 0 ∨ d = 1) : signs (val l) = l := by
  induction l with
  | nil => rfl
  | cons d l ih =>
    have hd := h d (List.mem_cons_self ..)
    rw [val, signs_step _ (by omega), show (d.toNat + 1 + 2 * val l - 1) / 2 = val l from by omega, ih (fun x hx => h x (List.mem_cons_of_mem _ hx))]
    congr 1; omega
theorem val_append (a b : List Int) : val (a ++ b) = val a + 2 ^ a.length * val b := by
  induction a with
  | nil => simp [val]
  | cons d a ih => simp only [List.cons_append, val, ih, List.length_cons, Nat.pow_succ, Nat.mul_add]; rw [Nat.mul_comm (2 ^ a.length) 2, Nat.mul_assoc]; omega
/-- Numbers with their runs of noughts as signs, n noughts ahead; numbers that signs mean, with what the next sign of a run counts. -/
def packL : Nat → List Int → List Int
  | n, [] => signs n
  | n, x :: l => if x = 0 then packL (n + 1) l else signs n ++ (x + 1) :: packL 0 l
def unpackL : Nat → List Int → List Int
  | _, [] => []
  | p, x :: l => if x ≤ 1 then List.replicate (p * (x.toNat + 1)) 0 ++ unpackL (p * 2) l else (x - 1) :: unpackL 1 l
theorem packL_length (n : Nat) (l : List Int) : (packL n l).length ≤ n + l.length := by
  induction l generalizing n with
  | nil => have := signs_length n; simp [packL]; omega
  | cons x l ih =>
    simp only [packL]
    split
    · have := ih (n + 1); simp; omega
    · have := ih 0; have := signs_length n; simp; omega
theorem unpack_signs (p n : Nat) (t : List Int) : unpackL p (signs n ++ t) = List.replicate (p * n) 0 ++ unpackL (p * 2 ^ (signs n).length) t := by
  induction n using Nat.strongRecOn generalizing p with
  | _ n ih =>
    by_cases h : 0 < n
    · rw [signs_step n h, List.cons_append, unpackL, if_pos (by omega), ih ((n - 1) / 2) (by omega), ← List.append_assoc, List.replicate_append_replicate, List.length_cons, Nat.pow_succ]
      congr 2
      · rw [show p * 2 * ((n - 1) / 2) = p * (2 * ((n - 1) / 2)) from by rw [Nat.mul_assoc], ← Nat.mul_add]; congr 1; omega
      · rw [Nat.mul_assoc]; congr 1; exact Nat.mul_comm _ _
    · obtain rfl : n = 0 := by omega
      simp [signs_zero]
theorem unpack_over (p q : Nat) (x : Int) (l : List Int) (h : 1 < x) : unpackL p (x :: l) = unpackL q (x :: l) := by simp only [unpackL]; rw [if_neg (by omega), if_neg (by omega)]
theorem unpack_pack (n : Nat) (l : List Int) (h : ∀ x ∈ l, 0 ≤ x) : unpackL 1 (packL n l) = List.replicate n 0 ++ l := by
  induction l generalizing n with
  | nil =>
    have := unpack_signs 1 n []
    rw [List.append_nil] at this
    simp only [packL]; rw [this]; simp [unpackL]
  | cons x l ih =>
    have hx := h x (List.mem_cons_self ..)
    have hl : ∀ x ∈ l, 0 ≤ x := fun y hy => h y (List.mem_cons_of_mem _ hy)
    simp only [packL]
    by_cases h0 : x = 0
    · rw [if_pos h0, ih (n + 1) hl, h0, List.replicate_succ']; simp
    · rw [if_neg h0, unpack_signs, unpack_over _ 1 (x + 1) _ (by omega), unpackL, if_neg (by omega), ih 0 hl]; simp
theorem pack_noughts (n k : Nat) (l : List Int) : packL n (List.replicate k 0 ++ l) = packL (n + k) l := by
  induction k generalizing n with
  | zero => simp
  | succ k ih => rw [List.replicate_succ, List.cons_append, packL, if_pos rfl, ih]; congr 1; omega
theorem pack_unpack (ds b : List Int) (hd : ∀ d ∈ ds, d = 0 ∨ d = 1) (hb : ∀ x ∈ b, 0 ≤ x) : packL (val ds) (unpackL (2 ^ ds.length) b) = ds ++ b := by
  induction b generalizing ds with
  | nil => simp only [unpackL, packL, signs_val ds hd, List.append_nil]
  | cons x b ih =>
    have hx := hb x (List.mem_cons_self ..)
    have hl : ∀ x ∈ b, 0 ≤ x := fun y hy => hb y (List.mem_cons_of_mem _ hy)
    simp only [unpackL]
    by_cases h1 : x ≤ 1
    · rw [if_pos h1, pack_noughts]
      have := ih (ds ++ [x]) (by
        intro d h'
        rcases List.mem_append.1 h' with h' | h'
        · exact hd d h'
        · rw [List.mem_singleton.1 h']; omega) hl
      rw [val_append, List.length_append, Nat.pow_add, List.append_assoc] at this
      simpa [val] using this
    · rw [if_neg h1, packL, if_neg (by omega), signs_val ds hd]
      have := ih [] (by simp) hl
      simp only [val, List.length_nil, Nat.pow_zero, List.nil_append] at this
      rw [this]; congr 2; omega

end ZerosMath

open Go.ChangeShapes Go.WideShapes Go.ChangeAt Go.RowKit
set_option linter.unusedVariables false
set_option maxRecDepth 100000
open ZerosMath

def inB (l : List Int) (M : Int) : Bool := l.all fun x => decide (0 ≤ x) && decide (x ≤ M)
theorem inB_cons (x : Int) (l : List Int) (M : Int) : inB (x :: l) M = ((decide (0 ≤ x) && decide (x ≤ M)) && inB l M) := by simp [inB]
theorem inB_iff (l : List Int) (M : Int) : inB l M = true ↔ ∀ x ∈ l, 0 ≤ x ∧ x ≤ M := by simp [inB]
set_option maxHeartbeats 800000 in
theorem zWithin (a : Option Addr) (c : Nat) (l : List Int) (M : Int) (w : World) (h : IsInts w a l) (B : Bool) (hB : inB l M = B) :
    Calls Try.prog 24 #[.slice a l.length c, .int .i64 M] w fun e w' => e = .returned (.bool B) ∧ w' = w := by
  have hl := h.1
  have HH := Lib.hid h; clear h
  go_enter Try.func24, Try.ntmps24
  go_wp2
  go_loop [9] (fun i => ∃ k : Nat, k ≤ l.length ∧ i = .int .i64 k ∧ Hid (inB (l.drop k) M = B)) (fun i => l.length - (intOf i).toNat)
  case atStart => exact ⟨0, Nat.zero_le _, rfl, Lib.hid hB⟩
  case round =>
    obtain ⟨k, hk, rfl, ht⟩ := hrel
    clear hB
    by_cases hlt : k < l.length
    · obtain ⟨x, rfl, -, hx⟩ := HH.out.at k hlt
      have cx := hx k hlt
      clear hx
      have hs := ht.out
      rw [drop_getD l k hlt, inB_cons] at hs
      obtain ⟨X, hX⟩ : ∃ X, l.getD k 0 = X := ⟨_, rfl⟩
      rw [hX] at cx hs
      clear hX ht
      by_cases h0 : X < 0
      · have HF := Lib.hid (show false = B by rw [← hs]; simp; omega)
        clear hs
        go_wp2
        go_ret
        exact ⟨ret_b HF.out, rfl⟩
      · by_cases h1 : M < X
        · have HF := Lib.hid (show false = B by rw [← hs]; simp; omega)
          clear hs
          go_wp2
          go_ret
          exact ⟨ret_b HF.out, rfl⟩
        · have HF := Lib.hid (show inB (l.drop (k + 1)) M = B by
            have e : (decide (0 ≤ X) && decide (X ≤ M)) = true := by simp; omega
            rwa [e, Bool.true_and] at hs)
          clear hs
          go_wp2
          go_round
          case rel => exact ⟨k + 1, by omega, by go_num, HF⟩
          case measure => simp [intOf]; omega
    · have HF := Lib.hid (show true = B by have h := ht.out; rw [List.drop_of_length_le (by omega)] at h; exact h)
      go_wp2
      go_ret
      exact ⟨ret_b HF.out, rfl⟩
set_option maxHeartbeats 1600000 in
theorem zSigns (base : Nat) (v : Value) (n r : Nat) (xs : List Int) (w : World) (hown : w.ownsRow base 3 1 v n (intCells xs)) (hb0 : base ≤ w.heap.size) (hx : xs.length ≤ 4000000) (hr : r ≤ 4000000) :
    Calls Try.prog 25 #[v, .int .i64 r] w fun e w' => ∃ v', e = .returned v' ∧ w'.ownsRow base 3 1 v' (xs ++ signs r).length (intCells (xs ++ signs r)) ∧ Below base w w' := by
  obtain ⟨i0, hi, hz0, hz1, hz2⟩ := info_get info_int
  have hn := own_len hown
  subst hn
  have hs := signs_length r
  go_enter Try.func25, Try.ntmps25
  go_wp2
  go_loopw [0, 1] (fun u i wr => ∃ (m : Nat) (ys : List Int), m ≤ r ∧ i = .int .i64 m ∧ wr.ownsRow base 3 1 u (xs ++ ys).length (intCells (xs ++ ys)) ∧ Below base w wr ∧ Hid (ys ++ signs m = signs r)) (fun _ i _ => (intOf i).toNat)
  case atStart => exact ⟨r, [], Nat.le_refl _, rfl, by simpa using hown, Below.refl _ _, Lib.hid rfl⟩
  case round =>
    obtain ⟨m, ys, hm, rfl, hown, hb, hy⟩ := hrel
    have hyl : ys.length ≤ r := by have := congrArg List.length hy.out; simp at this; omega
    have hbs := hb.size
    by_cases hlt : 0 < m
    · have HY := Lib.hid (show (ys ++ [((m : Int) - 1) % 2]) ++ signs ((m - 1) / 2) = signs r by
        rw [← hy.out, signs_step m hlt, List.append_assoc, List.singleton_append]
        congr 2; omega)
      clear hy
      have hxy : (xs ++ ys).length ≤ 8000000 := by simp; omega
      go_wp2_with (at_builtin; refine wpList_append_own _ rfl _ _ 29 rfl base 3 i0 (.int .i64 0) 1 8 Try.underlying29 hi hz0 hz1 hz2 rfl (by decide) _ _ _ rfl (hown.alloc _) ⟨wr.heap.size, 0, none⟩ 1 1 [Value.int .i64 (((m : Int) - 1) % 2)] rfl rfl ?d1 ?d2 ?d3 ?d4 ?d5 ?_)
      case d1 => exact int_new1 _ _ _ _ rfl
      case d2 => exact int_one _
      case d3 => unfold maxLen; omega
      case d4 => omega
      case d5 => simp; omega
      intro v1 w1 hown1 hgrow1 _
      have hb1 : Below base w w1 := (hb.alloc (by omega) _).grown hgrow1 (by simp; omega) (fun k hk => (hown.lt k hk).1)
      clear hgrow1 hown hb
      rw [intCells_snoc, List.append_assoc] at hown1
      go_wp2
      go_roundw
      case rel => exact ⟨(m - 1) / 2, ys ++ [((m : Int) - 1) % 2], by omega, by congr 1; omega, by
        have e := own_len hown1
        rw [← e]; exact hown1, hb1, HY⟩
      case measure => simp [intOf]; omega
    · have h0 : m = 0 := by omega
      have HE := Lib.hid (show ys = signs r by rw [← hy.out, h0, signs_zero, List.append_nil])
      clear hy h0
      have hm0 : ¬ (0 < (m : Int)) := by omega
      go_wp2
      go_ret
      exact ⟨_, rfl, by rw [← HE.out]; have e := hown; rw [List.length_append] at e; exact e, hb⟩
set_option maxHeartbeats 1600000 in
theorem rRun (r : Nat) (w : World) (hr : r ≤ 4000000) :
    Calls Try.prog 35 #[.int .i64 r] w fun e w' => ∃ v', e = .returned v' ∧ w'.ownsRow w.heap.size 3 1 v' (signs r).length (intCells (signs r)) ∧ Below w.heap.size w w' := by
  obtain ⟨i0, hi, hz0, hz1, hz2⟩ := info_get info_int
  have hs := signs_length r
  go_enter Try.func35, Try.ntmps35
  go_wp2
  go_loopw [0, 3] (fun i u wr => ∃ (m : Nat) (ys : List Int), m ≤ r ∧ i = .int .i64 m ∧ wr.ownsRow w.heap.size 3 1 u ys.length (intCells ys) ∧ Below w.heap.size w wr ∧ Hid (ys ++ signs m = signs r)) (fun i _ _ => (intOf i).toNat)
  case atStart => exact ⟨r, [], Nat.le_refl _, rfl, World.ownsRow_nil _ _ _ _, Below.refl _ _, Lib.hid rfl⟩
  case round =>
    obtain ⟨m, ys, hm, rfl, hown, hb, hy⟩ := hrel
    have hyl : ys.length ≤ r := by have := congrArg List.length hy.out; simp at this; omega
    have hbs := hb.size
    by_cases hlt : 0 < m
    · have HY := Lib.hid (show (ys ++ [((m : Int) - 1) % 2]) ++ signs ((m - 1) / 2) = signs r by
        rw [← hy.out, signs_step m hlt, List.append_assoc, List.singleton_append]
        congr 2; omega)
      clear hy
      go_wp2_with (at_builtin; refine wpList_append_own _ rfl _ _ 29 rfl w.heap.size 3 i0 (.int .i64 0) 1 8 Try.underlying29 hi hz0 hz1 hz2 rfl (by decide) _ _ _ rfl (hown.alloc _) ⟨wr.heap.size, 0, none⟩ 1 1 [Value.int .i64 (((m : Int) - 1) % 2)] rfl rfl ?d1 ?d2 ?d3 ?d4 ?d5 ?_)
      case d1 => exact int_new1 _ _ _ _ rfl
      case d2 => exact int_one _
      case d3 => unfold maxLen; omega
      case d4 => omega
      case d5 => simp; omega
      intro v1 w1 hown1 hgrow1 _
      have hb1 : Below w.heap.size w w1 := (hb.alloc (by omega) _).grown hgrow1 (by simp; omega) (fun k hk => (hown.lt k hk).1)
      clear hgrow1 hown hb
      rw [intCells_snoc] at hown1
      go_wp2
      go_roundw
      case rel => exact ⟨(m - 1) / 2, ys ++ [((m : Int) - 1) % 2], by omega, by congr 1; omega, by
        have e := own_len hown1
        rw [← e]; exact hown1, hb1, HY⟩
      case measure => simp [intOf]; omega
    · have h0 : m = 0 := by omega
      have HE := Lib.hid (show ys = signs r by rw [← hy.out, h0, signs_zero, List.append_nil])
      clear hy h0
      have hm0 : ¬ (0 < (m : Int)) := by omega
      go_wp2
      go_ret
      exact ⟨_, rfl, by rw [← HE.out]; exact hown, hb⟩

open Go.ChangeShapes Go.WideShapes Go.ChangeAt Go.RowKit
set_option linter.unusedVariables false
set_option maxRecDepth 100000
open ZerosMath

theorem inB_at {l : List Int} {M : Int} (h : inB l M = true) (k : Nat) (hk : k < l.length) : 0 ≤ l.getD k 0 ∧ l.getD k 0 ≤ M := by
  refine (inB_iff l M).1 h _ ?_
  simp [List.getD_eq_getElem?_getD, hk]
theorem zPackBad (a : Option Addr) (c : Nat) (l : List Int) (w : World) (h : IsInts w a l) (hB : inB l 1048576 = false) :
    Calls Try.prog 10 #[.slice a l.length c] w fun e w' => e = .returned (.tuple #[.slice none 0 0, .int .i64 2]) ∧ w' = w := by
  have C := Lib.hid (zWithin a c l 1048576 w h false hB)
  clear hB h
  go_enter Try.func10, Try.ntmps10
  go_wp2_with fail
  refine C.out.mono ?_; rintro e w1 ⟨rfl, rfl⟩
  go_wp2_with fail
  go_ret2
  exact ⟨rfl, rfl⟩
set_option maxHeartbeats 1600000 in
theorem zPack (a : Option Addr) (c : Nat) (l : List Int) (w : World) (h : IsInts w a l) (hB : inB l 1048576 = true) (hl : l.length ≤ 1100000) :
    Calls Try.prog 10 #[.slice a l.length c] w fun e w' => ∃ v', e = .returned (.tuple #[v', .int .i64 0]) ∧ w'.ownsRow w.heap.size 3 1 v' (packL 0 l).length (intCells (packL 0 l)) ∧ Below w.heap.size w w' := by
  obtain ⟨i0, hi, hz0, hz1, hz2⟩ := info_get info_int
  have C := Lib.hid (zWithin a c l 1048576 w h true hB)
  have HB := Lib.hid hB
  have HI := Lib.hid h
  have hpl := packL_length 0 l
  clear hB h
  go_enter Try.func10, Try.ntmps10
  go_wp2_with fail
  refine C.out.mono ?_; rintro e w1 ⟨rfl, rfl⟩
  go_wp2_with fail
  go_loopw [4, 5, 13] (fun u r i wr => ∃ (k m : Nat) (xs : List Int), k ≤ l.length ∧ m ≤ k ∧ i = .int .i64 k ∧ r = .int .i64 m ∧ wr.ownsRow w1.heap.size 3 1 u xs.length (intCells xs) ∧ Below w1.heap.size w1 wr ∧ Hid (packL 0 l = xs ++ packL m (l.drop k))) (fun _ _ i _ => l.length - (intOf i).toNat)
  case atStart => exact ⟨0, 0, [], Nat.zero_le _, Nat.le_refl _, rfl, rfl, World.ownsRow_nil _ _ _ _, Below.refl _ _, Lib.hid rfl⟩
  case round =>
    obtain ⟨k, m, xs, hk, hm, rfl, rfl, hown, hb, hp⟩ := hrel
    have hxl : xs.length ≤ l.length := by have := congrArg List.length hp.out; simp at this; omega
    have hbs := hb.size
    by_cases hlt : k < l.length
    · obtain ⟨x, rfl, hxb, hx⟩ := HI.out.at k hlt
      have cx := hx k hlt
      have cx : wr.cell? (x.add k) = some (.int .i64 (l.getD k 0)) := by rw [hb.cell (by rw [add_block]; exact hxb)]; exact cx
      obtain ⟨b0, b1⟩ := inB_at HB.out k hlt
      have hp1 := hp.out
      rw [drop_getD l k hlt] at hp1
      clear hx hp
      obtain ⟨X, hX⟩ : ∃ X, l.getD k 0 = X := ⟨_, rfl⟩
      rw [hX] at cx b0 b1 hp1
      clear hX
      by_cases hx0 : X = 0
      · subst hx0
        have HP := Lib.hid (show packL 0 l = xs ++ packL (m + 1) (l.drop (k + 1)) by rw [hp1, packL, if_pos rfl])
        clear hp1
        go_wp2_with fail
        go_roundw
        case rel => exact ⟨k + 1, m + 1, xs, by omega, by omega, by go_num, by go_num, hown, hb, HP⟩
        case measure => simp [intOf]; omega
      · have e0 : (X == 0) = false := by rw [beq_eq_false_iff_ne]; exact hx0
        have HP := Lib.hid (show packL 0 l = (xs ++ signs m ++ [X + 1]) ++ packL 0 (l.drop (k + 1)) by rw [hp1, packL, if_neg hx0]; simp)
        clear hp1
        have hs := signs_length m
        have HO := Lib.hid hown
        go_wp2_with fail
        refine (zSigns w1.heap.size _ _ m xs _ HO.out hbs (by omega) (by omega)).mono ?_
        rintro e w2 ⟨v2, rfl, hown2, hb2⟩
        have hb3 := hb.trans hb2
        have hbs2 := hb3.size
        have hxy : (xs ++ signs m).length ≤ 2300000 := by simp; omega
        clear hown hb hb2
        go_wp2_with (at_builtin; refine wpList_append_own _ rfl _ _ 29 rfl w1.heap.size 3 i0 (.int .i64 0) 1 8 Try.underlying29 hi hz0 hz1 hz2 rfl (by decide) _ _ _ rfl (hown2.alloc _) ⟨w2.heap.size, 0, none⟩ 1 1 [Value.int .i64 (X + 1)] rfl rfl ?d1 ?d2 ?d3 ?d4 ?d5 ?_)
        case d1 => exact int_new1 _ _ _ _ rfl
        case d2 => exact int_one _
        case d3 => unfold maxLen; omega
        case d4 => omega
        case d5 => simp; omega
        intro v3 w3 hown3 hgrow3 _
        have hb4 : Below w1.heap.size w1 w3 := (hb3.alloc (by omega) _).grown hgrow3 (by simp; omega) (fun k hk => (hown2.lt k hk).1)
        clear hgrow3 hown2 hb3
        rw [intCells_snoc] at hown3
        go_wp2
        go_roundw
        case rel => exact ⟨k + 1, 0, _, by omega, by omega, by go_num, rfl, by have e := own_len hown3; rw [e] at hown3; exact hown3, hb4, HP⟩
        case measure => simp [intOf]; omega
    · have HE := Lib.hid (show packL 0 l = xs ++ signs m by have h := hp.out; rw [List.drop_of_length_le (by omega)] at h; exact h)
      have HO := Lib.hid hown
      clear hp
      go_wp2_with fail
      refine (zSigns w1.heap.size _ _ m xs _ HO.out hbs (by omega) (by omega)).mono ?_
      rintro e w2 ⟨v2, rfl, hown2, hb2⟩
      rw [← HE.out] at hown2
      have HO2 := Lib.hid hown2
      clear hown2 hown
      go_wp2_with fail
      go_ret2
      exact ⟨_, rfl, HO2.out, hb.trans hb2⟩

end Go.Proofs.Ytedmnlfbmmlcbaa.Zero
