import Derived.Test.YtopiiickeojpmaaAP13
import Derived.Test.YtopiiickeojpmaaAI9
/- Layer 13: the chapter's example. -/
namespace Go.Proofs.Ytopiiickeojpmaa
open Go.ChangeShapes Go.WideShapes Go.ChangeAt Go.RowKit
set_option linter.unusedVariables false
set_option linter.unusedSimpArgs false
set_option maxRecDepth 100000
open Bits hiding packF pack_length
open RunsMath KraftMath CanonMath TurnMath Pm
theorem i2 (w : World) : IsInts (w.alloc (.cells #[.int .i64 1, .int .i64 1] 3)) (some ⟨w.heap.size, 0, none⟩) [1, 1] := IsInts.new w [1, 1] 3 (0, 0) (by decide)
theorem i16 (w : World) : IsInts (w.alloc (.cells #[.int .i64 16] 3)) (some ⟨w.heap.size, 0, none⟩) [16] := IsInts.new w [16] 3 (0, 0) (by decide)
set_option maxHeartbeats 3200000 in
theorem awake13 (w : World) : Calls Try.prog 5 #[] w fun e w' => e = .returned (.bool true) ∧ Below w.heap.size w w' := by
  have hwl : writeB (packL [1, 1]) (ofR (packL [1, 1])) = writeB [(1, 0), (1, 0)] O11 := by rw [p11, o11]; rfl
  obtain ⟨b, hb⟩ : ∃ b, writeB [(1, 0), (1, 0)] O11 = b := ⟨_, rfl⟩
  have hbl : b.length = 60 := by rw [← hb]; exact w11
  obtain ⟨k, -, hsp, -⟩ := spread_pack b
  obtain ⟨S, hS⟩ : ∃ S, pack b = S := ⟨_, rfl⟩
  rw [hS] at hsp
  have CN := Lib.hid (wNew w)
  have CP := Lib.hid (fun W g B A (h : IsWriter W g B []) (hi : IsInts W A [1, 1]) => show Calls Try.prog 8 #[.pointer (some ⟨g, 0, none⟩), .slice A 2 2] W fun e w' => e = .returned (.int .i64 0) ∧ PenW W w' g B b from by
    have := cPutOk W g B [] h (by simp) A 2 [1, 1] hi (by simp) (by decide) (by decide)
    rw [hwl, hb] at this
    exact this)
  have CB := Lib.hid (fun W g B (h : IsWriter W g B b) => show Calls Try.prog 14 #[.pointer (some ⟨g, 0, none⟩)] W fun e w' => e = .returned (.string ⟨S.toArray⟩) ∧ Below W.heap.size W w' from by
    have := wBytes W g B b h
    rw [hS] at this
    exact this)
  have CRN := Lib.hid (fun W => show Calls Try.prog 16 #[.string ⟨S.toArray⟩] W fun e w' => e = .returned (.pointer (some ⟨W.heap.size + 1, 0, none⟩)) ∧ IsReader w' (W.heap.size + 1) S 0 ∧ Below W.heap.size W w' ∧ w'.heap.size = W.heap.size + 2 from
    rNew ⟨S.toArray⟩ (by rw [← hS]; show (pack b).toArray.size ≤ _; rw [List.size_toArray, Bits.pack_length, hbl]; decide) W)
  have CR2 := Lib.hid (fun W g (h : IsReader W g S 0) => show Calls Try.prog 17 #[.pointer (some ⟨g, 0, none⟩), .int .i64 2] W fun e w' => ∃ v, e = .returned (.tuple #[v, .int .i64 0]) ∧ Keeps (fun k => k = g) W w' ∧ OwnI W.heap.size w' v [1, 1] from
    (cReadOk W g S [1, 1] (by simp) (by decide) (by decide) _ (by rw [hwl, hb]; exact hsp) h).mono fun e w' ⟨v, h1, h2, h3, _⟩ => ⟨v, h1, h2, h3⟩)
  have CR7 := Lib.hid (fun W g (h : IsReader W g S 0) => cRead7 W g (by rw [hb, hS]; exact h))
  have CR0 := Lib.hid (fun p W => cRead0 p W)
  have CLN := Lib.hid (fun W g B (h : IsWriter W g B b) => show Calls Try.prog 9 #[.pointer (some ⟨g, 0, none⟩)] W fun e w' => e = .returned (.int .i64 60) ∧ ∃ k, w' = W.drewN k from by
    have := wLen W g B b h
    rw [hbl] at this
    exact this)
  have CSZ := Lib.hid (fun W A (hi : IsInts W A [1, 1]) => show Calls Try.prog 10 #[.slice A 2 2] W fun e w' => e = .returned (.int .i64 60) ∧ Below W.heap.size W w' from by
    have := cSizeOk A 2 [1, 1] (by simp) (by decide) (by decide) W hi
    rw [hwl, hb, hbl] at this
    exact this)
  have CIN := Lib.hid (fun W v u (h1 : IsL W v [1, 1]) (h2 : IsL W u [1, 1]) => show Calls Try.prog 18 #[v, u] W fun e w' => e = .returned (.bool true) ∧ ∃ k, w' = W.drewN k from intsL h1 h2 true (by simp))
  have CPN := Lib.hid (fun (gw : Nat) W => cPutBad ⟨gw, 0, none⟩ (.slice none 0 0) 5 (by decide) W (cCheckLim none 0 0 (.inl rfl) (by decide) W))
  have CPS := Lib.hid (fun (gw : Nat) A W (hi : IsInts W A [16]) => show Calls Try.prog 8 #[.pointer (some ⟨gw, 0, none⟩), .slice A 1 1] W fun e w' => e = .returned (.int .i64 2) ∧ w' = W from cPutBad ⟨gw, 0, none⟩ (.slice A 1 1) 2 (by decide) W (cCheckIn A 1 [16] (by decide) (by decide) W hi 2 (by decide)))
  have CPZ := Lib.hid (fun a n c W => cPutNil a n c W)
  have I2 := Lib.hid i2
  have I16 := Lib.hid i16
  clear hwl hb hbl hS hsp
  go_enter Try.func5, Try.ntmps5
  go_wp2_with fail
  refine CN.out.mono ?_; rintro e w1 ⟨rfl, hw, hbw, hz, hf⟩
  have HW := Lib.hid (show Wr w.heap.size w w1 w.heap.size w.heap.size [] from ⟨hw, hbw, hf⟩)
  have hsz1 := hbw.size
  clear hw hbw hz hf CN
  go_wp2_with fail
  obtain ⟨gw, hgw⟩ : ∃ gw, w.heap.size = gw := ⟨_, rfl⟩
  have HI1 := Lib.hid (I2.out w1)
  have hba : Below w1.heap.size w1 (w1.alloc (.cells #[.int .i64 1, .int .i64 1] 3)) := (Below.refl _ _).alloc (Nat.le_refl _) _
  have HWa := Lib.hid (HW.out.below hba hsz1)
  rw [hgw] at HWa hsz1
  obtain ⟨wa, hwa⟩ : ∃ wa, w1.alloc (.cells #[.int .i64 1, .int .i64 1] 3) = wa := ⟨_, rfl⟩
  obtain ⟨ga, hga⟩ : ∃ ga, w1.heap.size = ga := ⟨_, rfl⟩
  have hsza := hba.size
  rw [hwa] at HI1 HWa hsza ⊢
  rw [hga] at HI1 hsza hsz1 ⊢
  rw [hgw]
  have HGW := Lib.hid hgw
  clear hwa hga hba HW hgw
  have hNa : gw ≤ wa.heap.size := by omega
  refine (CP.out wa gw gw _ HWa.out.wr HI1.out).mono ?_; rintro e w2 ⟨rfl, hp2⟩
  have HW2 := Lib.hid (HWa.out.pen hp2 hNa)
  have hN2 : gw ≤ w2.heap.size := Nat.le_trans hNa hp2.2.1.size
  clear hp2 HWa HI1 CP hsza hNa
  go_wp2_with fail
  refine (CB.out w2 gw gw HW2.out.wr).mono ?_; rintro e w3 ⟨rfl, hb3⟩
  go_wp2_with fail
  refine (CRN.out w3).mono ?_; rintro e w4 ⟨rfl, hr4, hb4, hz4⟩
  obtain ⟨g4, hg4⟩ : ∃ g4, w3.heap.size + 1 = g4 := ⟨_, rfl⟩
  rw [hg4] at hr4 ⊢
  have C5 := Lib.hid (CR2.out w4 g4 hr4)
  have HX4 := Lib.hid (And.intro hb3 (And.intro hb4 (And.intro hz4 hg4)))
  clear hr4 hb3 hb4 hz4 hg4 CR2
  go_wp2_with fail
  refine C5.out.mono ?_; rintro e w5 ⟨v5, rfl, hk5, ho5⟩
  obtain ⟨pv, cv, hv⟩ := OwnS.slice ho5
  have hv2 : v5 = .slice pv 2 cv := hv
  clear hv
  subst hv2
  have hb5 : Below w2.heap.size w2 w5 := HX4.out.1.trans ((HX4.out.2.1.trans (hk5.below (B := w3.heap.size) (fun k hk => ⟨by have := HX4.out.2.2.1; omega, fun e => by have := HX4.out.2.2.2; omega⟩))).mono HX4.out.1.size)
  have HW5 := Lib.hid (HW2.out.below hb5 hN2)
  have hN5 : gw ≤ w5.heap.size := Nat.le_trans hN2 hb5.size
  have HO5 := Lib.hid (ho5.base (B' := gw) (by have := HX4.out.2.1.size; have := HX4.out.1.size; omega))
  clear hk5 ho5 hb5 C5 HX4 HW2 hN2
  go_wp2_with fail
  refine (CB.out w5 gw gw HW5.out.wr).mono ?_; rintro e w6 ⟨rfl, hb6⟩
  go_wp2_with fail
  refine (CRN.out w6).mono ?_; rintro e w7 ⟨rfl, hr7, hb7, hz7⟩
  obtain ⟨g7, hg7⟩ : ∃ g7, w6.heap.size + 1 = g7 := ⟨_, rfl⟩
  rw [hg7] at hr7 ⊢
  have C8 := Lib.hid (CR7.out w7 g7 hr7)
  have HX7 := Lib.hid (And.intro hb6 (And.intro hb7 (And.intro hz7 hg7)))
  clear hr7 hb6 hb7 hz7 hg7 CR7
  go_wp2_with fail
  refine C8.out.mono ?_; rintro e w8 ⟨rfl, hk8⟩
  have hb8 : Below w5.heap.size w5 w8 := HX7.out.1.trans ((HX7.out.2.1.trans (hk8.below (B := w6.heap.size) (fun k hk => ⟨by have := HX7.out.2.2.1; omega, fun e => by have := HX7.out.2.2.2; omega⟩))).mono HX7.out.1.size)
  have HW8 := Lib.hid (HW5.out.below hb8 hN5)
  have hN8 : gw ≤ w8.heap.size := Nat.le_trans hN5 hb8.size
  have HO8 := Lib.hid (OwnS.kept HO5.out hb8)
  clear hk8 hb8 C8 HX7 HW5 hN5 HO5
  go_wp2_with fail
  refine (CB.out w8 gw gw HW8.out.wr).mono ?_; rintro e w9 ⟨rfl, hb9⟩
  have HW9 := Lib.hid (HW8.out.below hb9 hN8)
  have hN9 : gw ≤ w9.heap.size := Nat.le_trans hN8 hb9.size
  have HO9 := Lib.hid (OwnS.kept HO8.out hb9)
  clear hb9 HW8 hN8 HO8
  go_wp2_with fail
  refine (CRN.out w9).mono ?_; rintro e w10 ⟨rfl, hr10, hb10, hz10⟩
  have HW10 := Lib.hid (HW9.out.below hb10 hN9)
  have hN10 : gw ≤ w10.heap.size := Nat.le_trans hN9 hb10.size
  have HO10 := Lib.hid (OwnS.kept HO9.out hb10)
  clear hr10 hb10 hz10 HW9 hN9 HO9
  go_wp2_with fail
  refine (CR0.out _ w10).mono ?_; rintro e w11 ⟨rfl, hb11⟩
  have HW11 := Lib.hid (HW10.out.below hb11 hN10)
  have hN11 : gw ≤ w11.heap.size := Nat.le_trans hN10 hb11.size
  have HO11 := Lib.hid (OwnS.kept HO10.out hb11)
  clear hb11 HW10 hN10 HO10
  go_wp2_with fail
  refine (CLN.out w11 gw gw HW11.out.wr).mono ?_; rintro e w12 ⟨rfl, kk, h12⟩
  have hb12 : Below w11.heap.size w11 w12 := by rw [h12]; exact below_dn (Below.refl _ _) kk
  have HB12 := Lib.hid (HW11.out.old.trans (hb12.mono hN11))
  have hN12 : gw ≤ w12.heap.size := Nat.le_trans hN11 hb12.size
  have HO12 := Lib.hid (OwnS.kept HO11.out hb12)
  clear h12 hb12 HW11 hN11 HO11 CLN CB CRN CR0
  go_wp2_with fail
  have hb13 : Below w12.heap.size w12 (w12.alloc (.cells #[.int .i64 1, .int .i64 1] 3)) := (Below.refl _ _).alloc (Nat.le_refl _) _
  refine (CSZ.out _ _ (I2.out w12)).mono ?_; rintro e w14 ⟨rfl, hb14⟩
  have hb14 := hb13.trans (hb14.mono hb13.size)
  have HB14 := Lib.hid (HB12.out.trans (hb14.mono hN12))
  have hN14 : gw ≤ w14.heap.size := Nat.le_trans hN12 hb14.size
  have HO14 := Lib.hid (OwnS.kept HO12.out hb14)
  clear hb13 hb14 HB12 hN12 HO12 CSZ
  go_wp2_with fail
  have hb15 : Below w14.heap.size w14 (w14.alloc (.cells #[.int .i64 1, .int .i64 1] 3)) := (Below.refl _ _).alloc (Nat.le_refl _) _
  refine (CIN.out _ _ _ (OwnS.isL (OwnS.kept HO14.out hb15) (by decide)) ⟨_, 2, rfl, I2.out w14⟩).mono ?_; rintro e w16 ⟨rfl, k16, rfl⟩
  have HB16 := Lib.hid (HB14.out.trans ((below_dn hb15 k16).mono hN14))
  have hN16 : gw ≤ ((w14.alloc (.cells #[.int .i64 1, .int .i64 1] 3)).drewN k16).heap.size := by show gw ≤ (w14.alloc _).heap.size; exact Nat.le_trans hN14 hb15.size
  obtain ⟨wx, hwx⟩ : ∃ wx, (w14.alloc (.cells #[.int .i64 1, .int .i64 1] 3)).drewN k16 = wx := ⟨_, rfl⟩
  rw [hwx] at HB16 hN16 ⊢
  clear hwx hb15 HB14 hN14 HO14 CIN
  go_wp2_with fail
  refine (CPN.out gw wx).mono ?_; rintro e w17 ⟨rfl, h17⟩; rw [h17]; clear h17 w17
  go_wp2_with fail
  refine (CPS.out gw _ _ (I16.out wx)).mono ?_; rintro e w18 ⟨rfl, h18⟩; rw [h18]; clear h18 w18
  have HB18 := Lib.hid (HB16.out.trans ((Below.refl gw wx).alloc hN16 (.cells #[.int .i64 16] 3)))
  clear HB16
  go_wp2_with fail
  refine (CPZ.out _ _ _ _).mono ?_; rintro e w19 ⟨rfl, h19⟩; rw [h19]; clear h19 w19
  go_wp2_with fail
  go_ret
  exact ⟨rfl, by rw [HGW.out]; exact HB18.out⟩
end Go.Proofs.Ytopiiickeojpmaa

/- Layer 7: what lengths cost, by both; whether they may be. -/
namespace Go.Proofs.Ytopiiickeojpmaa
open Go.ChangeShapes Go.WideShapes Go.ChangeAt Go.RowKit
set_option linter.unusedVariables false
set_option linter.unusedSimpArgs false
set_option maxRecDepth 100000
open KraftMath Pm
theorem cst_bd (x y : Int) : 0 ≤ cst x y ∧ cst x y ≤ 68719476720 := by
  unfold cst
  split
  · rename_i h
    obtain ⟨a, b, c, d⟩ := h
    have h1 : 0 ≤ x * y := Int.mul_nonneg a c
    have h2 : x * y ≤ 4294967295 * 16 := Int.le_trans (Int.mul_le_mul_of_nonneg_right b c) (Int.mul_le_mul_of_nonneg_left d (by decide))
    omega
  · omega
theorem costS_bd (l o : List Int) : ∀ k : Nat, 0 ≤ sumN (fun i => cst (l.getD i 0) (o.getD i 0)) k ∧ sumN (fun i => cst (l.getD i 0) (o.getD i 0)) k ≤ 68719476720 * (k : Int)
  | 0 => by simp [sumN]
  | k + 1 => by
    have h := costS_bd l o k
    have h2 := cst_bd (l.getD k 0) (o.getD k 0)
    simp only [sumN]
    omega
set_option maxHeartbeats 3200000 in
theorem dCost (a b : Option Addr) (c d n m : Nat) (l o : List Int) (w : World) (hl : l.length = n) (hi : IsInts w a l) (hm : o.length = m) (hj : IsInts w b o) (hn : n ≤ 10000) :
    Calls Try.prog 20 #[.slice a n c, .slice b m d] w fun e w' => e = .returned (.int .i64 (costL l o)) ∧ ∃ k, w' = w.drewN k := by
  have hm46 : (m : Int) ≤ 70368744177664 := by have := hj.1; omega
  have HI := Lib.hid hi; have HJ := Lib.hid hj; have HL := Lib.hid hl; have HM := Lib.hid hm
  obtain ⟨K, hK⟩ : ∃ K, min n m = K := ⟨_, rfl⟩
  have HR := Lib.hid (show costL l o = sumN (fun i => cst (l.getD i 0) (o.getD i 0)) K by rw [costL_all, hl, hm, hK])
  obtain ⟨R, hR⟩ : ∃ R, costL l o = R := ⟨_, rfl⟩
  rw [hR] at HR ⊢
  have hKn : K ≤ n := by omega
  have hKm : K ≤ m := by omega
  have HK := Lib.hid hK
  have HBD := Lib.hid (costS_bd l o)
  clear hi hj hl hm hR hK
  go_enter Try.func20, Try.ntmps20
  go_wp2_with fail
  go_loopw [5, 6] (fun sv iv wr => ∃ (i : Nat) (s : Int), i ≤ K ∧ iv = .int .i64 i ∧ sv = .int .i64 s ∧ Hid (s = sumN (fun i => cst (l.getD i 0) (o.getD i 0)) i) ∧ ∃ q, wr = w.drewN q) (fun _ iv _ => K - (intOf iv).toNat)
  case atStart => exact ⟨0, 0, Nat.zero_le _, by go_num, by go_num, Lib.hid rfl, 0, rfl⟩
  case round =>
    obtain ⟨i, s, hiK, rfl, rfl, HS, q, rfl⟩ := hrel
    have hsb := HBD.out i
    rw [← HS.out] at hsb
    obtain ⟨sb1, sb2⟩ := hsb
    by_cases hlt : i < K
    · have hii : (i : Int) < K := by omega
      have hin2 : (i : Int) < n := by omega
      have him2 : (i : Int) < m := by omega
      obtain ⟨x, rfl, hxb, hc⟩ := HI.out.at i (by rw [HL.out]; omega)
      have cx := hc i (by rw [HL.out]; omega)
      obtain ⟨y, rfl, hyb, hcy⟩ := HJ.out.at i (by rw [HM.out]; omega)
      have cy := hcy i (by rw [HM.out]; omega)
      have hin : (i : Int) < n := by omega
      have him : (i : Int) < m := by omega
      have HS2 := Lib.hid (show s + cst (l.getD i 0) (o.getD i 0) = sumN (fun i => cst (l.getD i 0) (o.getD i 0)) (i + 1) by rw [sumN, HS.out])
      obtain ⟨u, hu⟩ : ∃ u, l.getD i 0 = u := ⟨_, rfl⟩
      obtain ⟨v, hv⟩ : ∃ v, o.getD i 0 = v := ⟨_, rfl⟩
      rw [hu] at cx HS2
      rw [hv] at cy HS2
      clear hc hcy hu hv
      by_cases g1 : ¬ (0 ≤ u)
      · have dg1 : decide (0 ≤ u) = false := decide_eq_false g1
        have HZ := Lib.hid (show cst u v = 0 from by unfold cst; rw [if_neg (by omega)])
        rw [HZ.out, Int.add_zero] at HS2
        go_wp2_with fail
        go_roundw
        case rel => exact ⟨i + 1, s, by omega, by go_num, by go_num, HS2, _, rfl⟩
        case measure => simp [intOf] <;> omega
      have g1 : 0 ≤ u := Classical.not_not.1 g1
      have dg1 : decide (0 ≤ u) = true := decide_eq_true g1
      by_cases g2 : ¬ (u ≤ 4294967295)
      · have dg2 : decide (u ≤ 4294967295) = false := decide_eq_false g2
        have HZ := Lib.hid (show cst u v = 0 from by unfold cst; rw [if_neg (by omega)])
        rw [HZ.out, Int.add_zero] at HS2
        go_wp2_with fail
        go_roundw
        case rel => exact ⟨i + 1, s, by omega, by go_num, by go_num, HS2, _, rfl⟩
        case measure => simp [intOf] <;> omega
      have g2 : u ≤ 4294967295 := Classical.not_not.1 g2
      have dg2 : decide (u ≤ 4294967295) = true := decide_eq_true g2
      by_cases g3 : ¬ (0 ≤ v)
      · have dg3 : decide (0 ≤ v) = false := decide_eq_false g3
        have HZ := Lib.hid (show cst u v = 0 from by unfold cst; rw [if_neg (by omega)])
        rw [HZ.out, Int.add_zero] at HS2
        go_wp2_with fail
        go_roundw
        case rel => exact ⟨i + 1, s, by omega, by go_num, by go_num, HS2, _, rfl⟩
        case measure => simp [intOf] <;> omega
      have g3 : 0 ≤ v := Classical.not_not.1 g3
      have dg3 : decide (0 ≤ v) = true := decide_eq_true g3
      by_cases g4 : ¬ (v ≤ 16)
      · have dg4 : decide (v ≤ 16) = false := decide_eq_false g4
        have HZ := Lib.hid (show cst u v = 0 from by unfold cst; rw [if_neg (by omega)])
        rw [HZ.out, Int.add_zero] at HS2
        go_wp2_with fail
        go_roundw
        case rel => exact ⟨i + 1, s, by omega, by go_num, by go_num, HS2, _, rfl⟩
        case measure => simp [intOf] <;> omega
      have g4 : v ≤ 16 := Classical.not_not.1 g4
      have dg4 : decide (v ≤ 16) = true := decide_eq_true g4
      have hp0 : 0 ≤ u * v := Int.mul_nonneg g1 g3
      have hp1 : u * v ≤ 68719476720 := by
        have := (cst_bd u v).2
        unfold cst at this
        rwa [if_pos ⟨g1, g2, g3, g4⟩] at this
      have HZ := Lib.hid (show cst u v = u * v from by unfold cst; rw [if_pos ⟨g1, g2, g3, g4⟩])
      rw [HZ.out] at HS2
      obtain ⟨P, hP⟩ : ∃ P, u * v = P := ⟨_, rfl⟩
      rw [hP] at hp0 hp1 HS2
      have wP : IntKind.i64.wrap P = P := IntWalk.i64_in _ (by omega)
      have wS : IntKind.i64.wrap (s + P) = s + P := IntWalk.i64_in _ (by omega)
      go_wp2_with fail
      go_region
      go_wp2_with fail
      go_roundw
      case rel => exact ⟨i + 1, s + P, by omega, by go_num, by go_num, HS2, _, rfl⟩
      case measure => simp [intOf] <;> omega
    · obtain rfl : K = i := by omega
      have HF := Lib.hid (show R = s by rw [HR.out, HS.out])
      by_cases hin : K < n
      · have hin1 : (K : Int) < n := by omega
        have him1 : ¬ (K : Int) < m := by have := HK.out; omega
        go_wp2_with fail
        go_ret
        exact ⟨ret_i HF.out.symm, _, rfl⟩
      · have hin1 : ¬ (K : Int) < n := by omega
        go_wp2_with fail
        go_ret
        exact ⟨ret_i HF.out.symm, _, rfl⟩
def mayB (l o : List Int) (L : Int) : Bool := decide (l.length = o.length) && decide (check o L = 0) && (List.range o.length).all (fun i => decide (0 < o.getD i 0) == decide (0 < l.getD i 0))
theorem mayB_iff (l o : List Int) (L : Int) : mayB l o L = true ↔ mayP l o L := by
  unfold mayB mayP
  simp only [Bool.and_eq_true, decide_eq_true_eq, List.all_eq_true, List.mem_range, beq_iff_eq, decide_eq_decide, and_assoc]
end Go.Proofs.Ytopiiickeojpmaa
