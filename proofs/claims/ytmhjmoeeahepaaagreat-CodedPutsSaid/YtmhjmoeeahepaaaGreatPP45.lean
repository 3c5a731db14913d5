import Derived.Test.YtmhjmoeeahepaaaGreatPP44
/- Layer 27: the law CodedPuts, tokens that may be written. -/
namespace Go.Proofs.YtmhjmoeeahepaaaGreat
open Go.ChangeShapes Go.WideShapes Go.ChangeAt Go.RowKit
set_option linter.unusedVariables false
set_option linter.unusedSimpArgs false
set_option maxRecDepth 100000
open Bits hiding packF pack_length
open RunsMath KraftMath CanonMath TurnMath Pm
set_option maxHeartbeats 6400000 in
theorem puts27_ok (a : Option Addr) (c n : Nat) (l : List Tk) (hl : l.length = n) (hn : n ≤ 80) (hk : Kt27 l) (w : World) (h : IsTk w a l) : Calls Tryz.prog 3 #[.slice a n c] w fun e w' => e = .returned (.bool true) ∧ Below w.heap.size w w' := by
  have T := hk.tabs
  have h0 : n ≠ 0 := by rw [← hl]; have := List.length_pos_iff.2 hk.some; omega
  have hM0 : tabM l ≠ [] := fun e => by have := T.lm; rw [e] at this; simp at this
  have hD0 : tabD l ≠ [] := fun e => by have := T.ld; rw [e] at this; simp at this
  have CP := Lib.hid (fun W (h : IsTk W a l) => cPutK a c n l W hl h h0 (by omega) hk.ok)
  have CT := Lib.hid (fun W (h : IsTk W a l) => show Calls Tryz.prog 7 #[.slice a n c] W fun e w' => ∃ u v, e = .returned (.tuple #[u, v, .int .i64 0]) ∧ OwnI W.heap.size w' u (tabM l) ∧ OwnI W.heap.size w' v (tabD l) ∧ Below W.heap.size W w' from cTabG a c n l W hl h (by omega) (tl l).1 (tl l).2 (by unfold frA; rw [if_pos hk.ok]) (tl_len l).1 (tl_len l).2)
  have CS := Lib.hid (fun W (h : IsTk W a l) => cSizeK a c n l W hl h h0 (by omega) hk.ok)
  have CA := Lib.hid awake27
  have CZM := Lib.hid (fun W a c (h : IsInts W a (tabM l)) => cSizeOk a c (tabM l) hM0 (by have := T.lm; omega) T.vM W h)
  have CZD := Lib.hid (fun W a c (h : IsInts W a (tabD l)) => cSizeOk a c (tabD l) hD0 (by have := T.ld; omega) T.vD W h)
  rw [T.lm] at CZM
  rw [T.ld] at CZD
  have CB := Lib.hid (fun W => dBits ⟨(bytesK l).toArray⟩ (by rw [str_size]; have := hk.size; omega) W)
  rw [str_list] at CB
  have COne := Lib.hid (fun W t (ht : t ∈ l) aM aD cM cD (h1 : IsInts W aM (tabM l)) (h2 : IsInts W aD (tabD l)) => dOne27 T t ht (hk.ok t ht) aM aD cM cD W h1 h2)
  have HFEW := Lib.hid (toks_few T hk.ok)
  have HFAR := Lib.hid (anyD_far hk)
  have hLM := T.lm
  have hLD := T.ld
  have HT := Lib.hid h
  have HL := Lib.hid hl
  obtain ⟨S, hS⟩ : ∃ S : ByteArray, ⟨(bytesK l).toArray⟩ = S := ⟨_, rfl⟩
  rw [hS] at CP CB
  obtain ⟨kp, hkp, hsp⟩ := bytesK_spread l
  rw [bitsK_eq] at hsp CS
  have HSP := Lib.hid hsp
  have hfwM := tabB_few hM0 (by omega) T.vM
  have hfwD := tabB_few hD0 (by omega) T.vD
  obtain ⟨M, hM⟩ : ∃ M, tabM l = M := ⟨_, rfl⟩
  obtain ⟨D, hD⟩ : ∃ D, tabD l = D := ⟨_, rfl⟩
  rw [hM, hD] at HFEW
  rw [hM] at CT CZM hLM COne HSP CS hfwM
  rw [hD] at CT CZD hLD COne HFAR HSP CS hfwD
  have HHL := Lib.hid (show (headsB (farB l) M D).length = (tabB M).length + 1 + (if farB l then (tabB D).length else 0) from by
    unfold headsB
    rw [List.length_append]
    cases farB l
    · simp
    · simp; omega)
  change Hid (∀ W a c, _ → Calls Tryz.prog _ _ W fun e w' => e = .returned (.int .i64 ((tabB M).length : Nat)) ∧ _) at CZM
  change Hid (∀ W a c, _ → Calls Tryz.prog _ _ W fun e w' => e = .returned (.int .i64 ((tabB D).length : Nat)) ∧ _) at CZD
  obtain ⟨zM, hzM⟩ : ∃ z, (tabB M).length = z := ⟨_, rfl⟩
  obtain ⟨zD, hzD⟩ : ∃ z, (tabB D).length = z := ⟨_, rfl⟩
  rw [hzM] at CZM HHL hfwM
  rw [hzD] at CZD HHL hfwD
  obtain ⟨H, hH⟩ : ∃ H, headsB (farB l) M D = H := ⟨_, rfl⟩
  rw [hH] at HSP CS HHL
  obtain ⟨F, hF⟩ : ∃ F, farB l = F := ⟨_, rfl⟩
  rw [hF] at HFAR HHL
  obtain ⟨A, hA⟩ : ∃ A, spread (bytesK l) = A := ⟨_, rfl⟩
  rw [hA] at CB HSP
  have h80 : ¬ (80 : Int) < (n : Int) := by omega
  have hnb : ((n : Int) == 0) = false := by rw [beq_eq_false_iff_ne]; omega
  clear hl h hk T hM0 hD0 hS hsp hM hD hzM hzD hH hF hA
  go_enter Tryz.func3, Tryz.ntmps3
  go_wp2_with fail
  refine (CP.out w HT.out).mono ?_; rintro e w1 ⟨rfl, hb1⟩
  have HB := Lib.hid hb1
  have HT := Lib.hid (HT.out.kept hb1)
  clear hb1 CP
  go_wp2_with fail
  refine (CT.out w1 HT.out).mono ?_; rintro e w2 ⟨u, v, rfl, hu, hv, hb2⟩
  obtain ⟨gM, cM, rfl, -, -, hiM⟩ := own_slI hu (by omega) (by omega)
  obtain ⟨gD, cD, rfl, -, -, hiD⟩ := own_slI hv (by omega) (by omega)
  rw [hLM, hLD]
  obtain ⟨aM, haM⟩ : ∃ x : Addr, ⟨gM, 0, none⟩ = x := ⟨_, rfl⟩
  obtain ⟨aD, haD⟩ : ∃ x : Addr, ⟨gD, 0, none⟩ = x := ⟨_, rfl⟩
  rw [haM] at hiM ⊢
  rw [haD] at hiD ⊢
  clear haM haD
  have HM := Lib.hid hiM
  have HD := Lib.hid hiD
  have HB := Lib.hid (HB.out.trans (hb2.mono HB.out.size))
  have HT := Lib.hid (HT.out.kept hb2)
  clear hb2 hu hv hiM hiD CT
  go_wp2_with fail
  refine (CZM.out w2 _ _ HM.out).mono ?_; rintro e w3 ⟨rfl, hb3⟩
  have HM := Lib.hid (HM.out.kept hb3)
  have HD := Lib.hid (HD.out.kept hb3)
  have HB := Lib.hid (HB.out.trans (hb3.mono HB.out.size))
  have HT := Lib.hid (HT.out.kept hb3)
  clear hb3 CZM
  obtain ⟨n1, hn1⟩ : ∃ n1, zM + 1 = n1 := ⟨_, rfl⟩
  rw [hn1] at HHL
  have hwz : IntKind.i64.wrap ((zM : Int) + 1) = (n1 : Int) := by rw [IntKind.wrap_i64]; omega
  have hn1b : n1 ≤ 14398 := by omega
  obtain ⟨nh, hnh⟩ : ∃ nh, H.length = nh := ⟨_, rfl⟩
  rw [hnh] at HHL
  have HNH := Lib.hid hnh
  clear hnh hn1
  go_wp2_with fail
  go_loopw [9, 10] (fun fv iv wr => ∃ k : Nat, k ≤ 52 ∧ iv = .int .i64 k ∧ fv = .bool (anyD D k) ∧ wr = w3) (fun _ iv _ => 52 - (intOf iv).toNat)
  case atStart => exact ⟨0, by decide, rfl, rfl, rfl⟩
  case round =>
    obtain ⟨k, hk, rfl, rfl, rfl⟩ := hrel
    by_cases hlt : k < 52
    · obtain ⟨x, hx, hxl, hc⟩ := HD.out.at k (by omega)
      injection hx with hx
      subst hx
      have ck := hc k (by omega)
      have hnx := anyD_next D k (by omega)
      obtain ⟨dk, hdk⟩ : ∃ dk, D.getD k 0 = dk := ⟨_, rfl⟩
      rw [hdk] at ck hnx
      have hki : (k : Int) < 52 := by omega
      clear hc hdk
      cases hany : anyD D k with
      | true =>
        rw [hany, Bool.true_or] at hnx
        have HNX := Lib.hid hnx
        clear hnx hany
        go_wp2_with fail
        go_roundw
        case rel => exact ⟨k + 1, by omega, by go_num, by rw [HNX.out], trivial⟩
        case measure => simp [intOf]; omega
      | false =>
        rw [hany, Bool.false_or] at hnx
        have HNX := Lib.hid hnx
        clear hnx hany
        go_wp2_with fail
        go_roundw
        case rel => exact ⟨k + 1, by omega, by go_num, by rw [HNX.out], trivial⟩
        case measure => simp [intOf]; omega
    · obtain rfl : k = 52 := by omega
      rw [HFAR.out]
      obtain ⟨Z52, hZ1, hZ2⟩ : ∃ Z : Int, ((52 : Nat) : Int) = Z ∧ Z = 52 := ⟨_, rfl, rfl⟩
      rw [hZ1]
      have hz3 : ¬ Z52 < 52 := by omega
      clear hZ1 hZ2
      cases F with
      | true =>
        have hnn : n1 + zD = nh := HHL.out.symm
        have hwn : IntKind.i64.wrap ((n1 : Int) + (zD : Int)) = (nh : Int) := by rw [IntKind.wrap_i64]; omega
        have hnb2 : nh ≤ 30000 := by omega
        clear hnn HHL hwz
        go_wp2_with fail
        refine (CZD.out wr _ _ HD.out).mono ?_; rintro e w4 ⟨rfl, hb4⟩
        have HM := Lib.hid (HM.out.kept hb4)
        have HD := Lib.hid (HD.out.kept hb4)
        have HB := Lib.hid (HB.out.trans (hb4.mono HB.out.size))
        have HT := Lib.hid (HT.out.kept hb4)
        clear hb4 CZD
        go_wp2_with fail
        obtain ⟨D0, hD0⟩ : ∃ D0, w4.heap.size = D0 := ⟨_, rfl⟩
        have HD0 := Lib.hid hD0
        have HBR := Lib.hid (show Below D0 w4 w4 from Below.refl _ _)
        have hDD : D0 ≤ w4.heap.size := by rw [hD0]; exact Nat.le_refl _
        clear hD0
        go_loopw [11, 12] (fun bv iv wr => ∃ k : Nat, k ≤ n ∧ iv = .int .i64 k ∧ Hid (OwnB D0 wr bv ((l.take k).flatMap (tokB M D))) ∧ D0 ≤ wr.heap.size ∧ Hid (Below D0 w4 wr)) (fun _ iv _ => n - (intOf iv).toNat)
        case atStart => exact ⟨0, Nat.zero_le _, rfl, Lib.hid OwnS.nil, hDD, HBR⟩
        case round =>
          clear HBR hDD
          obtain ⟨k, hk2, rfl, ho, hDr, hbr⟩ := hrel
          by_cases hlt2 : k < n
          · have HB5 := Lib.hid (show Below w4.heap.size w4 wr by rw [HD0.out]; exact hbr.out)
            have HM5 := Lib.hid (HM.out.kept HB5.out)
            have HD5 := Lib.hid (HD.out.kept HB5.out)
            have hkl : k < l.length := by rw [HL.out]; exact hlt2
            obtain ⟨x, hx, -, hc⟩ := (HT.out.kept HB5.out).at k hkl
            subst hx
            have ht := List.getElem_mem hkl
            have hnx : (l.take (k + 1)).flatMap (tokB M D) = (l.take k).flatMap (tokB M D) ++ tokB M D l[k] := by
              rw [List.take_succ_eq_append_getElem hkl, List.flatMap_append, List.flatMap_cons, List.flatMap_nil, List.append_nil]
            have hfw := HFEW.out (k + 1) (by omega)
            have C1 := Lib.hid (fun W h1 h2 => COne.out W l[k] ht (some aM) (some aD) cM cD h1 h2)
            obtain ⟨t, htt⟩ : ∃ t, l[k] = t := ⟨_, rfl⟩
            rw [htt] at hc hnx C1
            obtain ⟨tB, htB⟩ : ∃ b, tokB M D t = b := ⟨_, rfl⟩
            rw [htB] at hnx C1
            obtain ⟨bk, hbk⟩ : ∃ b, (l.take k).flatMap (tokB M D) = b := ⟨_, rfl⟩
            rw [hbk] at hnx ho
            rw [hnx, List.length_append] at hfw
            have HNX := Lib.hid hnx
            have HSS := Lib.hid (show bk.length + tB.length ≤ 1000000 by omega)
            obtain ⟨tk, tb, tn, td, tr⟩ := t
            obtain ⟨x0, x1, x2, x3, x4⟩ := hc
            simp only at x0 x1 x2 x3 x4 C1
            have hki : (k : Int) < (n : Int) := by omega
            clear ht htt htB hbk hnx hkl hfw
            go_wp2_with fail
            refine (C1.out wr HM5.out HD5.out).mono ?_; rintro e w5 ⟨v5, rfl, ho5, hb5⟩
            obtain ⟨va, vc, rfl, -, hbo⟩ := OwnB.boo ho5
            have HBO := Lib.hid hbo
            have HO5 := Lib.hid (OwnS.kept ho.out hb5)
            have HBR5 := Lib.hid (hbr.out.trans (hb5.mono hDr))
            have HDR5 := Lib.hid (Nat.le_trans hDr hb5.size)
            clear ho5 hb5 hbo C1 ho hbr HM5 HD5 HB5 hDr x0 x1 x2 x3 x4
            go_wp2_with (at_builtin; refine app_rowB27 rfl (.tmp 94) (.tmp 101) rfl D0 _ _ tB rfl HO5.out va tB.length vc rfl rfl HBO.out HSS.out HDR5.out ?_; intro v6 w6 ho6 hb6; have HO6 := Lib.hid ho6; have HBR6 := Lib.hid (HBR5.out.trans hb6); have hD6 := Nat.le_trans HDR5.out hb6.size; clear ho6 hb6)
            go_roundw
            case rel => exact ⟨k + 1, by omega, by go_num, by rw [HNX.out]; exact HO6, hD6, HBR6⟩
            case measure => simp [intOf]; omega
          · obtain rfl : k = n := by omega
            have hot := ho.out
            rw [List.take_of_length_le (by rw [HL.out]; exact Nat.le_refl _)] at hot
            have hfw := HFEW.out k (by rw [HL.out]; exact Nat.le_refl _)
            rw [List.take_of_length_le (by rw [HL.out]; exact Nat.le_refl _)] at hfw
            obtain ⟨TB, hTB⟩ : ∃ TB, l.flatMap (tokB M D) = TB := ⟨_, rfl⟩
            have hsp2 := HSP.out
            have cs2 := CS.out
            rw [hTB] at hot hfw hsp2 cs2
            obtain ⟨ab, cb, hbv, hcb, hib⟩ := OwnB.boo hot
            obtain ⟨nt, hnt⟩ : ∃ nt, TB.length = nt := ⟨_, rfl⟩
            have hal := congrArg List.length hsp2
            rw [List.length_append, List.length_append, List.length_replicate, HNH.out, hnt] at hal
            obtain ⟨na, hna⟩ : ∃ na, A.length = na := ⟨_, rfl⟩
            rw [hna] at hal
            have HAL := Lib.hid hal
            clear hal
            have HAT := Lib.hid (fun j (hj : j < nt + kp) => show A.getD (nh + j) false = (decide (j < nt) && TB.getD j false) from by
              rw [hsp2, List.append_assoc, List.getD_eq_getElem?_getD, List.getElem?_append_right (by rw [HNH.out]; omega), HNH.out, Nat.add_sub_cancel_left]
              by_cases hjt : j < nt
              · rw [List.getElem?_append_left (by omega), decide_eq_true hjt, Bool.true_and, List.getD_eq_getElem?_getD]
              · rw [List.getElem?_append_right (by omega), List.getElem?_replicate, if_pos (by omega), decide_eq_false hjt, Bool.false_and]; rfl)
            have HNT := Lib.hid hnt
            have HNA := Lib.hid hna
            have CSS := Lib.hid cs2
            rw [hnt] at hbv hcb hfw
            subst hbv
            have HBI := Lib.hid hib
            have HB5 := Lib.hid (show Below w4.heap.size w4 wr by rw [HD0.out]; exact hbr.out)
            have HT5 := Lib.hid (HT.out.kept HB5.out)
            have HBW := Lib.hid (HB.out.trans (HB5.out.mono HB.out.size))
            have hlen2 : ((H ++ TB).length : Int) = (nh : Int) + (nt : Int) := by rw [List.length_append, HNH.out, hnt]; omega
            rw [hlen2] at CSS
            clear hot hTB hsp2 cs2 hib hnt hna hlen2 HSP CS ho hbr HB5 HD0 HFEW COne hDr
            go_wp2_with fail
            refine (CB.out wr).mono ?_; rintro e w5 ⟨va, rfl, hoA, hb5⟩
            obtain ⟨aa, ca, hav, hca, hia⟩ := OwnB.boo hoA
            rw [HNA.out] at hav hca
            subst hav
            have HA := Lib.hid hia
            have HBI := Lib.hid (HBI.out.kept hb5)
            have HT5 := Lib.hid (HT5.out.kept hb5)
            have HBW := Lib.hid (HBW.out.trans (hb5.mono HBW.out.size))
            clear hoA hb5 hia CB
            go_wp2_with fail
            refine (CSS.out w5 HT5.out).mono ?_; rintro e w6 ⟨rfl, hb6⟩
            have HA := Lib.hid (HA.out.kept hb6)
            have HBI := Lib.hid (HBI.out.kept hb6)
            have HBW := Lib.hid (HBW.out.trans (hb6.mono HBW.out.size))
            have hna1 : na ≤ 100000 := by have := HAL.out; omega
            have hw1 : IntKind.i64.wrap ((nh : Int) + (nt : Int)) = (nh : Int) + nt := by rw [IntKind.wrap_i64]; omega
            have hw2 : IntKind.i64.wrap ((na : Int) - (nh : Int)) = ((nt + kp : Nat) : Int) := by have := HAL.out; rw [IntKind.wrap_i64]; omega
            have hw3 : IntKind.i64.wrap (((nt + kp : Nat) : Int) - (nt : Int)) = (kp : Int) := by rw [IntKind.wrap_i64]; omega
            have hd1 : ¬ (na : Int) < (nh : Int) + (nt : Int) := by have := HAL.out; omega
            have hd2 : ¬ (7 : Int) < (kp : Int) := by omega
            obtain ⟨nr, hnr⟩ : ∃ nr, nt + kp = nr := ⟨_, rfl⟩
            rw [hnr] at hw2 hw3 HAT
            have hnrb : nr ≤ 20000 := by omega
            have HNAR := Lib.hid (show na = nh + nr by have := HAL.out; omega)
            clear hb6 CSS HT5 HAL hnr
            go_wp2_with fail
            go_loopw [14] (fun iv wr => ∃ j : Nat, j ≤ nr ∧ iv = .int .i64 j ∧ ∃ q, wr = w6.drewN q) (fun iv _ => nr - (intOf iv).toNat)
            case atStart => exact ⟨0, Nat.zero_le _, rfl, 0, rfl⟩
            case round =>
              obtain ⟨j, hj, rfl, q, rfl⟩ := hrel
              by_cases hjr : j < nr
              · obtain ⟨J, hJ⟩ : ∃ J, nh + j = J := ⟨_, rfl⟩
                obtain ⟨xa, hxa, -, hca2⟩ := HA.out.at J (by rw [HNA.out]; have := HNAR.out; omega)
                subst hxa
                have hat := HAT.out j hjr
                rw [hJ] at hat
                rw [hat] at hca2
                have hwJ : IntKind.i64.wrap ((nh : Int) + (j : Int)) = (J : Int) := by rw [IntKind.wrap_i64]; omega
                have hJn : (J : Int) < (na : Int) := by have := HNAR.out; omega
                have hjri : (j : Int) < (nr : Int) := by omega
                clear hat hJ
                by_cases hjt : j < nt
                · obtain ⟨xb, hxb, -, hcb2⟩ := HBI.out.at j (by rw [HNT.out]; exact hjt)
                  subst hxb
                  rw [decide_eq_true hjt, Bool.true_and] at hca2
                  obtain ⟨B, hBB⟩ : ∃ B, TB.getD j false = B := ⟨_, rfl⟩
                  rw [hBB] at hca2 hcb2
                  have hjti : (j : Int) < (nt : Int) := by omega
                  clear hBB
                  go_wp2
                  go_region
                  all_goals go_wp2
                  go_roundw
                  case rel => exact ⟨j + 1, by omega, by go_num, _, rfl⟩
                  case measure => simp [intOf]; omega
                · rw [decide_eq_false hjt, Bool.false_and] at hca2
                  have hjti : ¬ (j : Int) < (nt : Int) := by omega
                  go_wp2
                  go_region
                  all_goals go_wp2
                  go_roundw
                  case rel => exact ⟨j + 1, by omega, by go_num, _, rfl⟩
                  case measure => simp [intOf]; omega
              · have hjri : ¬ (j : Int) < (nr : Int) := by omega
                have HBQ := Lib.hid (below_dn HBW.out q)
                obtain ⟨w7, hw7⟩ : ∃ w7, w6.drewN q = w7 := ⟨_, rfl⟩
                rw [hw7] at HBQ ⊢
                clear hw7 HBW
                go_wp2_with fail
                refine (CA.out w7).mono ?_; rintro e w8 ⟨rfl, hb8⟩
                have HBE := Lib.hid (HBQ.out.trans (hb8.mono HBQ.out.size))
                clear hb8 HBQ
                go_wp2_with fail
                go_ret
                exact ⟨rfl, HBE.out⟩
      | false =>
        have hnn : n1 = nh := by have := HHL.out; simpa using this.symm
        subst hnn
        have hnb2 : n1 ≤ 30000 := by omega
        clear HHL hwz CZD
        go_wp2_with fail
        obtain ⟨w4, hw4⟩ : ∃ w4, w4 = wr := ⟨_, rfl⟩
        subst hw4
        obtain ⟨D0, hD0⟩ : ∃ D0, w4.heap.size = D0 := ⟨_, rfl⟩
        have HD0 := Lib.hid hD0
        have HBR := Lib.hid (show Below D0 w4 w4 from Below.refl _ _)
        have hDD : D0 ≤ w4.heap.size := by rw [hD0]; exact Nat.le_refl _
        clear hD0
        go_loopw [11, 12] (fun bv iv wr => ∃ k : Nat, k ≤ n ∧ iv = .int .i64 k ∧ Hid (OwnB D0 wr bv ((l.take k).flatMap (tokB M D))) ∧ D0 ≤ wr.heap.size ∧ Hid (Below D0 w4 wr)) (fun _ iv _ => n - (intOf iv).toNat)
        case atStart => exact ⟨0, Nat.zero_le _, rfl, Lib.hid OwnS.nil, hDD, HBR⟩
        case round =>
          clear HBR hDD
          obtain ⟨k, hk2, rfl, ho, hDr, hbr⟩ := hrel
          by_cases hlt2 : k < n
          · have HB5 := Lib.hid (show Below w4.heap.size w4 wr by rw [HD0.out]; exact hbr.out)
            have HM5 := Lib.hid (HM.out.kept HB5.out)
            have HD5 := Lib.hid (HD.out.kept HB5.out)
            have hkl : k < l.length := by rw [HL.out]; exact hlt2
            obtain ⟨x, hx, -, hc⟩ := (HT.out.kept HB5.out).at k hkl
            subst hx
            have ht := List.getElem_mem hkl
            have hnx : (l.take (k + 1)).flatMap (tokB M D) = (l.take k).flatMap (tokB M D) ++ tokB M D l[k] := by
              rw [List.take_succ_eq_append_getElem hkl, List.flatMap_append, List.flatMap_cons, List.flatMap_nil, List.append_nil]
            have hfw := HFEW.out (k + 1) (by omega)
            have C1 := Lib.hid (fun W h1 h2 => COne.out W l[k] ht (some aM) (some aD) cM cD h1 h2)
            obtain ⟨t, htt⟩ : ∃ t, l[k] = t := ⟨_, rfl⟩
            rw [htt] at hc hnx C1
            obtain ⟨tB, htB⟩ : ∃ b, tokB M D t = b := ⟨_, rfl⟩
            rw [htB] at hnx C1
            obtain ⟨bk, hbk⟩ : ∃ b, (l.take k).flatMap (tokB M D) = b := ⟨_, rfl⟩
            rw [hbk] at hnx ho
            rw [hnx, List.length_append] at hfw
            have HNX := Lib.hid hnx
            have HSS := Lib.hid (show bk.length + tB.length ≤ 1000000 by omega)
            obtain ⟨tk, tb, tn, td, tr⟩ := t
            obtain ⟨x0, x1, x2, x3, x4⟩ := hc
            simp only at x0 x1 x2 x3 x4 C1
            have hki : (k : Int) < (n : Int) := by omega
            clear ht htt htB hbk hnx hkl hfw
            go_wp2_with fail
            refine (C1.out wr HM5.out HD5.out).mono ?_; rintro e w5 ⟨v5, rfl, ho5, hb5⟩
            obtain ⟨va, vc, rfl, -, hbo⟩ := OwnB.boo ho5
            have HBO := Lib.hid hbo
            have HO5 := Lib.hid (OwnS.kept ho.out hb5)
            have HBR5 := Lib.hid (hbr.out.trans (hb5.mono hDr))
            have HDR5 := Lib.hid (Nat.le_trans hDr hb5.size)
            clear ho5 hb5 hbo C1 ho hbr HM5 HD5 HB5 hDr x0 x1 x2 x3 x4
            go_wp2_with (at_builtin; refine app_rowB27 rfl (.tmp 94) (.tmp 101) rfl D0 _ _ tB rfl HO5.out va tB.length vc rfl rfl HBO.out HSS.out HDR5.out ?_; intro v6 w6 ho6 hb6; have HO6 := Lib.hid ho6; have HBR6 := Lib.hid (HBR5.out.trans hb6); have hD6 := Nat.le_trans HDR5.out hb6.size; clear ho6 hb6)
            go_roundw
            case rel => exact ⟨k + 1, by omega, by go_num, by rw [HNX.out]; exact HO6, hD6, HBR6⟩
            case measure => simp [intOf]; omega
          · obtain rfl : k = n := by omega
            have hot := ho.out
            rw [List.take_of_length_le (by rw [HL.out]; exact Nat.le_refl _)] at hot
            have hfw := HFEW.out k (by rw [HL.out]; exact Nat.le_refl _)
            rw [List.take_of_length_le (by rw [HL.out]; exact Nat.le_refl _)] at hfw
            obtain ⟨TB, hTB⟩ : ∃ TB, l.flatMap (tokB M D) = TB := ⟨_, rfl⟩
            have hsp2 := HSP.out
            have cs2 := CS.out
            rw [hTB] at hot hfw hsp2 cs2
            obtain ⟨ab, cb, hbv, hcb, hib⟩ := OwnB.boo hot
            obtain ⟨nt, hnt⟩ : ∃ nt, TB.length = nt := ⟨_, rfl⟩
            have hal := congrArg List.length hsp2
            rw [List.length_append, List.length_append, List.length_replicate, HNH.out, hnt] at hal
            obtain ⟨na, hna⟩ : ∃ na, A.length = na := ⟨_, rfl⟩
            rw [hna] at hal
            have HAL := Lib.hid hal
            clear hal
            have HAT := Lib.hid (fun j (hj : j < nt + kp) => show A.getD (n1 + j) false = (decide (j < nt) && TB.getD j false) from by
              rw [hsp2, List.append_assoc, List.getD_eq_getElem?_getD, List.getElem?_append_right (by rw [HNH.out]; omega), HNH.out, Nat.add_sub_cancel_left]
              by_cases hjt : j < nt
              · rw [List.getElem?_append_left (by omega), decide_eq_true hjt, Bool.true_and, List.getD_eq_getElem?_getD]
              · rw [List.getElem?_append_right (by omega), List.getElem?_replicate, if_pos (by omega), decide_eq_false hjt, Bool.false_and]; rfl)
            have HNT := Lib.hid hnt
            have HNA := Lib.hid hna
            have CSS := Lib.hid cs2
            rw [hnt] at hbv hcb hfw
            subst hbv
            have HBI := Lib.hid hib
            have HB5 := Lib.hid (show Below w4.heap.size w4 wr by rw [HD0.out]; exact hbr.out)
            have HT5 := Lib.hid (HT.out.kept HB5.out)
            have HBW := Lib.hid (HB.out.trans (HB5.out.mono HB.out.size))
            have hlen2 : ((H ++ TB).length : Int) = (n1 : Int) + (nt : Int) := by rw [List.length_append, HNH.out, hnt]; omega
            rw [hlen2] at CSS
            clear hot hTB hsp2 cs2 hib hnt hna hlen2 HSP CS ho hbr HB5 HD0 HFEW COne hDr
            go_wp2_with fail
            refine (CB.out wr).mono ?_; rintro e w5 ⟨va, rfl, hoA, hb5⟩
            obtain ⟨aa, ca, hav, hca, hia⟩ := OwnB.boo hoA
            rw [HNA.out] at hav hca
            subst hav
            have HA := Lib.hid hia
            have HBI := Lib.hid (HBI.out.kept hb5)
            have HT5 := Lib.hid (HT5.out.kept hb5)
            have HBW := Lib.hid (HBW.out.trans (hb5.mono HBW.out.size))
            clear hoA hb5 hia CB
            go_wp2_with fail
            refine (CSS.out w5 HT5.out).mono ?_; rintro e w6 ⟨rfl, hb6⟩
            have HA := Lib.hid (HA.out.kept hb6)
            have HBI := Lib.hid (HBI.out.kept hb6)
            have HBW := Lib.hid (HBW.out.trans (hb6.mono HBW.out.size))
            have hna1 : na ≤ 100000 := by have := HAL.out; omega
            have hw1 : IntKind.i64.wrap ((n1 : Int) + (nt : Int)) = (n1 : Int) + nt := by rw [IntKind.wrap_i64]; omega
            have hw2 : IntKind.i64.wrap ((na : Int) - (n1 : Int)) = ((nt + kp : Nat) : Int) := by have := HAL.out; rw [IntKind.wrap_i64]; omega
            have hw3 : IntKind.i64.wrap (((nt + kp : Nat) : Int) - (nt : Int)) = (kp : Int) := by rw [IntKind.wrap_i64]; omega
            have hd1 : ¬ (na : Int) < (n1 : Int) + (nt : Int) := by have := HAL.out; omega
            have hd2 : ¬ (7 : Int) < (kp : Int) := by omega
            obtain ⟨nr, hnr⟩ : ∃ nr, nt + kp = nr := ⟨_, rfl⟩
            rw [hnr] at hw2 hw3 HAT
            have hnrb : nr ≤ 20000 := by omega
            have HNAR := Lib.hid (show na = n1 + nr by have := HAL.out; omega)
            clear hb6 CSS HT5 HAL hnr
            go_wp2_with fail
            go_loopw [14] (fun iv wr => ∃ j : Nat, j ≤ nr ∧ iv = .int .i64 j ∧ ∃ q, wr = w6.drewN q) (fun iv _ => nr - (intOf iv).toNat)
            case atStart => exact ⟨0, Nat.zero_le _, rfl, 0, rfl⟩
            case round =>
              obtain ⟨j, hj, rfl, q, rfl⟩ := hrel
              by_cases hjr : j < nr
              · obtain ⟨J, hJ⟩ : ∃ J, n1 + j = J := ⟨_, rfl⟩
                obtain ⟨xa, hxa, -, hca2⟩ := HA.out.at J (by rw [HNA.out]; have := HNAR.out; omega)
                subst hxa
                have hat := HAT.out j hjr
                rw [hJ] at hat
                rw [hat] at hca2
                have hwJ : IntKind.i64.wrap ((n1 : Int) + (j : Int)) = (J : Int) := by rw [IntKind.wrap_i64]; omega
                have hJn : (J : Int) < (na : Int) := by have := HNAR.out; omega
                have hjri : (j : Int) < (nr : Int) := by omega
                clear hat hJ
                by_cases hjt : j < nt
                · obtain ⟨xb, hxb, -, hcb2⟩ := HBI.out.at j (by rw [HNT.out]; exact hjt)
                  subst hxb
                  rw [decide_eq_true hjt, Bool.true_and] at hca2
                  obtain ⟨B, hBB⟩ : ∃ B, TB.getD j false = B := ⟨_, rfl⟩
                  rw [hBB] at hca2 hcb2
                  have hjti : (j : Int) < (nt : Int) := by omega
                  clear hBB
                  go_wp2
                  go_region
                  all_goals go_wp2
                  go_roundw
                  case rel => exact ⟨j + 1, by omega, by go_num, _, rfl⟩
                  case measure => simp [intOf]; omega
                · rw [decide_eq_false hjt, Bool.false_and] at hca2
                  have hjti : ¬ (j : Int) < (nt : Int) := by omega
                  go_wp2
                  go_region
                  all_goals go_wp2
                  go_roundw
                  case rel => exact ⟨j + 1, by omega, by go_num, _, rfl⟩
                  case measure => simp [intOf]; omega
              · have hjri : ¬ (j : Int) < (nr : Int) := by omega
                have HBQ := Lib.hid (below_dn HBW.out q)
                obtain ⟨w7, hw7⟩ : ∃ w7, w6.drewN q = w7 := ⟨_, rfl⟩
                rw [hw7] at HBQ ⊢
                clear hw7 HBW
                go_wp2_with fail
                refine (CA.out w7).mono ?_; rintro e w8 ⟨rfl, hb8⟩
                have HBE := Lib.hid (HBQ.out.trans (hb8.mono HBQ.out.size))
                clear hb8 HBQ
                go_wp2_with fail
                go_ret
                exact ⟨rfl, HBE.out⟩
theorem puts27_walk (a : Option Addr) (c n : Nat) (l : List Tk) (hl : l.length = n) (w : World) (h : IsTk w a l) :
    Calls Tryz.prog 3 #[.slice a n c] w fun e w' => e = .returned (.bool true) ∧ Below w.heap.size w w' := by
  by_cases h80 : 80 < n
  · have h80i : (80 : Int) < (n : Int) := by omega
    have CA := Lib.hid awake27
    clear h
    go_enter Tryz.func3, Tryz.ntmps3
    go_wp2_with fail
    refine (CA.out w).mono ?_; rintro e w2 ⟨rfl, hb⟩
    have HB := Lib.hid hb
    clear hb
    go_wp2_with fail
    go_ret
    exact ⟨rfl, HB.out⟩
  · by_cases h0 : n = 0
    · subst h0
      exact puts27_none a c w
    · by_cases hok : ∀ t ∈ l, t.ok
      · exact puts27_ok a c n l hl (by omega) ⟨fun e => h0 (by rw [← hl, e]; rfl), by omega, hok⟩ w h
      · exact puts27_bad a c n l hl h0 (by omega) hok w h
end Go.Proofs.YtmhjmoeeahepaaaGreat
