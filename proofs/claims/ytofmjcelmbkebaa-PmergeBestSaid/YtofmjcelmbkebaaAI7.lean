/- Layer 7: Lengths of two symbols and more. -/
import Derived.Test.YtofmjcelmbkebaaAI6
namespace Go.Proofs.Ytofmjcelmbkebaa
open Go.ChangeShapes Go.WideShapes Go.ChangeAt Go.RowKit
set_option linter.unusedVariables false
set_option linter.unusedSimpArgs false
set_option maxRecDepth 100000
open KraftMath Pm
theorem cntS_snoc (l : List Coin) (j : Nat) (c : Coin) (h : l[j]? = some c) : cntS (l.take (j + 1)) = cntS (l.take j) + if c.2 = true then 1 else 0 := by
  have hj : j < l.length := (List.getElem?_eq_some_iff.1 h).1
  rw [List.take_succ_eq_append_getElem hj, cntS_append]
  rw [List.getElem?_eq_getElem hj] at h
  rw [Option.some.inj h]
  simp [cntS]
set_option maxHeartbeats 6400000 in
theorem pLenAll (a : Option Addr) (c n : Nat) (l : List Int) (L : Int) (w : World) (hl : l.length = n) (h : IsInts w a l) (hE : chkP l L = 0) (h1 : (srtS l).length ≠ 1) :
    Calls Try.prog 9 #[.slice a n c, .int .i64 L] w fun e w' => ∃ u, e = .returned (.tuple #[u, .int .i64 0]) ∧ OwnI w.heap.size w' u (lensV l L.toNat) ∧ Below w.heap.size w w' := by
  obtain ⟨K, rfl, hK1, hK2, hln, hbd, hu1, hu2⟩ := chk_ok hE
  have CC := Lib.hid (pChk a c n l K w hl h)
  rw [hE] at CC
  have hn : n ≤ 1024 := by omega
  obtain ⟨ss, hss⟩ : ∃ ss, srtS l = ss := ⟨_, rfl⟩
  obtain ⟨m, hm⟩ : ∃ m, ss.length = m := ⟨_, rfl⟩
  have hmu : m = used l := by rw [← hm, ← hss]; exact srtS_len l
  have hmn : m ≤ n := by rw [hmu, ← hl]; exact used_le l
  have hm2 : 2 ≤ m := by rw [hss, hm] at h1; omega
  have hmK : m ≤ 2 ^ K := by rw [hmu]; exact hu2
  have CB := Lib.hid (fun W hW => pByFreqAll a c n l W hl hW (by omega) (by
    rw [← hl, symsL_used l l.length (Nat.le_refl _), List.take_of_length_le (Nat.le_refl _), ← hmu]; omega))
  rw [hss] at CB
  have HI := Lib.hid h
  have HF := Lib.hid (show lensV l (K : Int).toNat = addF ss (List.replicate n 0) (ksF (ss.map (frL l)) K) by unfold lensV; rw [if_neg h1, hss, hl]; rfl)
  have HD := Lib.hid (show ∀ u ∈ ss, ∃ k : Nat, u = k ∧ k < n from fun u hu => by
    obtain ⟨k, h1, h2, -⟩ := srtS_mem (l := l) (u := u) (by rw [hss]; exact hu)
    exact ⟨k, h1, by omega⟩)
  have HV := Lib.hid (show ∀ u ∈ ss, 0 ≤ frL l u ∧ frL l u ≤ 4294967295 from fun u hu => hbd _)
  have CR := Lib.hid (fun b d W hi hs => pRows a c n l b d m ss K W hl hi hm hs (by omega) hm2 (by omega) hK1 hK2 HD.out HV.out)
  obtain ⟨S, hS⟩ : ∃ S, symC (ss.map (frL l)) = S := ⟨_, rfl⟩
  have hSl : S.length = m := by rw [← hS, symC_len, List.length_map, hm]
  have hSs : ∀ c ∈ S, c.2 = true := by rw [← hS]; exact symC_sym _
  have hSa : Asc S := by rw [← hS]; exact symC_asc _ (by rw [← hss]; exact srtS_asc l)
  have hSp : Pos S := by rw [← hS]; exact symC_pos _ (by rw [← hss]; exact srtS_pos l)
  obtain ⟨T0, hT0⟩ : ∃ T0 : Nat, 2 * m - 2 = T0 := ⟨_, rfl⟩
  have hML : 2 * (m : Int) - 2 = T0 := by omega
  have HKS := Lib.hid (show addF ss (List.replicate n 0) (ksF (ss.map (frL l)) K) = restF S ss K T0 (List.replicate n 0) by
    obtain ⟨k, rfl⟩ : ∃ k, K = k + 1 := ⟨K - 1, by omega⟩
    show _ = addF ss _ (takes S k T0)
    rw [← hS, ← hT0]
    unfold ksF
    rw [List.length_map, hm, Nat.add_sub_cancel])
  have HEN := Lib.hid (show T0 ≤ (rowF S (K - 1)).length by
    rw [← hT0]
    have := row_enough S (by omega) (K - 1) (by rw [hSl, show K - 1 + 1 = K by omega]; exact hmK)
    rw [hSl] at this; exact this)
  have HRM := Lib.hid (fun i => row_most S (by omega) i)
  have HNS := Lib.hid (fun i t ht => nest S hSs hSa hSp i t ht _ rfl)
  have hT0b : T0 ≤ 4000 := by omega
  have HCN := Lib.hid (fun i t ht => cnt_le S hSs hSa i t ht)
  rw [hS] at CR
  obtain ⟨FIN, hFIN⟩ : ∃ FIN, lensV l (K : Int).toNat = FIN := ⟨_, rfl⟩
  have HFIN := Lib.hid (show restF S ss K T0 (List.replicate n 0) = FIN by rw [← HKS.out, ← HF.out, hFIN])
  rw [hFIN]
  have HM := Lib.hid hm
  have HSL := Lib.hid hSl
  clear h hl hE h1 hbd hu1 hu2 hln hss hm hmu hmK hS hSl hSs hSa hSp hFIN HF HKS hT0
  have e1 : ((m : Int) == 1) = false := by rw [beq_eq_false_iff_ne]; omega
  go_enter Try.func9, Try.ntmps9
  go_wp2_with fail
  refine CC.out.mono ?_; rintro e w1 ⟨rfl, hw⟩
  obtain rfl : w = w1 := hw.symm
  go_wp2_with (refine make_int rfl _ _ rfl .i64 .i64 (n : Int) (n : Int) n rfl rfl rfl rfl (by omega) ?_; intro w2 ho2 hb2 hs2)
  have HO := Lib.hid ho2
  have HB := Lib.hid hb2
  obtain ⟨g, hg⟩ : ∃ g, w.heap.size = g := ⟨_, rfl⟩
  have HG := Lib.hid hg
  rw [hg] at HO HB ⊢
  have HIk := Lib.hid (HI.out.kept (by rw [hg]; exact HB.out))
  have hgl2 : g < w2.heap.size := by omega
  clear ho2 hb2 hs2 hg
  refine (CB.out _ HIk.out).mono ?_; rintro e w3 ⟨u, rfl, hu, hb⟩
  have HO3 := Lib.hid (HO.out.kept hb)
  have HB3 := Lib.hid (HB.out.trans (hb.mono (by have := HB.out.size; have := HG.out; omega)))
  have HI3 := Lib.hid (HIk.out.kept hb)
  obtain ⟨g2, cap, rfl, -, -⟩ := hu.form (by rw [HM.out]; omega) (by decide)
  rw [HM.out] at hu ⊢
  have HU3 := Lib.hid hu
  obtain ⟨ua, uc, huv, hi3⟩ := hu.isL (by rw [HM.out]; omega)
  have HIs := Lib.hid (show IsInts w3 (some ⟨g2, 0, none⟩) ss by
    simp only [Value.slice.injEq] at huv
    obtain ⟨rfl, -, -⟩ := huv
    exact hi3)
  clear hu hb CB HO HB HIk hi3 huv
  go_wp2_with fail
  refine (CR.out _ _ _ HI3.out HIs.out).mono ?_; rintro e w4 ⟨v4, ps, rfl, hpl, hrw, hb⟩
  have HO4 := Lib.hid (HO3.out.kept hb)
  have HB4 := Lib.hid (HB3.out.trans (hb.mono (by have := HB3.out.size; have := HG.out; omega)))
  have HU4 := Lib.hid (HU3.out.kept hb)
  obtain ⟨gr, cr, rfl, hgr, hgrl⟩ := hrw.1.form (by rw [hpl]; omega) (by decide)
  rw [hpl] at hrw ⊢
  have HPL := Lib.hid hpl
  have HRW := Lib.hid hrw
  have hg3 : g < w3.heap.size := (HO3.out.lt _ rfl).2
  have hg23 : g2 < w3.heap.size := (HU3.out.lt _ rfl).2
  have hgne : g2 ≠ g := by
    have := (HU3.out.lt g2 rfl).1
    omega
  clear hb hpl hrw HO3 HB3 HI3 HU3 HIs CR
  have hgR := (HO4.out.lt _ rfl).2
  have HK4 := Lib.hid (Keeps.refl (fun j => j = g) w4)
  have HBD := Lib.hid (show BdL (List.replicate n 0) (2000 * (K - K)) from fun x => by
    rw [List.getD_eq_getElem?_getD, List.getElem?_replicate]
    split <;> simp)
  go_wp2_with fail
  clear hML
  obtain ⟨wR, hwR⟩ : ∃ wR, wR = w4 := ⟨_, rfl⟩
  go_loopw [9, 11] (fun nv iv wr => ∃ (k t : Nat) (o : List Int), k ≤ K ∧ Hid (k = 0 ∨ t ≤ 5000) ∧ nv = .int .i64 t ∧ iv = .int .i64 ((k : Int) - 1) ∧ Hid (k = 0 ∨ t ≤ (rowF S (k - 1)).length) ∧ Hid (restF S ss k t o = FIN) ∧ Hid (o.length = n) ∧ Hid (BdL o (2000 * (K - k))) ∧ Hid (OwnI g wr (.slice (some ⟨g, 0, none⟩) n n) o) ∧ Hid (Keeps (fun j => j = g) wR wr)) (fun _ iv _ => (intOf iv + 1).toNat)
  case atStart => exact ⟨K, T0, List.replicate n 0, Nat.le_refl _, Lib.hid (.inr (by omega)), by go_num, by go_num, Lib.hid (.inr HEN.out), HFIN, Lib.hid (by simp), HBD, HO4, by rw [hwR]; exact HK4⟩
  case round =>
    clear HO4 HK4 HBD HFIN HEN
    obtain ⟨k, t, o, hk, HTB, rfl, rfl, HT, HFIN, HOL, HBD, HO, HW⟩ := hrel
    rcases Nat.eq_zero_or_pos k with rfl | hk0
    · have hi0 : ¬ (0 : Int) ≤ ((0 : Nat) : Int) - 1 := by omega
      have HFE := Lib.hid (show o = FIN from HFIN.out)
      go_wp2_with fail
      go_ret2
      rw [← HFE.out, HG.out]
      refine ⟨_, rfl, HO.out, HB4.out.trans ?_⟩
      have hw := HW.out
      rw [hwR] at hw
      exact hw.below (fun q hq => ⟨by omega, by omega⟩)
    · obtain ⟨I, rfl⟩ : ∃ I, k = I + 1 := ⟨k - 1, by omega⟩
      rw [show ((I + 1 : Nat) : Int) - 1 = (I : Int) by omega]
      have ht : t ≤ 5000 := by
        rcases HTB.out with h | h
        · omega
        · exact h
      have hI0 : (0 : Int) ≤ I := by omega
      have hIK : (I : Int) < K := by omega
      have hIp : I < ps.length := by rw [HPL.out]; omega
      obtain ⟨p, hp⟩ : ∃ p, ps[I]? = some p := ⟨ps[I], by rw [List.getElem?_eq_getElem hIp]⟩
      obtain ⟨q1, q2, q3⟩ := HRW.out.2 I p hp
      have cp := HRW.out.1.cell flatS I 0 p hp (by decide)
      obtain ⟨pg, pn, pc⟩ := p
      simp only at q1 q2 q3
      rw [Nat.mul_one, Nat.add_zero] at cp
      have cp : w4.cell? ⟨gr, I, none⟩ = some (.slice (some ⟨pg, 0, none⟩) pn pc) := by simpa [fS] using cp
      have hpg : w3.heap.size ≤ pg ∧ pg < w4.heap.size := q3.lt _ rfl
      have hpgne : pg ≠ g := by omega
      have htn : t ≤ pn := by
        rcases HT.out with h | h
        · omega
        · rw [q1]; exact h
      have HLI := Lib.hid (own_lie q3)
      have HROW := Lib.hid q1
      have cpr : wr.cell? ⟨gr, I, none⟩ = some (.slice (some ⟨pg, 0, none⟩) pn pc) := by
        rw [HW.out.cell (p := ⟨gr, I, none⟩) (by rw [hwR]; exact hgrl) (show ¬ gr = g by omega), hwR]; exact cp
      have hpgl : pg < w4.heap.size := hpg.2
      have htc : (t : Int) ≤ pc := by omega
      have HST := Lib.hid (restF_step S ss I t o)
      have HOl0 := Lib.hid (show incAll o (ss.take 0) = o from rfl)
      clear cp q1 q2 q3 hp hIp hpg
      obtain ⟨wo, hwo⟩ : ∃ wo, wo = wr := ⟨_, rfl⟩
      rw [← hwo] at HO HW cpr ⊢
      clear hwo
      go_wp2_with fail
      have HB0 := Lib.hid (show BdL (incAll o (ss.take 0)) (2000 * (K - (I + 1)) + 0) from HBD.out)
      have HO0 := Lib.hid (show OwnI g wo (.slice (some ⟨g, 0, none⟩) n n) (incAll o (ss.take 0)) from HO.out)
      go_loopw [12, 57] (fun sv jv wr => ∃ (j s : Nat), j ≤ t ∧ s ≤ m ∧ jv = .int .i64 j ∧ sv = .int .i64 s ∧ Hid (cntS ((rowF S I).take j) = s) ∧ Hid (BdL (incAll o (ss.take s)) (2000 * (K - (I + 1)) + s)) ∧ Hid (OwnI g wr (.slice (some ⟨g, 0, none⟩) n n) (incAll o (ss.take s))) ∧ Hid (Keeps (fun j => j = g) wR wr)) (fun _ jv _ => t - (intOf jv).toNat)
      case atStart => exact ⟨0, 0, Nat.zero_le _, Nat.zero_le _, by go_num, by go_num, Lib.hid rfl, HB0, HO0, HW⟩
      case round =>
        clear HB0 HO0 HW HO
        obtain ⟨j, s, hj, hs, rfl, rfl, HCS, HB, HO, HW⟩ := hrel
        by_cases hlt : j < t
        · have hji : (j : Int) < t := by omega
          have hjr : j < (rowF S I).length := by have := HROW.out; omega
          obtain ⟨co, hco⟩ : ∃ co, (rowF S I)[j]? = some co := ⟨_, List.getElem?_eq_getElem hjr⟩
          obtain ⟨c1, c2⟩ := HLI.out j co hco
          rw [Nat.zero_add] at c1 c2
          have c1 : wr.cell? ⟨pg, j * 2, none⟩ = some (.int .i64 co.1) := by
            rw [HW.out.cell (p := ⟨pg, j * 2, none⟩) (by rw [hwR]; exact hpgl) (show ¬ pg = g from hpgne), hwR]; exact c1
          have c2 : wr.cell? ⟨pg, j * 2 + 1, none⟩ = some (.bool co.2) := by
            rw [HW.out.cell (p := ⟨pg, j * 2 + 1, none⟩) (by rw [hwR]; exact hpgl) (show ¬ pg = g from hpgne), hwR]; exact c2
          have hcs := cntS_snoc (rowF S I) j co hco
          have hcl := (HCN.out I (j + 1) (by omega)).1
          rw [HSL.out] at hcl
          rw [hcs, HCS.out] at hcl
          rw [HCS.out] at hcs
          obtain ⟨X, Y⟩ := co
          simp only at c1 c2 hcs hcl
          cases hY : Y with
          | false =>
            subst hY
            have HCS2 := Lib.hid (show cntS ((rowF S I).take (j + 1)) = s from hcs)
            have HO2 := Lib.hid (HO.out.alloc (.cells #[.int .i64 X, .bool false] 49))
            have HW2 := Lib.hid (HW.out.alloc (.cells #[.int .i64 X, .bool false] 49))
            clear hcs hcl hco hjr
            go_wp2_with fail
            go_roundw
            case rel => exact ⟨j + 1, s, by omega, hs, by go_num, rfl, HCS2, HB, HO2, HW2⟩
            case measure => simp [intOf] <;> omega
          | true =>
            subst hY
            rw [if_pos rfl] at hcl hcs
            have hsm : s < ss.length := by rw [HM.out]; omega
            obtain ⟨x, hx1, hx2⟩ := HD.out (ss.getD s 0) (mem_getD hsm)
            have cu := HU4.out.int_cell s hsm
            rw [hx1] at cu
            have cur : wr.cell? ⟨g2, s, none⟩ = some (.int .i64 x) := by
              rw [HW.out.cell (p := ⟨g2, s, none⟩) (by rw [hwR]; exact (HU4.out.lt _ rfl).2) (show ¬ g2 = g from hgne), hwR]; exact cu
            have hol : (incAll o (ss.take s)).length = n := by rw [incAll_len]; exact HOL.out
            obtain ⟨V, hV⟩ : ∃ V, (incAll o (ss.take s)).getD x 0 = V := ⟨_, rfl⟩
            have co := HO.out.int_cell x (by rw [hol]; exact hx2)
            rw [hV] at co
            have hvb := HB.out x
            rw [hV] at hvb
            obtain ⟨vb1, vb2⟩ := hvb
            have vb3 : V ≤ 100000 := by omega
            have fo := HO.out.free x
            have lo := (HO.out.lt _ rfl).2
            have hsn := incAll_snoc (ss.take s) o (x : Int)
            have htk : ss.take (s + 1) = ss.take s ++ [(x : Int)] := by rw [take_getD ss s hsm, hx1]
            rw [← htk, Int.toNat_natCast, hV] at hsn
            have hB2 := HB.out.inc x
            rw [hV, ← hsn] at hB2
            have hO2 := (HO.out.set_int x (V + 1) (by rw [hol]; exact hx2)).alloc (.cells #[.int .i64 X, .bool true] 49)
            rw [← hsn] at hO2
            have HB2 := Lib.hid hB2
            have HO2 := Lib.hid hO2
            have HW2 := Lib.hid ((HW.out.setCell (p := ⟨g, x, none⟩) (.inr rfl) (.int .i64 (V + 1))).alloc (.cells #[.int .i64 X, .bool true] 49))
            have HCS2 := Lib.hid (show cntS ((rowF S I).take (j + 1)) = s + 1 from hcs)
            have hsi : (s : Int) < m := by omega
            have hxn : (x : Int) < n := by omega
            have hlg2 : g2 < wr.heap.size := cell_block cur
            clear hcs hco hjr hsm hx1 cu hol hV hsn htk hB2 hO2 HB HO vb2
            go_wp2_with fail
            go_roundw
            case rel => exact ⟨j + 1, s + 1, by omega, by omega, by go_num, by go_num, HCS2, HB2, HO2, HW2⟩
            case measure => simp [intOf] <;> omega
        · have htr : t ≤ (rowF S I).length := by have := HROW.out; omega
          obtain rfl : t = j := by omega
          have HFI2 := Lib.hid (show restF S ss I (2 * (t - s)) (incAll o (ss.take s)) = FIN by
            have := HST.out
            rw [HCS.out, HFIN.out] at this
            exact this.symm)
          have HOL2 := Lib.hid (show (incAll o (ss.take s)).length = n by rw [incAll_len]; exact HOL.out)
          have hsl := (HCN.out I t htr)
          rw [HCS.out] at hsl
          have HBD2 := Lib.hid (show BdL (incAll o (ss.take s)) (2000 * (K - I)) from fun x => by have := HB.out x; omega)
          have hst : s ≤ t := hsl.2.1
          have HT2 := Lib.hid (show I = 0 ∨ 2 * (t - s) ≤ (rowF S (I - 1)).length from by
            rcases Nat.eq_zero_or_pos I with h | h
            · exact .inl h
            · right
              obtain ⟨J, rfl⟩ : ∃ J, I = J + 1 := ⟨I - 1, by omega⟩
              have := (HNS.out J t htr).1
              rw [HCS.out] at this
              exact this)
          have hrm := HRM.out (I - 1)
          rw [HSL.out] at hrm
          have hr0 : (rowF S 0).length = m := HSL.out
          obtain ⟨t2, ht2⟩ : ∃ t2, 2 * (t - s) = t2 := ⟨_, rfl⟩
          have et2 : 2 * ((t : Int) - s) = t2 := by omega
          rw [ht2] at HFI2 HT2
          have ht2b : t2 ≤ 10000 := by omega
          have HT2B := Lib.hid (show I = 0 ∨ t2 ≤ 5000 from by
            rcases HT2.out with h | h
            · exact .inl h
            · exact .inr (by omega))
          clear hsl htr hrm hr0 ht2 HB
          go_wp2_with fail
          go_roundw
          case rel => exact ⟨I, t2, _, by omega, HT2B, by go_num, by go_num, HT2, HFI2, HOL2, HBD2, HO, HW⟩
          case measure => simp [intOf] <;> omega
end Go.Proofs.Ytofmjcelmbkebaa
