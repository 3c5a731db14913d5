/- Layer 53: whatever other parts there are. -/
import Derived.Test.YtlcdjilmfjdmhaaA9
import Derived.Test.YtlcdjilmfjdmhaaK3
import Derived.Laws.Strings2
namespace Go.Proofs.Ytlcdjilmfjdmhaa
open Go.ChangeShapes Go.WideShapes Go.ChangeAt Go.RowKit Split
set_option linter.unusedVariables false
set_option linter.unusedSimpArgs false
set_option maxRecDepth 100000
theorem slMidM (L : List UInt8) (a b : Int) (i n : Nat) (ha : a = i) (hb : b = ((i + n : Nat) : Int)) (hn : i + n ≤ L.length) (W : World) : (Instr.slice 9 (.string (sM L)) (some (.int .i64 a)) (some (.int .i64 b)) none).run Try.prog W = .ok (.string (sM ((L.drop i).take n))) W := by
  subst ha hb
  have hsz := sM_size L
  have := run_slice_string (P := Try.prog) W 9 (sM L) .i64 .i64 (i : Int) ((i + n : Nat) : Int) Try.underlying9 (by omega) (by omega) (by omega)
  rw [this]
  congr 2
  rw [Int.toNat_natCast, Int.toNat_natCast]
  apply ByteArray.ext
  simp [sM, ByteArray.data_extract, List.extract_toArray, List.extract_eq_take_drop]
def szOf : Value → Nat
  | .string s => s.size
  | _ => 0
/-- The parts from the j-th on are those of what is left. -/
def AtP (fee : Int) (most : Nat) (L : List UInt8) (j p : Nat) (c : Int) : Prop := (pts (costF fee) most L).drop j = pts (costF fee) most (L.drop p) ∧ c + lst (costF fee) most (L.drop p) = lst (costF fee) most L
theorem AtP.next {fee : Int} {most : Nat} {L : List UInt8} {j p : Nat} {c : Int} (h : AtP fee most L j p c) (hm : 0 < most) (hp : p ≤ L.length) (hj : j < (pts (costF fee) most L).length) :
    p < L.length ∧ ∃ q, (pts (costF fee) most L).getD j 0 = q ∧ 1 ≤ q ∧ q ≤ most ∧ p + q ≤ L.length ∧ AtP fee most L (j + 1) (p + q) (c + costF fee ((L.drop p).take q)) := by
  obtain ⟨h1, h2⟩ := h
  have hpl : p < L.length := by
    apply Classical.byContradiction
    intro hn
    rw [pts_nil _ _ (L.drop p) (by rw [List.length_drop]; omega)] at h1
    have := congrArg List.length h1
    rw [List.length_drop] at this
    simp at this; omega
  have hD : 0 < (L.drop p).length := by rw [List.length_drop]; omega
  obtain ⟨b1, b2, b3, b4, -⟩ := best_spec (costF fee) most (L.drop p) hD hm
  rw [List.length_drop] at b3
  have hc := pts_cons (costF fee) most (L.drop p) hD hm
  rw [List.drop_drop] at hc
  rw [hc] at h1
  have hg : (pts (costF fee) most L).getD j 0 = fst (costF fee) most (L.drop p) := by
    have e : (pts (costF fee) most L).getD j 0 = ((pts (costF fee) most L).drop j).getD 0 0 := by simp [List.getD_eq_getElem?_getD, List.getElem?_drop]
    rw [e, h1]; rfl
  refine ⟨hpl, fst (costF fee) most (L.drop p), hg, b1, b2, by omega, ?_, ?_⟩
  · rw [← List.drop_drop, h1]; rfl
  · unfold wayC at b4
    rw [List.drop_drop] at b4
    omega
theorem AtP.done {fee : Int} {most : Nat} {L : List UInt8} {j p : Nat} {c : Int} (h : AtP fee most L j p c) (hm : 0 < most) (hp : p ≤ L.length) (hj : (pts (costF fee) most L).length ≤ j) : p = L.length ∧ c = lst (costF fee) most L := by
  obtain ⟨h1, h2⟩ := h
  rw [List.drop_of_length_le hj] at h1
  have hpl : p = L.length := by
    apply Classical.byContradiction
    intro hn
    have hD : 0 < (L.drop p).length := by rw [List.length_drop]; omega
    rw [pts_cons (costF fee) most (L.drop p) hD hm] at h1
    cases h1
  refine ⟨hpl, ?_⟩
  rw [hpl, List.drop_length, lst_nil] at h2
  omega
set_option maxHeartbeats 6400000 in
theorem noless_walk (L : List UInt8) (most n : Nat) (fee : Int) (oa : Option Addr) (oc : Nat) (z : List Int) (w : World) (hn : L.length = n) (hL : n ≤ 120) (hm0 : 1 ≤ most) (hm1 : most ≤ 65536) (hf0 : 0 ≤ fee) (hf1 : fee ≤ 1048576) (hz : IsK .u8 255 w oa z) (hzl : (z.length : Int) ≤ 9223372036854775807) :
    Calls Try.prog 8 #[.string (sM L), .agg #[.int .i64 most, .int .i64 fee], .slice oa z.length oc] w fun e w' => e = .returned (.bool true) ∧ Below w.heap.size w w' := by
  have hS : (sM L).size = n := by rw [sM_size, hn]
  have HN := Lib.hid hn
  have HZ := Lib.hid hz
  have CM := Lib.hid (fun W => cMay (sM L) most fee W true (decide_eq_true (show 1 ≤ (most : Int) ∧ (most : Int) ≤ 65536 ∧ 0 ≤ fee ∧ fee ≤ 1048576 ∧ (sM L).size ≤ 4096 by omega)).symm)
  have CS := Lib.hid (fun W => cSplit L most n fee W hn (by omega) hm0 hm1 hf0 hf1)
  have HPL := Lib.hid (show (pts (costF fee) most L).length ≤ n by rw [← hn]; exact pts_pos (costF fee) most (by omega) _ L (Nat.le_refl _))
  have HSR := Lib.hid (lst_room fee most L (by omega) hf0 hf1 (by omega))
  obtain ⟨S, hSS⟩ : ∃ V, lst (costF fee) most L = V := ⟨_, rfl⟩
  obtain ⟨P, hP⟩ : ∃ V, pts (costF fee) most L = V := ⟨_, rfl⟩
  have HS := Lib.hid hSS
  have HP := Lib.hid hP
  rw [hSS, hP] at CS
  rw [hP] at HPL
  rw [hSS] at HSR
  have d1 : decide ((120 : Int) < n) = false := decide_eq_false (by omega)
  have d2 : decide (120 < n) = false := decide_eq_false (by omega)
  have hz0 := HZ.out.kept ((Below.refl _ w).alloc (Nat.le_refl _) (.cells #[.int .i64 (most : Int), .int .i64 fee] 42))
  clear hSS hP hz hn
  go_enter Try.func8, Try.ntmps8
  go_wp2_with fail
  go_quiet (fail)
  go_wp2_with fail
  have hb0 : Below w.heap.size w (w.alloc (.cells #[.int .i64 (most : Int), .int .i64 fee] 42)) := (Below.refl _ w).alloc (Nat.le_refl _) _
  have HB0 := Lib.hid (below_dn hb0 nq)
  have HZ0 := Lib.hid (show IsK .u8 255 ((w.alloc (.cells #[.int .i64 (most : Int), .int .i64 fee] 42)).drewN nq) oa z from hz0)
  clear hb0 hz0 HZ
  generalize (w.alloc (.cells #[.int .i64 (most : Int), .int .i64 fee] 42)).drewN nq = w0 at *
  refine (CM.out _).mono ?_; rintro e w1 ⟨rfl, rfl⟩
  go_wp2_with fail
  refine (CS.out _).mono ?_; rintro e w2 ⟨v, rfl, hv, hb2⟩
  obtain ⟨va, vc, rfl, hv⟩ := hv
  rw [List.length_map]
  have HV := Lib.hid hv
  have HZ2 := Lib.hid (HZ0.out.kept hb2)
  have HB2 := Lib.hid (HB0.out.trans (hb2.mono HB0.out.size))
  have HVL := Lib.hid (show (P.map (fun x : Nat => (x : Int))).length = P.length from List.length_map _)
  clear hv hb2 HZ0 HB0 CM CS d1 d2
  go_wp2_with fail
  have hP120 : P.length ≤ 120 := by have := HPL.out; omega
  go_loopw [12, 13, 14] (fun av cv jv wr => ∃ (j p : Nat) (c : Int), j ≤ P.length ∧ p ≤ n ∧ jv = .int .i64 j ∧ av = .int .i64 p ∧ cv = .int .i64 c ∧ 0 ≤ c ∧ c ≤ 4294967296 ∧ Hid (AtP fee most L j p c) ∧ Hid (Below w2.heap.size w2 wr)) (fun _ _ jv _ => (P.length - (intOf jv).toNat))
  case atStart => exact ⟨0, 0, 0, Nat.zero_le _, Nat.zero_le _, rfl, rfl, rfl, by omega, by omega, Lib.hid ⟨by rw [List.drop_zero, List.drop_zero], by rw [List.drop_zero]; omega⟩, Lib.hid (Below.refl _ _)⟩
  case round =>
    obtain ⟨j, p, c, hj, hp, rfl, rfl, rfl, hc0, hc1, HA, HQ⟩ := hrel
    by_cases hlt : j < P.length
    · have hji : (j : Int) < P.length := by omega
      obtain ⟨hpn, q, hq, q1, q2, q3, hA2⟩ := HA.out.next (by omega) (by rw [HN.out]; exact hp) (by rw [HP.out]; exact hlt)
      rw [HN.out] at q3 hpn
      rw [HP.out] at hq
      obtain ⟨x, rfl, hxb, hx⟩ := (HV.out.kept HQ.out).at j (by rw [HVL.out]; exact hlt)
      have cx := hx j (by rw [HVL.out]; exact hlt)
      have hxq : (P.map (fun x : Nat => (x : Int))).getD j 0 = (q : Int) := by
        rw [← hq]; simp [List.getD_eq_getElem?_getD, hlt]
      rw [hxq] at cx
      have HA2 := Lib.hid hA2
      have hTl : ((L.drop p).take q).length = q := by rw [List.length_take, List.length_drop, HN.out]; omega
      have DC := Lib.hid (fun W => dCost ((L.drop p).take q) fee W (by rw [hTl]; omega) hf0 hf1)
      rw [costV_pos fee _ (by rw [hTl]; omega)] at DC
      have hcn : 0 ≤ costF fee ((L.drop p).take q) := by
        have := ent_nonneg ((L.drop p).take q) (by rw [hTl]; omega)
        unfold costF; omega
      have hcx : c + costF fee ((L.drop p).take q) ≤ 4294967296 := by
        have h1 := hA2.2
        have h2 := (lst_room fee most (L.drop (p + q)) (by omega) hf0 hf1 (by rw [List.length_drop, HN.out]; omega)).1
        have h3 := HSR.out
        rw [HS.out] at h1
        omega
      obtain ⟨r, hr⟩ : ∃ r, p + q = r := ⟨_, rfl⟩
      have sm := fun W => slMidM L (p : Int) (r : Int) p q rfl (by rw [hr]) (by rw [HN.out]; omega) W
      obtain ⟨K, hK⟩ : ∃ K, costF fee ((L.drop p).take q) = K := ⟨_, rfl⟩
      rw [hK] at DC HA2 hcn hcx
      rw [hr] at HA2
      have hri : (p : Int) + q = (r : Int) := by omega
      have e1 : decide ((q : Int) < 1) = false := decide_eq_false (by omega)
      have e2 : decide ((most : Int) < q) = false := decide_eq_false (by omega)
      have e3 : decide ((n : Int) - p < q) = false := decide_eq_false (by omega)
      have HRN := Lib.hid (show r ≤ n by omega)
      clear hx hxq hTl hK hA2 hq hr q3
      go_wp2_with fail
      refine (DC.out _).mono ?_; rintro e w4 ⟨rfl, hb4⟩
      have HQ4 := Lib.hid (HQ.out.trans (hb4.mono HQ.out.size))
      have cx4 := (hb4.cell (p := x.add j) (by rw [add_block]; exact hxb)).trans cx
      have hxb4 : x.block < w4.heap.size := Nat.lt_of_lt_of_le hxb hb4.size
      clear hb4
      go_wp2_with fail
      go_roundw
      case rel => exact ⟨j + 1, r, c + K, by omega, HRN.out, by go_num, rfl, rfl, by omega, hcx, HA2, HQ4⟩
      case measure => simp [intOf]; omega
    · obtain rfl : j = P.length := by omega
      obtain ⟨hpn, hcS⟩ := HA.out.done (by omega) (by rw [HN.out]; exact hp) (by rw [HP.out]; exact Nat.le_refl _)
      rw [HN.out] at hpn
      rw [HS.out] at hcS
      subst hpn; subst hcS
      have e1 : ((p : Int) == p) = true := by simp
      have e1' : ((p : Int) != p) = false := by simp
      have e2 : (c == c) = true := by simp
      have e2' : (c != c) = false := by simp
      have HZ3 := Lib.hid (HZ2.out.kept HQ.out)
      have HB3 := Lib.hid (HB2.out.trans (HQ.out.mono HB2.out.size))
      clear HZ2 HB2 HV HA HQ
      go_wp2_with fail
      obtain ⟨wo, rfl⟩ : ∃ wo : World, wo = wr := ⟨_, rfl⟩
      clear e1 e1' e2 e2'
      have hlz : 0 ≤ c := hc0
      go_loopw [15, 16, 17] (fun rv av iv wr => ∃ (i q : Nat) (all : Int), i ≤ q ∧ q ≤ p ∧ iv = .int .i64 i ∧ rv = .string (sM (L.drop q)) ∧ av = .int .i64 all ∧ all ≤ (q : Int) * 40000000000 ∧ 0 ≤ all ∧ Hid (c ≤ all + lst (costF fee) most (L.drop q)) ∧ Hid (Below wo.heap.size wo wr)) (fun rv _ _ _ => szOf rv)
      case atStart => exact ⟨0, 0, 0, Nat.le_refl _, Nat.zero_le _, rfl, by rw [List.drop_zero], rfl, by omega, by omega, Lib.hid (by rw [List.drop_zero, HS.out]; omega), Lib.hid (Below.refl _ _)⟩
      case round =>
        obtain ⟨i, q, all, hi, hq, rfl, rfl, rfl, ha1, ha0, HA, HQ⟩ := hrel
        have hDl : (L.drop q).length = p - q := by rw [List.length_drop, HN.out]
        have hSd : (sM (L.drop q)).size = p - q := by rw [sM_size, hDl]
        have hT : (sM (L.drop q)).toList.isEmpty = decide (p = q) := by
          rw [sM_toL]
          by_cases e : p = q
          · have := List.length_eq_zero_iff.1 (show (L.drop q).length = 0 by omega)
            rw [this, decide_eq_true e]; rfl
          · rw [decide_eq_false e]
            cases hd : L.drop q with
            | nil => rw [hd] at hDl; simp at hDl; omega
            | cons a b => rfl
        have HDL := Lib.hid hDl
        have hZ4 := HZ3.out.kept HQ.out
        obtain ⟨d, hd⟩ : ∃ d, p - q = d := ⟨_, rfl⟩
        have HD := Lib.hid hd
        rw [hd] at hSd
        by_cases hlt : q < p
        · have e0 : (sM (L.drop q)).toList.isEmpty = false := by rw [hT]; exact decide_eq_false (by omega)
          obtain ⟨M, hM⟩ : ∃ M, min most d = M := ⟨_, rfl⟩
          have hM1 : 1 ≤ M := by omega
          have hmn1 : min (most : Int) (d : Int) = (M : Int) := by omega
          have hmn2 : (if (d : Int) < most then (d : Int) else (most : Int)) = (M : Int) := by split <;> omega
          have HMM := Lib.hid (show M ≤ most ∧ M ≤ d by omega)
          have REST := Lib.hid (fun (k : Nat) (k1 : 1 ≤ k) (k2 : k ≤ M) => (show ∃ K : Int, 0 ≤ K ∧ K ≤ 40000000000 ∧ (∀ W, Calls Try.prog 29 #[.string (sM ((L.drop q).take k)), .int .i64 fee] W fun e w' => e = .returned (.int .i64 K) ∧ Below W.heap.size W w') ∧ c ≤ all + K + lst (costF fee) most (L.drop (q + k)) from by
            have hM2 := HMM.out
            have hl2 : ((L.drop q).take k).length = k := by rw [List.length_take, hDl]; omega
            refine ⟨costF fee ((L.drop q).take k), ?_, ?_, fun W => ?_, ?_⟩
            · have := ent_nonneg ((L.drop q).take k) (by omega)
              unfold costF; omega
            · have := ent_bd ((L.drop q).take k) (by omega)
              unfold costF; omega
            · have := dCost ((L.drop q).take k) fee W (by omega) hf0 hf1
              rwa [costV_pos fee _ (by omega)] at this
            · have h1 := HA.out
              have h2 := (best_spec (costF fee) most (L.drop q) (by omega) (by omega)).2.2.2.2.1 k k1 (by omega) (by omega)
              unfold wayC at h2
              rw [List.drop_drop] at h2
              omega))
          clear hT hM hDl hd
          by_cases hio : i < z.length
          · have hii : (i : Int) < z.length := by omega
            obtain ⟨x, rfl, hxb, cx, z0, z1⟩ := hZ4.at i hio
            obtain ⟨o, ho⟩ : ∃ o, z.getD i 0 = o := ⟨_, rfl⟩
            rw [ho] at cx z0 z1
            obtain ⟨O, rfl⟩ := Int.eq_ofNat_of_zero_le z0
            obtain ⟨k, hk⟩ : ∃ k, min M (O % 20 + 1) = k := ⟨_, rfl⟩
            have hkn1 : min (M : Int) ((O : Int) % 20 + 1) = (k : Int) := by omega
            have hkn2 : (if (O : Int) % 20 + 1 < M then (O : Int) % 20 + 1 else (M : Int)) = (k : Int) := by split <;> omega
            have hkb : 1 ≤ k ∧ k ≤ M := by omega
            obtain ⟨K, K0, K1, CK, hK⟩ := REST.out k hkb.1 hkb.2
            have CKK := Lib.hid CK
            have HK := Lib.hid hK
            have st := fun W => slTakeM (L.drop q) (k : Int) k rfl (by rw [HDL.out, HD.out]; have := HMM.out; omega) W
            have sd := fun W => slDropM (L.drop q) (k : Int) k rfl (by rw [HDL.out, HD.out]; have := HMM.out; omega) W
            clear hk ho CK hK
            go_wp2_with fail
            refine (CKK.out _).mono ?_; rintro e w4 ⟨rfl, hb4⟩
            have HQ4 := Lib.hid (HQ.out.trans (hb4.mono HQ.out.size))
            clear hb4
            go_wp2_with fail
            go_roundw
            case rel => exact ⟨i + 1, q + k, all + K, by omega, by have := HMM.out; have := HD.out; omega, by go_num, rfl, rfl, by omega, by omega, HK, HQ4⟩
            case measure =>
              show (sM (L.drop (q + k))).size < (sM (L.drop q)).size
              rw [sM_size, sM_size, List.length_drop, List.length_drop, HN.out]
              have := HMM.out; have := HD.out
              omega
          · have hii : ¬ (i : Int) < z.length := by omega
            obtain ⟨K, K0, K1, CK, hK⟩ := REST.out M hM1 (Nat.le_refl _)
            have CKK := Lib.hid CK
            have HK := Lib.hid hK
            have st := fun W => slTakeM (L.drop q) (M : Int) M rfl (by rw [HDL.out, HD.out]; have := HMM.out; omega) W
            have sd := fun W => slDropM (L.drop q) (M : Int) M rfl (by rw [HDL.out, HD.out]; have := HMM.out; omega) W
            clear CK hK
            go_wp2_with fail
            refine (CKK.out _).mono ?_; rintro e w4 ⟨rfl, hb4⟩
            have HQ4 := Lib.hid (HQ.out.trans (hb4.mono HQ.out.size))
            clear hb4
            go_wp2_with fail
            go_roundw
            case rel => exact ⟨i + 1, q + M, all + K, by omega, by have := HMM.out; have := HD.out; omega, by go_num, rfl, rfl, by omega, by omega, HK, HQ4⟩
            case measure =>
              show (sM (L.drop (q + M))).size < (sM (L.drop q)).size
              rw [sM_size, sM_size, List.length_drop, List.length_drop, HN.out]
              have := HMM.out; have := HD.out
              omega
        · obtain rfl : q = p := by omega
          have e0 : (sM (L.drop q)).toList.isEmpty = true := by rw [hT]; exact decide_eq_true rfl
          have hl0 := HA.out
          have : L.drop q = [] := List.length_eq_zero_iff.1 (by omega)
          rw [this, lst_nil] at hl0
          have e1 : c ≤ all := by omega
          have HBF := Lib.hid (HB3.out.trans (HQ.out.mono HB3.out.size))
          clear hT this hl0
          go_wp2_with fail
          refine (awake53 _).mono ?_; rintro e w7 ⟨rfl, hb7⟩
          have hb := HBF.out.trans (hb7.mono HBF.out.size)
          clear hb7
          go_wp2_with fail
          go_ret
          exact ⟨rfl, hb⟩
end Go.Proofs.Ytlcdjilmfjdmhaa
