/- Layer 20: the document's examples; LcpLeast. -/
import Derived.Test.YtpkidedepcnoaaaX3
namespace Go.Proofs.Ytpkidedepcnoaaa
open Go.ChangeShapes Go.WideShapes Go.ChangeAt Go.RowKit
set_option linter.unusedVariables false
set_option linter.unusedSimpArgs false
set_option maxRecDepth 100000
set_option maxHeartbeats 3200000 in
theorem awake20 (w : World) : Calls Try.prog 19 #[] w fun e w' => e = .returned (.bool true) ∧ Below w.heap.size w w' := by
  go_enter Try.func19, Try.ntmps19
  go_wp2_with fail
  refine (cRow [98, 97, 110, 97, 110, 97] _ [5, 3, 1, 0, 4, 2] _ (litU _ [5, 3, 1, 0, 4, 2] _ _ (by decide)) banana (by decide)).mono ?_; rintro e w1 ⟨u, rfl, hu, hb1⟩
  have hb : Below w.heap.size w w1 := ((Below.refl _ w).alloc (Nat.le_refl _) _).trans (hb1.mono (by simp))
  have HU := Lib.hid (show IsL w1 u [0, 1, 3, 0, 0, 2] from (show nI (rowL [98, 97, 110, 97, 110, 97] [5, 3, 1, 0, 4, 2]) = [0, 1, 3, 0, 0, 2] from by decide +kernel) ▸ hu)
  clear hb1 hu
  go_wp2_with fail
  refine (intsV (HU.out.alloc _) (litU _ [0, 1, 3, 0, 0, 2] _ _ (by decide)) true (by decide)).mono ?_; rintro e w2 ⟨rfl, hb2⟩
  have hb : Below w.heap.size w w2 := (hb.alloc hb.size _).trans (hb2.mono (by have := hb.size; simp; omega))
  clear hb2 HU
  go_wp2_with fail
  refine (cLofZ [98, 97, 110, 97, 110, 97] 1 3 _ (by decide) 3 (by decide +kernel)).mono ?_; rintro e w3 ⟨rfl, hb3⟩
  have hb := hb.trans (hb3.mono hb.size)
  clear hb3
  go_wp2_with fail
  refine (cLofZ [98, 97, 110, 97, 110, 97] 2 2 _ (by decide) 4 (by decide +kernel)).mono ?_; rintro e w4 ⟨rfl, hb4⟩
  have hb := hb.trans (hb4.mono hb.size)
  clear hb4
  go_wp2_with fail
  refine (cLofZ [98, 97, 110, 97, 110, 97] 7 7 _ (by decide) 0 (by decide +kernel)).mono ?_; rintro e w5 ⟨rfl, hb5⟩
  have hb := hb.trans (hb5.mono hb.size)
  clear hb5
  go_wp2_with fail
  refine (cRowNo [98, 97, 110, 97, 110, 97] _ [] _ (IsL.nil _) (by decide) (by decide) (fun ⟨b, hb1, hb2⟩ => (by have h1 := hb1.len; have h2 := congrArg List.length hb2; rw [List.length_map, h1] at h2; revert h2; decide))).mono ?_; rintro e w6 ⟨rfl, hb6⟩
  have hb := hb.trans (hb6.mono hb.size)
  clear hb6
  go_wp2_with fail
  go_ret
  exact ⟨rfl, hb⟩
set_option maxHeartbeats 3200000 in
theorem least_walk (L : List UInt8) (X Y : Nat) (w : World) (hL : L.length ≤ 300) (hL0 : 0 < L.length) (hX : X ≤ 255) (hY : Y ≤ 255) :
    Calls Try.prog 6 #[.string (sM L), .int .u8 X, .int .u8 Y] w fun e w' => e = .returned (.bool true) ∧ Below w.heap.size w w' := by
  have hS : (sM L).size = L.length := sM_size L
  have DS := Lib.hid (fun W => dSort L W (by omega))
  have CR := Lib.hid (fun v a W (h : IsL W v (nI a)) (hs : IsSuf L a) => cRow L v a W h hs (by omega))
  have CO := Lib.hid (fun i k W (hi : i ≤ L.length) (hk : k ≤ L.length) C (hC : comAt L i k = C) => cLofIn L i k W (by omega) hi hk C hC)
  obtain ⟨n, hn⟩ : ∃ n, L.length = n := ⟨_, rfl⟩
  have HN := Lib.hid hn
  rw [hn] at hS hL hL0 CO
  obtain ⟨A0, hA0⟩ : ∃ A, X % n = A := ⟨_, rfl⟩
  obtain ⟨B0, hB0⟩ : ∃ B, Y % n = B := ⟨_, rfl⟩
  have hA0n : A0 < n := by rw [← hA0]; exact Nat.mod_lt _ hL0
  have hB0n : B0 < n := by rw [← hB0]; exact Nat.mod_lt _ hL0
  have r1 : (X : Int).tmod n = (A0 : Int) := by rw [Int.tmod_eq_emod_of_nonneg (by omega)]; omega
  have r2 : (X : Int) % n = (A0 : Int) := by omega
  have r3 : (Y : Int).tmod n = (B0 : Int) := by rw [Int.tmod_eq_emod_of_nonneg (by omega)]; omega
  have r4 : (Y : Int) % n = (B0 : Int) := by omega
  have e0 : ((n : Int) == 0) = false := by rw [beq_eq_false_iff_ne]; omega
  have d3 : decide ((300 : Int) < n) = false := decide_eq_false (by omega)
  have d4 : decide (300 < n) = false := decide_eq_false (by omega)
  have hmi : ¬ (n : Int) = 0 := by omega
  have hmi2 : ¬ n = 0 := by omega
  clear hn hA0 hB0
  go_enter Try.func6, Try.ntmps6
  go_wp2_with fail
  refine (DS.out _).mono ?_; rintro e w1 ⟨v, b, rfl, ho, hs, hb⟩
  have HS := Lib.hid hs
  have HV := Lib.hid (ho.isL (by rw [nI_len, hs.len, HN.out]; omega))
  have HB := Lib.hid hb
  clear ho hs hb DS
  go_wp2_with fail
  refine (CR.out _ _ _ HV.out HS.out).mono ?_; rintro e w2 ⟨u, rfl, hu, hb⟩
  have HV := Lib.hid (HV.out.kept hb)
  have HU := Lib.hid hu
  have HB := Lib.hid (HB.out.trans (hb.mono HB.out.size))
  have HBL := Lib.hid (show b.length = n by rw [HS.out.len, HN.out])
  clear hu hb CR
  obtain ⟨va, vc, rfl, hva⟩ := HV.out
  obtain ⟨ua, uc, rfl, hua⟩ := HU.out
  have e1 : (nI b).length = n := by rw [nI_len, HBL.out]
  have e2 : (nI (rowL L b)).length = n := by rw [nI_len, rowL_len, HBL.out]
  have HVA := Lib.hid hva
  have HUA := Lib.hid hua
  have E1 := Lib.hid e1
  have E2 := Lib.hid e2
  rw [e1, e2]
  clear hva hua HV HU e1 e2
  rcases Nat.lt_trichotomy A0 B0 with hab | hab | hab
  · have g1 : decide ((B0 : Int) < A0) = false := decide_eq_false (by omega)
    have g2 : decide (B0 < A0) = false := decide_eq_false (by omega)
    have g3 : ((A0 : Int) == B0) = false := by rw [beq_eq_false_iff_ne]; omega
    go_wp2_with fail
    go_quiet (fail)
    go_wp2_with fail
    have HW := Lib.hid (below_dn HB.out nq)
    have HVA2 := Lib.hid (HVA.out.drewN nq)
    have HUA2 := Lib.hid (HUA.out.drewN nq)
    have hAB : A0 < B0 := by omega
    clear r1 r2 r3 r4 d3 d4 hmi hmi2 e0
    generalize w2.drewN nq = w5 at *
    go_loopw [12, 13] (fun mv tv wr => ∃ d : Nat, A0 + d ≤ B0 ∧ tv = .int .i64 ((A0 : Int) + 1 + d) ∧ mv = .int .i64 (mnR L b A0 d : Nat) ∧ ∃ k, wr = w5.drewN k) (fun _ tv _ => (B0 + 1 - (intOf tv).toNat))
    case atStart => exact ⟨0, by omega, by go_num, by rw [mnR, HN.out], 0, rfl⟩
    case round =>
      obtain ⟨d, hd, rfl, rfl, kk, rfl⟩ := hrel
      by_cases hlt : A0 + d < B0
      · obtain ⟨t, ht⟩ : ∃ t, A0 + d + 1 = t := ⟨_, rfl⟩
        have hti : (A0 : Int) + 1 + d = (t : Int) := by omega
        rw [hti]
        have htB : (t : Int) ≤ B0 := by omega
        have htn : (t : Int) < n := by omega
        obtain ⟨y, rfl, hyb, hcy⟩ := HUA2.out.at t (by rw [E2.out]; omega)
        have cy := hcy t (by rw [E2.out]; omega)
        have hg2 : (nI (rowL L b)).getD t 0 = (((rowL L b).getD t 0 : Nat) : Int) := mapN_getD _ t (by rw [rowL_len, HBL.out]; omega)
        rw [hg2, rowL_getD L b t (by rw [HBL.out]; omega), if_neg (by omega)] at cy
        have hst : mnR L b A0 (d + 1) = min (mnR L b A0 d) (comAt L (b.getD (t - 1) 0) (b.getD t 0)) := by rw [mnR, ← ht]; rfl
        have hml := mnR_le L b A0 d
        obtain ⟨M, hM⟩ : ∃ M, mnR L b A0 d = M := ⟨_, rfl⟩
        obtain ⟨R, hR⟩ : ∃ R, comAt L (b.getD (t - 1) 0) (b.getD t 0) = R := ⟨_, rfl⟩
        obtain ⟨Q, hQ⟩ : ∃ Q, min M R = Q := ⟨_, rfl⟩
        rw [hM, hR, hQ] at hst
        rw [hR] at cy
        rw [hM]
        have hm1 : (if (R : Int) < M then (R : Int) else (M : Int)) = (Q : Int) := by split <;> omega
        have hm2 : (if R < M then (R : Int) else (M : Int)) = (Q : Int) := by split <;> omega
        have HST := Lib.hid hst
        have HT := Lib.hid ht
        clear hcy hg2 hst hml hM hR hQ ht hti
        go_wp2_with fail
        go_roundw
        case rel => exact ⟨d + 1, by omega, by have := HT.out; go_num, by rw [HST.out], _, rfl⟩
        case measure => simp [intOf] <;> omega
      · obtain ⟨e, rfl⟩ : ∃ e, B0 = A0 + e + 1 := ⟨B0 - A0 - 1, by omega⟩
        obtain rfl : d = e + 1 := by omega
        have htB : ¬ (A0 : Int) + 1 + ((e + 1 : Nat) : Int) ≤ ((A0 + e + 1 : Nat) : Int) := by omega
        have hcom := mnR_com HS.out A0 e (by rw [HBL.out]; omega)
        rw [hcom]
        obtain ⟨hi, hhi⟩ : ∃ h, A0 + e + 1 = h := ⟨_, rfl⟩
        rw [hhi] at htB hlt hAB hcom ⊢
        obtain ⟨y, rfl, hyb, hcy⟩ := HVA2.out.at A0 (by rw [E1.out]; omega)
        have cp := hcy A0 (by rw [E1.out]; omega)
        have cq := hcy hi (by rw [E1.out]; omega)
        have gp : (nI b).getD A0 0 = ((b.getD A0 0 : Nat) : Int) := mapN_getD b A0 (by rw [HBL.out]; omega)
        have gq : (nI b).getD hi 0 = ((b.getD hi 0 : Nat) : Int) := mapN_getD b hi (by rw [HBL.out]; omega)
        rw [gp] at cp
        rw [gq] at cq
        have hp := HS.out.lt _ (getD_mem b A0 (by rw [HBL.out]; omega))
        have hq := HS.out.lt _ (getD_mem b hi (by rw [HBL.out]; omega))
        obtain ⟨p, hpp⟩ : ∃ p, b.getD A0 0 = p := ⟨_, rfl⟩
        obtain ⟨q, hqq⟩ : ∃ q, b.getD hi 0 = q := ⟨_, rfl⟩
        rw [hpp] at cp hp
        rw [hqq] at cq hq
        rw [hpp, hqq]
        obtain ⟨C, hC⟩ : ∃ C, comAt L p q = C := ⟨_, rfl⟩
        have CO1 := Lib.hid (fun W => CO.out p q W (by have := HN.out; omega) (by have := HN.out; omega) C hC)
        rw [hC]
        have hAn : (A0 : Int) < n := by omega
        have hBn : (hi : Int) < n := by omega
        clear hcy gp gq hp hq hpp hqq hC hcom
        have HB0 := Lib.hid (show Below w.heap.size w (w5.drewN kk) from below_dn HW.out kk)
        have cp : (w5.drewN kk).cell? (y.add A0) = some (.int .i64 p) := cp
        have cq : (w5.drewN kk).cell? (y.add hi) = some (.int .i64 q) := cq
        have hyb : y.block < (w5.drewN kk).heap.size := hyb
        generalize w5.drewN kk = w6 at *
        have hS0 : w6.drew.cell? (y.add A0) = some (.int .i64 p) ∧ w6.drew.cell? (y.add hi) = some (.int .i64 q) ∧ Below w.heap.size w w6.drew := ⟨cp, cq, HB0.out.drew⟩
        have HS0 := Lib.hid hS0
        clear hS0
        go_wp2_with fail
        have hSz := Lib.hid (show w.heap.size ≤ w6.drew.heap.size from HS0.out.2.2.size)
        have keep := Lib.hid (fun (W V : World) (h : W.cell? (y.add A0) = some (.int .i64 p) ∧ W.cell? (y.add hi) = some (.int .i64 q) ∧ Below w.heap.size w W) (hb : Below W.heap.size W V) => (show V.cell? (y.add A0) = some (.int .i64 p) ∧ V.cell? (y.add hi) = some (.int .i64 q) ∧ Below w.heap.size w V from ⟨(hb.cell (cell_block h.1)).trans h.1, (hb.cell (cell_block h.2.1)).trans h.2.1, h.2.2.trans (hb.mono h.2.2.size)⟩))
        go_region_held3 (fun V => V.cell? (y.add A0) = some (.int .i64 p) ∧ V.cell? (y.add hi) = some (.int .i64 q) ∧ Below w.heap.size w V) (first | exact HS0.out | exact HS1.out | exact HS2.out) (first | (go_at_call 21; with_reducible refine (CO1.out _).mono ?_; rintro e wx ⟨rfl, hbx⟩; have HS1 := Lib.hid (keep.out _ _ HS0.out hbx)) | (go_at_call 19; with_reducible refine (awake20 _).mono ?_; rintro e wy ⟨rfl, hby⟩; have HS2 := Lib.hid (keep.out _ _ HS1.out hby)) | fail)
        simp only [Exit.then]
        rename_i hK hHeld
        refine hK _ _ ?_
        clear hK
        have HF := Lib.hid hHeld.2.2
        clear hHeld
        go_wp2_with fail
        go_ret
        exact ⟨rfl, HF.out⟩
  · have g1 : decide ((B0 : Int) < A0) = false := decide_eq_false (by omega)
    have g2 : decide (B0 < A0) = false := decide_eq_false (by omega)
    have g3 : ((A0 : Int) == B0) = true := by rw [beq_iff_eq]; omega
    go_wp2_with fail
    go_quiet (fail)
    go_wp2_with fail
    refine (awake20 _).mono ?_; rintro e w9 ⟨rfl, hb9⟩
    go_wp2_with fail
    go_ret
    exact ⟨rfl, (below_dn HB.out _).trans (hb9.mono HB.out.size)⟩
  · have g1 : decide ((B0 : Int) < A0) = true := decide_eq_true (by omega)
    have g2 : decide (B0 < A0) = true := decide_eq_true (by omega)
    have g3 : ((B0 : Int) == A0) = false := by rw [beq_eq_false_iff_ne]; omega
    go_wp2_with fail
    go_quiet (fail)
    go_wp2_with fail
    have HW := Lib.hid (below_dn HB.out nq)
    have HVA2 := Lib.hid (HVA.out.drewN nq)
    have HUA2 := Lib.hid (HUA.out.drewN nq)
    have hAB : B0 < A0 := by omega
    clear r1 r2 r3 r4 d3 d4 hmi hmi2 e0
    generalize w2.drewN nq = w5 at *
    go_loopw [12, 13] (fun mv tv wr => ∃ d : Nat, B0 + d ≤ A0 ∧ tv = .int .i64 ((B0 : Int) + 1 + d) ∧ mv = .int .i64 (mnR L b B0 d : Nat) ∧ ∃ k, wr = w5.drewN k) (fun _ tv _ => (A0 + 1 - (intOf tv).toNat))
    case atStart => exact ⟨0, by omega, by go_num, by rw [mnR, HN.out], 0, rfl⟩
    case round =>
      obtain ⟨d, hd, rfl, rfl, kk, rfl⟩ := hrel
      by_cases hlt : B0 + d < A0
      · obtain ⟨t, ht⟩ : ∃ t, B0 + d + 1 = t := ⟨_, rfl⟩
        have hti : (B0 : Int) + 1 + d = (t : Int) := by omega
        rw [hti]
        have htB : (t : Int) ≤ A0 := by omega
        have htn : (t : Int) < n := by omega
        obtain ⟨y, rfl, hyb, hcy⟩ := HUA2.out.at t (by rw [E2.out]; omega)
        have cy := hcy t (by rw [E2.out]; omega)
        have hg2 : (nI (rowL L b)).getD t 0 = (((rowL L b).getD t 0 : Nat) : Int) := mapN_getD _ t (by rw [rowL_len, HBL.out]; omega)
        rw [hg2, rowL_getD L b t (by rw [HBL.out]; omega), if_neg (by omega)] at cy
        have hst : mnR L b B0 (d + 1) = min (mnR L b B0 d) (comAt L (b.getD (t - 1) 0) (b.getD t 0)) := by rw [mnR, ← ht]; rfl
        have hml := mnR_le L b B0 d
        obtain ⟨M, hM⟩ : ∃ M, mnR L b B0 d = M := ⟨_, rfl⟩
        obtain ⟨R, hR⟩ : ∃ R, comAt L (b.getD (t - 1) 0) (b.getD t 0) = R := ⟨_, rfl⟩
        obtain ⟨Q, hQ⟩ : ∃ Q, min M R = Q := ⟨_, rfl⟩
        rw [hM, hR, hQ] at hst
        rw [hR] at cy
        rw [hM]
        have hm1 : (if (R : Int) < M then (R : Int) else (M : Int)) = (Q : Int) := by split <;> omega
        have hm2 : (if R < M then (R : Int) else (M : Int)) = (Q : Int) := by split <;> omega
        have HST := Lib.hid hst
        have HT := Lib.hid ht
        clear hcy hg2 hst hml hM hR hQ ht hti
        go_wp2_with fail
        go_roundw
        case rel => exact ⟨d + 1, by omega, by have := HT.out; go_num, by rw [HST.out], _, rfl⟩
        case measure => simp [intOf] <;> omega
      · obtain ⟨e, rfl⟩ : ∃ e, A0 = B0 + e + 1 := ⟨A0 - B0 - 1, by omega⟩
        obtain rfl : d = e + 1 := by omega
        have htB : ¬ (B0 : Int) + 1 + ((e + 1 : Nat) : Int) ≤ ((B0 + e + 1 : Nat) : Int) := by omega
        have hcom := mnR_com HS.out B0 e (by rw [HBL.out]; omega)
        rw [hcom]
        obtain ⟨hi, hhi⟩ : ∃ h, B0 + e + 1 = h := ⟨_, rfl⟩
        rw [hhi] at htB hlt hAB hcom ⊢
        obtain ⟨y, rfl, hyb, hcy⟩ := HVA2.out.at B0 (by rw [E1.out]; omega)
        have cp := hcy B0 (by rw [E1.out]; omega)
        have cq := hcy hi (by rw [E1.out]; omega)
        have gp : (nI b).getD B0 0 = ((b.getD B0 0 : Nat) : Int) := mapN_getD b B0 (by rw [HBL.out]; omega)
        have gq : (nI b).getD hi 0 = ((b.getD hi 0 : Nat) : Int) := mapN_getD b hi (by rw [HBL.out]; omega)
        rw [gp] at cp
        rw [gq] at cq
        have hp := HS.out.lt _ (getD_mem b B0 (by rw [HBL.out]; omega))
        have hq := HS.out.lt _ (getD_mem b hi (by rw [HBL.out]; omega))
        obtain ⟨p, hpp⟩ : ∃ p, b.getD B0 0 = p := ⟨_, rfl⟩
        obtain ⟨q, hqq⟩ : ∃ q, b.getD hi 0 = q := ⟨_, rfl⟩
        rw [hpp] at cp hp
        rw [hqq] at cq hq
        rw [hpp, hqq]
        obtain ⟨C, hC⟩ : ∃ C, comAt L p q = C := ⟨_, rfl⟩
        have CO1 := Lib.hid (fun W => CO.out p q W (by have := HN.out; omega) (by have := HN.out; omega) C hC)
        rw [hC]
        have hAn : (B0 : Int) < n := by omega
        have hBn : (hi : Int) < n := by omega
        clear hcy gp gq hp hq hpp hqq hC hcom
        have HB0 := Lib.hid (show Below w.heap.size w (w5.drewN kk) from below_dn HW.out kk)
        have cp : (w5.drewN kk).cell? (y.add B0) = some (.int .i64 p) := cp
        have cq : (w5.drewN kk).cell? (y.add hi) = some (.int .i64 q) := cq
        have hyb : y.block < (w5.drewN kk).heap.size := hyb
        generalize w5.drewN kk = w6 at *
        have hS0 : w6.drew.cell? (y.add B0) = some (.int .i64 p) ∧ w6.drew.cell? (y.add hi) = some (.int .i64 q) ∧ Below w.heap.size w w6.drew := ⟨cp, cq, HB0.out.drew⟩
        have HS0 := Lib.hid hS0
        clear hS0
        go_wp2_with fail
        have hSz := Lib.hid (show w.heap.size ≤ w6.drew.heap.size from HS0.out.2.2.size)
        have keep := Lib.hid (fun (W V : World) (h : W.cell? (y.add B0) = some (.int .i64 p) ∧ W.cell? (y.add hi) = some (.int .i64 q) ∧ Below w.heap.size w W) (hb : Below W.heap.size W V) => (show V.cell? (y.add B0) = some (.int .i64 p) ∧ V.cell? (y.add hi) = some (.int .i64 q) ∧ Below w.heap.size w V from ⟨(hb.cell (cell_block h.1)).trans h.1, (hb.cell (cell_block h.2.1)).trans h.2.1, h.2.2.trans (hb.mono h.2.2.size)⟩))
        go_region_held3 (fun V => V.cell? (y.add B0) = some (.int .i64 p) ∧ V.cell? (y.add hi) = some (.int .i64 q) ∧ Below w.heap.size w V) (first | exact HS0.out | exact HS1.out | exact HS2.out) (first | (go_at_call 21; with_reducible refine (CO1.out _).mono ?_; rintro e wx ⟨rfl, hbx⟩; have HS1 := Lib.hid (keep.out _ _ HS0.out hbx)) | (go_at_call 19; with_reducible refine (awake20 _).mono ?_; rintro e wy ⟨rfl, hby⟩; have HS2 := Lib.hid (keep.out _ _ HS1.out hby)) | fail)
        simp only [Exit.then]
        rename_i hK hHeld
        refine hK _ _ ?_
        clear hK
        have HF := Lib.hid hHeld.2.2
        clear hHeld
        go_wp2_with fail
        go_ret
        exact ⟨rfl, HF.out⟩
end Go.Proofs.Ytpkidedepcnoaaa
