/- Layer 59: Spread. -/
import Derived.Test.YtplopddlpoffoaaAM5
namespace Go.Proofs.Ytplopddlpoffoaa
open Go.ChangeShapes Go.WideShapes Go.ChangeAt Go.RowKit
set_option linter.unusedVariables false
set_option linter.unusedSimpArgs false
set_option maxRecDepth 100000
theorem pow_eight (m : Nat) (h : 5 ≤ m) : 2 ^ m = 8 * 2 ^ (m - 3) ∧ 2 ^ (m - 1) = 4 * 2 ^ (m - 3) := by
  obtain ⟨k, rfl⟩ : ∃ k, m = k + 3 := ⟨m - 3, by omega⟩
  rw [show k + 3 - 3 = k by omega, show k + 3 - 1 = k + 2 by omega, Nat.pow_add, Nat.pow_add]
  omega
theorem own_nil (B : Nat) (w : World) : OwnI B w (.slice none 0 0) [] := ⟨rfl, .inl ⟨rfl, rfl⟩⟩
set_option maxHeartbeats 3200000 in
theorem cSpread (a : Option Addr) (c : Nat) (l : List Int) (n : Int) (w : World) (h : IsInts w a l) : Calls Try.prog 12 #[.slice a l.length c, .int .i64 n] w fun e w' => ∃ v, e = .returned (.tuple #[v, .int .i64 (sprV l n).2]) ∧ OwnI w.heap.size w' v (sprV l n).1 ∧ Below w.heap.size w w' := by
  have CM := Lib.hid (fun W => cMay n W)
  unfold sprV
  by_cases h1 : n < 5 ∨ 12 < n
  · rw [if_pos h1]
    by_cases h2 : 5 ≤ n
    · have d1 : decide (5 ≤ n) = true := by simpa using h2
      have d2 : decide (n ≤ 12) = false := by simp; omega
      go_enter Try.func12, Try.ntmps12
      go_wp2_with fail
      refine (CM.out _).mono ?_; rintro e w1 ⟨rfl, rfl⟩
      go_wp2_with fail
      go_ret2
      exact ⟨_, rfl, own_nil _ _, Below.refl _ _⟩
    · have d1 : decide (5 ≤ n) = false := by simpa using h2
      go_enter Try.func12, Try.ntmps12
      go_wp2_with fail
      refine (CM.out _).mono ?_; rintro e w1 ⟨rfl, rfl⟩
      go_wp2_with fail
      go_ret2
      exact ⟨_, rfl, own_nil _ _, Below.refl _ _⟩
  rw [if_neg h1]
  have d1 : decide (5 ≤ n) = true := by simp; omega
  have d2 : decide (n ≤ 12) = true := by simp; omega
  obtain ⟨m, rfl⟩ : ∃ m : Nat, n = m := ⟨n.toNat, by omega⟩
  have hm : m ≤ 12 := by omega
  have hm5 : 5 ≤ m := by omega
  rw [Int.toNat_natCast]
  obtain ⟨hp8, hp1⟩ := pow_eight m hm5
  obtain ⟨r, hr⟩ : ∃ r : Nat, 2 ^ (m - 3) = r := ⟨_, rfl⟩
  obtain ⟨q, hq⟩ : ∃ q : Nat, 2 ^ m = q := ⟨_, rfl⟩
  obtain ⟨q1, hq1⟩ : ∃ q1 : Nat, 2 ^ (m - 1) = q1 := ⟨_, rfl⟩
  have hr1 : r ≤ 512 := by rw [← hr]; exact Nat.pow_le_pow_right (by decide) (show m - 3 ≤ 9 by omega)
  have hr0 : 4 ≤ r := by rw [← hr]; exact Nat.le_trans (show 4 ≤ 2 ^ 2 by decide) (Nat.pow_le_pow_right (by decide) (show 2 ≤ m - 3 by omega))
  rw [hq, hr] at hp8
  rw [hq1, hr] at hp1
  have hQ : ((2 : Int) ^ m) = (q : Int) := by rw [← hq]; simp
  rw [hQ, hq]
  have hW : IntKind.i64.wrap ((2 : Int) ^ m) = (q : Int) := by rw [hQ, IntKind.wrap_i64]; omega
  have hmin : min m 64 = m := by omega
  have CN := Lib.hid (fun W h => cNorms a c l (q : Int) (by omega) (by omega) W h)
  obtain ⟨OK, hOK⟩ : ∃ OK, norV l q = OK := ⟨_, rfl⟩
  rw [hOK] at CN ⊢
  have HI := Lib.hid h
  clear h h1
  cases OK with
  | false =>
    rw [if_neg (by decide)]
    clear hq hr hq1 hp8 hp1 hQ hr0 hr1 hOK
    go_enter Try.func12, Try.ntmps12
    go_wp2_with fail
    refine (CM.out _).mono ?_; rintro e w1 ⟨rfl, rfl⟩
    go_wp2_with fail
    refine (CN.out _ HI.out).mono ?_; rintro e w1 ⟨rfl, rfl⟩
    go_wp2_with fail
    go_ret2
    exact ⟨_, rfl, ⟨rfl, .inl ⟨rfl, rfl⟩⟩, Below.refl _ _⟩
  | true =>
    rw [if_pos rfl]
    obtain ⟨hl256, hf, -⟩ := norV_facts hOK
    have HF := Lib.hid hf
    have hlpos : 0 < l.length := by
      cases l with
      | nil =>
        have := (norV_facts hOK).2.2
        simp [sumI] at this; omega
      | cons y l => simp
    obtain ⟨SL, hSL⟩ : ∃ SL, sprL l q = SL := ⟨_, rfl⟩
    rw [hSL]
    obtain ⟨step, hstep⟩ : ∃ step, stepN q = step := ⟨_, rfl⟩
    have hst : step = 4 * r + r + 3 := by rw [← hstep]; unfold stepN; omega
    have HSL := Lib.hid (show placeL step q (symF l 0) 0 (List.replicate q 0) = SL by rw [← hstep]; exact hSL)
    have hs1 : IntKind.i64.wrap ((m : Int) - 1) = ((m - 1 : Nat) : Int) := by rw [IntKind.wrap_i64]; omega
    have hs2 : IntKind.i64.wrap ((m : Int) - 3) = ((m - 3 : Nat) : Int) := by rw [IntKind.wrap_i64]; omega
    have hs3 : IntKind.i64.wrap ((2 : Int) ^ (m - 1)) = (q1 : Int) := by
      have e1 : (2 : Int) ^ (m - 1) = ((2 ^ (m - 1) : Nat) : Int) := by simp
      rw [e1, hq1, IntKind.wrap_i64]; omega
    have hs4 : IntKind.i64.wrap ((2 : Int) ^ (m - 3)) = (r : Int) := by
      have e1 : (2 : Int) ^ (m - 3) = ((2 ^ (m - 3) : Nat) : Int) := by simp
      rw [e1, hr, IntKind.wrap_i64]; omega
    have hs5 : min (m - 1) 64 = m - 1 := by omega
    have hs6 : min (m - 3) 64 = m - 3 := by omega
    have hs7 : IntKind.i64.wrap ((q1 : Int) + (r : Int)) = (q1 : Int) + (r : Int) := by rw [IntKind.wrap_i64]; omega
    have hs8 : IntKind.i64.wrap ((q1 : Int) + (r : Int) + 3) = (step : Int) := by rw [IntKind.wrap_i64]; omega
    have HSN := Lib.hid (show (q1 : Int) + (r : Int) + 3 = (step : Int) by omega)
    have hst2 : step ≤ 4096 := by omega
    have hq4 : q ≤ 4096 := by omega
    have hq5 : 0 < q := by omega
    clear hSL hstep hOK hf hQ hq hq1 hr hp8 hp1 hst
    go_enter Try.func12, Try.ntmps12
    go_wp2_with fail
    refine (CM.out _).mono ?_; rintro e w1 ⟨rfl, rfl⟩
    go_wp2_with fail
    refine (CN.out _ HI.out).mono ?_; rintro e w1 ⟨rfl, rfl⟩
    clear d1 d2 CM CN
    go_wp2_with (refine make_int rfl _ _ rfl .i64 .i64 (q : Int) (q : Int) q rfl rfl rfl rfl (by omega) ?_; intro w2 ho2 hb2 hs2')
    have HO2 := Lib.hid ho2
    have HB2 := Lib.hid hb2
    obtain ⟨g, hg⟩ : ∃ g, w1.heap.size = g := ⟨_, rfl⟩
    rw [hg] at HO2 HB2 ⊢
    have HGE := Lib.hid hg
    clear ho2 hb2 hs2' hg
    go_wp2_with fail
    go_quiet (fail)
    rename_i nq
    obtain ⟨w3, hw3⟩ : ∃ w3, w2.drewN nq = w3 := ⟨_, rfl⟩
    have HO3 := Lib.hid (show OwnI g w3 (.slice (some ⟨g, 0, none⟩) q q) (List.replicate q 0) by rw [← hw3]; exact OwnS.kept HO2.out (below_dn (Below.refl _ _) nq))
    have HB3 := Lib.hid (show Below g w1 w3 by rw [← hw3]; exact below_dn HB2.out nq)
    rw [hw3]
    clear hw3 HO2 HB2 hs1 hs2 hs3 hs4 hs5 hs6 hs7
    go_wp2_with fail
    go_loopw [7, 32] (fun pv iv wr => ∃ (k P : Nat) (o : List Int), k ≤ l.length ∧ iv = .int .i64 k ∧ pv = .int .i64 P ∧ P < q ∧ o.length = q ∧ Hid (placeL step q (symF (l.drop k) k) P o = SL) ∧ Hid (OwnI g wr (.slice (some ⟨g, 0, none⟩) q q) o) ∧ Hid (Below g w1 wr)) (fun _ iv _ => l.length - (intOf iv).toNat)
    case atStart => exact ⟨0, 0, _, Nat.zero_le _, rfl, rfl, hq5, by simp, HSL, HO3, HB3⟩
    case round =>
      clear HO3 HB3 HSL
      obtain ⟨k, P, o, hk, rfl, rfl, hP, hol, hpl, ho, hb⟩ := hrel
      by_cases hlt : k < l.length
      · obtain ⟨x, rfl, -, cx0⟩ := (HI.out.kept (by rw [HGE.out]; exact hb.out)).at k hlt
        have cx := cx0 k hlt
        have hf := HF.out k hlt
        have HPL := Lib.hid (show placeL step q (List.replicate (l.getD k 0).toNat (k : Int) ++ symF (l.drop (k + 1)) (k + 1)) P o = SL by rw [← symF_drop l k hlt]; exact hpl.out)
        obtain ⟨X, hX⟩ : ∃ X : Nat, l.getD k 0 = X := ⟨(l.getD k 0).toNat, by omega⟩
        rw [hX] at cx hf HPL
        rw [Int.toNat_natCast] at HPL
        have HXX := Lib.hid hX
        obtain ⟨RS, hRS⟩ : ∃ RS, symF (l.drop (k + 1)) (k + 1) = RS := ⟨_, rfl⟩
        rw [hRS] at HPL
        have HRS := Lib.hid hRS
        have hkl : (k : Int) < (l.length : Int) := by omega
        have HB0 := Lib.hid hb.out
        obtain ⟨wo, hwo⟩ : ∃ wo : World, wo = wr := ⟨_, rfl⟩
        rw [← hwo] at HB0 ho cx hb
        have HOO := Lib.hid ho.out
        have HCX := Lib.hid cx
        try rw [← hwo]
        clear hX hRS cx0 hwo ho hb hpl
        go_wp2_with fail
        go_loopw [7, 38] (fun pv iv wr => ∃ (j P : Nat) (o : List Int), j ≤ X ∧ iv = .int .i64 j ∧ pv = .int .i64 P ∧ P < q ∧ o.length = q ∧ Hid (placeL step q (List.replicate (X - j) (k : Int) ++ RS) P o = SL) ∧ Hid (OwnI g wr (.slice (some ⟨g, 0, none⟩) q q) o) ∧ Hid (Below g w1 wr)) (fun _ iv _ => X - (intOf iv).toNat)
        case atStart => exact ⟨0, P, o, Nat.zero_le _, rfl, rfl, hP, hol, HPL, HOO, HB0⟩
        case round =>
          clear HPL HOO HB0 hol hP HCX cx
          obtain ⟨j, P2, o2, hj, rfl, rfl, hP2, hol2, hpl2, ho2, hb2⟩ := hrel
          by_cases hjx : j < X
          · have hx1 : X - j = (X - (j + 1)) + 1 := by omega
            have HPL2 := Lib.hid (show placeL step q (List.replicate (X - (j + 1)) (k : Int) ++ RS) ((P2 + step) % q) (o2.set P2 (k : Int)) = SL by
              have := hpl2.out
              rw [hx1, List.replicate_succ, List.cons_append] at this
              exact this)
            have cg := ho2.out.int_cell P2 (by rw [hol2]; exact hP2)
            have cgf := ho2.out.free P2
            have HO4 := Lib.hid (ho2.out.set_int P2 (k : Int) (by rw [hol2]; exact hP2))
            have HB4 := Lib.hid (hb2.out.setCell (p := ⟨g, P2, none⟩) (Nat.le_refl _) (.int .i64 (k : Int)))
            have hlen4 : (o2.set P2 (k : Int)).length = q := by rw [List.length_set]; exact hol2
            have hP20 : (0 : Int) ≤ (P2 : Int) := by omega
            have hP21 : (P2 : Int) < (q : Int) := by omega
            obtain ⟨P3, hP3⟩ : ∃ P3, (P2 + step) % q = P3 := ⟨_, rfl⟩
            have hP3q : P3 < q := by rw [← hP3]; exact Nat.mod_lt _ hq5
            rw [hP3] at HPL2
            have hw1 : IntKind.i64.wrap ((P2 : Int) + (step : Int)) = (P2 : Int) + (step : Int) := by rw [IntKind.wrap_i64]; omega
            have hm1 : ((P2 : Int) + (step : Int)) % (q : Int) = (P3 : Int) := by rw [← hP3]; simp
            have hm2 : ((P2 : Int) + (step : Int)).tmod (q : Int) = (P3 : Int) := by rw [Int.tmod_eq_emod_of_nonneg (by omega)]; exact hm1
            have hm3 : IntKind.i64.wrap (P3 : Int) = (P3 : Int) := by rw [IntKind.wrap_i64]; omega
            clear hP3 hx1
            go_wp2_with fail
            go_roundw
            case rel => exact ⟨j + 1, P3, _, by omega, by go_num, rfl, hP3q, hlen4, HPL2, HO4, HB4⟩
            case measure => simp [intOf]; omega
          · obtain rfl : j = X := by omega
            have HPL2 := Lib.hid (show placeL step q (symF (l.drop (k + 1)) (k + 1)) P2 o2 = SL by
              have := hpl2.out
              rw [Nat.sub_self, List.replicate_zero, List.nil_append] at this
              rw [HRS.out]; exact this)
            go_wp2_with fail
            go_roundw
            case rel => exact ⟨k + 1, P2, o2, by omega, by go_num, rfl, hP2, hol2, HPL2, ho2, hb2⟩
            case measure => simp [intOf]; omega
      · obtain rfl : k = l.length := by omega
        have hSO : o = SL := by
          have := hpl.out
          rw [List.drop_eq_nil_of_le (Nat.le_refl _)] at this
          exact this
        have HOE := Lib.hid (show OwnI g wr (.slice (some ⟨g, 0, none⟩) q q) SL by rw [← hSO]; exact ho.out)
        go_wp2_with fail
        go_ret2
        rw [HGE.out]
        exact ⟨_, rfl, HOE.out, hb.out⟩
end Go.Proofs.Ytplopddlpoffoaa
