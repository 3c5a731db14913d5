/- Layer 59: the document's Spread. -/
import Derived.Test.YtplopddlpoffoaaAM6
namespace Go.Proofs.Ytplopddlpoffoaa
open Go.ChangeShapes Go.WideShapes Go.ChangeAt Go.RowKit
set_option linter.unusedVariables false
set_option linter.unusedSimpArgs false
set_option maxRecDepth 100000
theorem norV_of {l : List Int} {q : Int} (h1 : l.length ≤ 256) (h2 : ∀ i, i < l.length → 0 ≤ l.getD i 0) (h3 : sumI l = q) : norV l q = true := by
  unfold norV
  rw [Bool.and_eq_true, decide_eq_true_eq]
  refine ⟨h1, (norL_iff q l 0).2 ⟨fun x hx => ?_, by omega⟩⟩
  obtain ⟨i, hi, e⟩ := List.mem_iff_getElem.1 hx
  have := h2 i hi
  rw [List.getD_eq_getElem?_getD, List.getElem?_eq_getElem hi] at this
  simpa [e] using this
theorem norV_bad {l : List Int} {q : Int} (i : Nat) (hi : i < l.length) (h : l.getD i 0 < 0 ∨ q < l.getD i 0) : norV l q = false := by
  cases hn : norV l q with
  | false => rfl
  | true => have := (norV_facts hn).2.1 i hi; omega
theorem norV_sum {l : List Int} {q : Int} (h : sumI l ≠ q) : norV l q = false := by
  cases hn : norV l q with
  | false => rfl
  | true => exact absurd (norV_facts hn).2.2 h
theorem norV_long {l : List Int} {q : Int} (h : 256 < l.length) : norV l q = false := by
  cases hn : norV l q with
  | false => rfl
  | true => have := (norV_facts hn).1; omega
set_option maxHeartbeats 3200000 in
theorem dSpread (a : Option Addr) (c : Nat) (l : List Int) (n : Int) (w : World) (h : IsInts w a l) : Calls Try.prog 13 #[.slice a l.length c, .int .i64 n] w fun e w' => ∃ v, e = .returned (.tuple #[v, .int .i64 (sprV l n).2]) ∧ OwnI w.heap.size w' v (sprV l n).1 ∧ Below w.heap.size w w' := by
  unfold sprV
  by_cases h1 : n < 5 ∨ 12 < n
  · rw [if_pos h1]
    by_cases h2 : n < 5
    · have d1 : decide (n < 5) = true := by simpa using h2
      go_enter Try.func13, Try.ntmps13
      go_wp2_with fail
      go_ret2
      exact ⟨_, rfl, own_nil _ _, Below.refl _ _⟩
    · have d1 : decide (n < 5) = false := by simpa using h2
      have d2 : decide (12 < n) = true := by simp; omega
      go_enter Try.func13, Try.ntmps13
      go_wp2_with fail
      go_ret2
      exact ⟨_, rfl, own_nil _ _, Below.refl _ _⟩
  rw [if_neg h1]
  have d1 : decide (n < 5) = false := by simp; omega
  have d2 : decide (12 < n) = false := by simp; omega
  obtain ⟨m, rfl⟩ : ∃ m : Nat, n = m := ⟨n.toNat, by omega⟩
  have hm : m ≤ 12 := by omega
  have hm5 : 5 ≤ m := by omega
  rw [Int.toNat_natCast]
  obtain ⟨q, hq⟩ : ∃ q : Nat, 2 ^ m = q := ⟨_, rfl⟩
  have hq4 : q ≤ 4096 := by rw [← hq]; exact Nat.pow_le_pow_right (by decide) (show m ≤ 12 by omega)
  have hq32 : 32 ≤ q := by rw [← hq]; exact Nat.le_trans (show 32 ≤ 2 ^ 5 by decide) (Nat.pow_le_pow_right (by decide) hm5)
  have hq5 : 0 < q := by omega
  have hQ : ((2 : Int) ^ m) = (q : Int) := by rw [← hq]; simp
  rw [hQ, hq]
  have hW : IntKind.i64.wrap ((2 : Int) ^ m) = (q : Int) := by rw [hQ, IntKind.wrap_i64]; omega
  have hmin : min m 64 = m := by omega
  have hU : IntKind.u64.wrap (m : Int) = (m : Int) := IntWalk.u64_in _ (by omega)
  obtain ⟨SL, hSL⟩ : ∃ SL, sprL l q = SL := ⟨_, rfl⟩
  obtain ⟨step, hstep⟩ : ∃ step, stepN q = step := ⟨_, rfl⟩
  have hst : step = q / 2 + q / 8 + 3 := by rw [← hstep]; rfl
  have HSL := Lib.hid (show placeL step q (symF l 0) 0 (List.replicate q 0) = SL by rw [← hstep]; exact hSL)
  rw [hSL]
  obtain ⟨⟨R1, R2⟩, hR⟩ : ∃ R, (if norV l q = true then (SL, (0 : Int)) else ([], 4)) = R := ⟨_, rfl⟩
  rw [hR]
  simp only
  have HBAD := Lib.hid (show norV l q = false → (([], 4) : List Int × Int) = (R1, R2) from fun h => by rw [h] at hR; exact hR)
  have HOK := Lib.hid (show norV l q = true → ((SL, 0) : List Int × Int) = (R1, R2) from fun h => by rw [h] at hR; exact hR)
  have HI := Lib.hid h
  clear h h1 hR hSL hstep hq hQ
  by_cases hl : 256 < l.length
  · have d3 : decide ((256 : Int) < (l.length : Int)) = true := by simp; omega
    have hbad := HBAD.out (norV_long hl)
    injection hbad with e1 e2
    subst e1 e2
    clear HBAD HOK hst
    go_enter Try.func13, Try.ntmps13
    go_wp2_with fail
    go_ret2
    exact ⟨_, rfl, own_nil _ _, Below.refl _ _⟩
  have d3 : decide ((256 : Int) < (l.length : Int)) = false := by simp; omega
  have HST := Lib.hid hst
  have hst2 : step ≤ 4096 := by omega
  have hdv2 : (q : Int).tdiv 2 = ((q / 2 : Nat) : Int) := by rw [Int.tdiv_eq_ediv_of_nonneg (by omega)]; simp
  have hdv8 : (q : Int).tdiv 8 = ((q / 8 : Nat) : Int) := by rw [Int.tdiv_eq_ediv_of_nonneg (by omega)]; simp
  obtain ⟨q2, hq2⟩ : ∃ q2 : Nat, q / 2 = q2 := ⟨_, rfl⟩
  obtain ⟨q8, hq8⟩ : ∃ q8 : Nat, q / 8 = q8 := ⟨_, rfl⟩
  rw [hq2] at hdv2
  rw [hq8] at hdv8
  have hse : q2 + q8 + 3 = step := by omega
  have hq2b : q2 ≤ 4096 := by omega
  have hq8b : q8 ≤ 4096 := by omega
  clear hst hq2 hq8
  go_enter Try.func13, Try.ntmps13
  go_wp2_with fail
  clear d1 d2 d3
  go_loopw [7] (fun iv wr => ∃ k : Nat, k ≤ l.length ∧ iv = .int .i64 k ∧ Hid (∀ i, i < k → 0 ≤ l.getD i 0 ∧ l.getD i 0 ≤ q) ∧ wr = w) (fun iv _ => l.length - (intOf iv).toNat)
  case atStart => exact ⟨0, Nat.zero_le _, rfl, Lib.hid (fun i hi => by omega), rfl⟩
  case round =>
    obtain ⟨k, hk, rfl, hall, rfl⟩ := hrel
    by_cases hlt : k < l.length
    · obtain ⟨x, rfl, -, cx0⟩ := HI.out.at k hlt
      have cx := cx0 k hlt
      have HNB := Lib.hid (fun h => norV_bad (l := l) (q := (q : Int)) k hlt h)
      have HNX := Lib.hid (show (0 ≤ l.getD k 0 ∧ l.getD k 0 ≤ q) → ∀ i, i < k + 1 → 0 ≤ l.getD i 0 ∧ l.getD i 0 ≤ q from fun h i hi => by
        by_cases e : i = k
        · subst e; exact h
        · exact hall.out i (by omega))
      obtain ⟨V, hV⟩ : ∃ V, l.getD k 0 = V := ⟨_, rfl⟩
      rw [hV] at cx HNB HNX
      have hkl : (k : Int) < (l.length : Int) := by omega
      clear hV cx0 hdv2 hdv8 hse
      by_cases hb1 : V < 0
      · have hd : decide (V < 0) = true := by simpa using hb1
        have hbad := HBAD.out (HNB.out (.inl hb1))
        injection hbad with e1 e2
        subst e1 e2
        go_wp2_with fail
        go_ret2
        exact ⟨_, rfl, own_nil _ _, Below.refl _ _⟩
      · have hd : decide (V < 0) = false := by simpa using hb1
        by_cases hb2 : (q : Int) < V
        · have hd2 : decide ((q : Int) < V) = true := by simpa using hb2
          have hbad := HBAD.out (HNB.out (.inr hb2))
          injection hbad with e1 e2
          subst e1 e2
          go_wp2_with fail
          go_ret2
          exact ⟨_, rfl, own_nil _ _, Below.refl _ _⟩
        · have hd2 : decide ((q : Int) < V) = false := by simpa using hb2
          have HNN := Lib.hid (HNX.out ⟨by omega, by omega⟩)
          go_wp2_with fail
          go_roundw
          case rel => exact ⟨k + 1, by omega, by go_num, HNN, by first | rfl | trivial⟩
          case measure => simp [intOf]; omega
    · obtain rfl : k = l.length := by omega
      have CSU := Lib.hid (dSum a c l wr HI.out (by omega) (fun i hi => by have := hall.out i hi; omega))
      by_cases hs : sumI l = (q : Int)
      · have hok := HOK.out (norV_of (by omega) (fun i hi => (hall.out i hi).1) hs)
        injection hok with e1 e2
        subst e1 e2
        rw [hs] at CSU
        have HF := Lib.hid hall.out
        clear hs HBAD HOK hall
        go_wp2_with fail
        refine CSU.out.mono ?_; rintro e w1 ⟨rfl, rfl⟩
        go_wp2_with (refine make_int rfl _ _ rfl .i64 .i64 (q : Int) (q : Int) q rfl rfl rfl rfl (by omega) ?_; intro w2 ho2 hb2 hs2')
        have HO3 := Lib.hid ho2
        have HB3 := Lib.hid hb2
        obtain ⟨g, hg⟩ : ∃ g, w1.heap.size = g := ⟨_, rfl⟩
        rw [hg] at HO3 HB3 ⊢
        have HGE := Lib.hid hg
        clear ho2 hb2 hs2' hg CSU
        go_wp2_with fail
        go_loopw [9, 10] (fun pv iv wr => ∃ (k P : Nat) (o : List Int), k ≤ l.length ∧ iv = .int .i64 k ∧ pv = .int .i64 P ∧ P < q ∧ o.length = q ∧ Hid (placeL step q (symF (l.drop k) k) P o = SL) ∧ Hid (OwnI g wr (.slice (some ⟨g, 0, none⟩) q q) o) ∧ Hid (Below g w1 wr)) (fun _ iv _ => l.length - (intOf iv).toNat)
        case atStart => exact ⟨0, 0, _, Nat.zero_le _, rfl, rfl, hq5, by simp, HSL, HO3, HB3⟩
        case round =>
          clear HO3 HB3 HSL
          obtain ⟨k, P, o, hk, rfl, rfl, hP, hol, hpl, ho, hb⟩ := hrel
          by_cases hlt : k < l.length
          · obtain ⟨x, rfl, -, cx0⟩ := (HI.out.kept (by rw [HGE.out]; exact hb.out)).at k hlt
            have cx := cx0 k hlt
            have hf := HF.out k hlt
            have HPL := Lib.hid (show placeL step q (List.replicate (l.getD k 0).toNat (k : Int) ++ symF (l.drop (k + 1)) (k + 1)) P o = SL by rw [← symF_drop l k hlt]; exact hpl.out)
            obtain ⟨X, hX⟩ : ∃ X : Nat, l.getD k 0 = X := ⟨(l.getD k 0).toNat, by omega⟩
            rw [hX] at cx hf HPL
            rw [Int.toNat_natCast] at HPL
            have HXX := Lib.hid hX
            obtain ⟨RS, hRS⟩ : ∃ RS, symF (l.drop (k + 1)) (k + 1) = RS := ⟨_, rfl⟩
            rw [hRS] at HPL
            have HRS := Lib.hid hRS
            have hkl : (k : Int) < (l.length : Int) := by omega
            have HB0 := Lib.hid hb.out
            obtain ⟨wo, hwo⟩ : ∃ wo : World, wo = wr := ⟨_, rfl⟩
            rw [← hwo] at HB0 ho cx hb
            have HOO := Lib.hid ho.out
            have HCX := Lib.hid cx
            try rw [← hwo]
            clear hX hRS cx0 hwo ho hb hpl
            go_wp2_with fail
            go_loopw [9, 11] (fun pv iv wr => ∃ (j P : Nat) (o : List Int), j ≤ X ∧ iv = .int .i64 j ∧ pv = .int .i64 P ∧ P < q ∧ o.length = q ∧ Hid (placeL step q (List.replicate (X - j) (k : Int) ++ RS) P o = SL) ∧ Hid (OwnI g wr (.slice (some ⟨g, 0, none⟩) q q) o) ∧ Hid (Below g w1 wr)) (fun _ iv _ => X - (intOf iv).toNat)
            case atStart => exact ⟨0, P, o, Nat.zero_le _, rfl, rfl, hP, hol, HPL, HOO, HB0⟩
            case round =>
              clear HPL HOO HB0 hol hP HCX cx
              obtain ⟨j, P2, o2, hj, rfl, rfl, hP2, hol2, hpl2, ho2, hb2⟩ := hrel
              obtain ⟨y, hy, -, cy⟩ := (HI.out.kept (by rw [HGE.out]; exact hb2.out)).at k hlt
              injection hy with hy
              subst hy
              have cxi := cy k hlt
              rw [HXX.out] at cxi
              clear cy
              by_cases hjx : j < X
              · have hx1 : X - j = (X - (j + 1)) + 1 := by omega
                have HPL2 := Lib.hid (show placeL step q (List.replicate (X - (j + 1)) (k : Int) ++ RS) ((P2 + step) % q) (o2.set P2 (k : Int)) = SL by
                  have := hpl2.out
                  rw [hx1, List.replicate_succ, List.cons_append] at this
                  exact this)
                have cg := ho2.out.int_cell P2 (by rw [hol2]; exact hP2)
                have cgf := ho2.out.free P2
                have HO4 := Lib.hid (ho2.out.set_int P2 (k : Int) (by rw [hol2]; exact hP2))
                have HB4 := Lib.hid (hb2.out.setCell (p := ⟨g, P2, none⟩) (Nat.le_refl _) (.int .i64 (k : Int)))
                have hlen4 : (o2.set P2 (k : Int)).length = q := by rw [List.length_set]; exact hol2
                have hP20 : (0 : Int) ≤ (P2 : Int) := by omega
                have hP21 : (P2 : Int) < (q : Int) := by omega
                obtain ⟨P3, hP3⟩ : ∃ P3, (P2 + step) % q = P3 := ⟨_, rfl⟩
                have hP3q : P3 < q := by rw [← hP3]; exact Nat.mod_lt _ hq5
                rw [hP3] at HPL2
                have hw1 : IntKind.i64.wrap ((P2 : Int) + (q2 : Int)) = (P2 : Int) + (q2 : Int) := by rw [IntKind.wrap_i64]; omega
                have hw2 : IntKind.i64.wrap ((P2 : Int) + (q2 : Int) + (q8 : Int)) = (P2 : Int) + (q2 : Int) + (q8 : Int) := by rw [IntKind.wrap_i64]; omega
                have hw3 : IntKind.i64.wrap ((P2 : Int) + (q2 : Int) + (q8 : Int) + 3) = (P2 : Int) + (step : Int) := by rw [IntKind.wrap_i64]; omega
                have hm1 : ((P2 : Int) + (step : Int)) % (q : Int) = (P3 : Int) := by rw [← hP3]; simp
                have hm2 : ((P2 : Int) + (step : Int)).tmod (q : Int) = (P3 : Int) := by rw [Int.tmod_eq_emod_of_nonneg (by omega)]; exact hm1
                have hm3 : IntKind.i64.wrap (P3 : Int) = (P3 : Int) := by rw [IntKind.wrap_i64]; omega
                clear hP3 hx1
                go_wp2_with fail
                go_roundw
                case rel => exact ⟨j + 1, P3, _, by omega, by go_num, rfl, hP3q, hlen4, HPL2, HO4, HB4⟩
                case measure => simp [intOf]; omega
              · obtain rfl : j = X := by omega
                have HPL2 := Lib.hid (show placeL step q (symF (l.drop (k + 1)) (k + 1)) P2 o2 = SL by
                  have := hpl2.out
                  rw [Nat.sub_self, List.replicate_zero, List.nil_append] at this
                  rw [HRS.out]; exact this)
                go_wp2_with fail
                go_roundw
                case rel => exact ⟨k + 1, P2, o2, by omega, by go_num, rfl, hP2, hol2, HPL2, ho2, hb2⟩
                case measure => simp [intOf]; omega
          · obtain rfl : k = l.length := by omega
            have hSO : o = SL := by
              have := hpl.out
              rw [List.drop_eq_nil_of_le (Nat.le_refl _)] at this
              exact this
            have HOE := Lib.hid (show OwnI g wr (.slice (some ⟨g, 0, none⟩) q q) SL by rw [← hSO]; exact ho.out)
            go_wp2_with fail
            go_ret2
            rw [HGE.out]
            exact ⟨_, rfl, HOE.out, hb.out⟩
      · have hsb : (sumI l != (q : Int)) = true := by rw [bne_iff_ne]; exact hs
        have hbad := HBAD.out (norV_sum hs)
        injection hbad with e1 e2
        subst e1 e2
        go_wp2_with fail
        refine CSU.out.mono ?_; rintro e w1 ⟨rfl, rfl⟩
        go_wp2_with fail
        go_ret2
        exact ⟨_, rfl, own_nil _ _, Below.refl _ _⟩
end Go.Proofs.Ytplopddlpoffoaa
