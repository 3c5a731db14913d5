/- Layer 59: the document's Norm. -/
import Derived.Test.YtplopddlpoffoaaAM3
import Derived.Deep.LoopGhost
namespace Go.Proofs.Ytplopddlpoffoaa
open Go.ChangeShapes Go.WideShapes Go.ChangeAt Go.RowKit
set_option linter.unusedVariables false
set_option linter.unusedSimpArgs false
set_option maxRecDepth 100000
set_option maxHeartbeats 3200000 in
theorem dNorm (a : Option Addr) (c : Nat) (l : List Int) (n : Int) (w : World) (h : IsInts w a l) : Calls Try.prog 11 #[.slice a l.length c, .int .i64 n] w fun e w' => ∃ v, e = .returned (.tuple #[v, .int .i64 (totV l n).2]) ∧ OwnI w.heap.size w' v (normV l n) ∧ Below w.heap.size w w' := by
  have CT := Lib.hid (dCheck59 a c l n w h h.1)
  unfold normV
  obtain ⟨⟨A, E⟩, hT⟩ : ∃ r, totV l n = r := ⟨_, rfl⟩
  rw [hT] at CT ⊢
  simp only at CT ⊢
  by_cases hE : E = 0
  · subst hE
    rw [if_pos rfl]
    obtain ⟨m, q, rfl, hm5, hm12, hq, hl256, hl0, hA0, hA1, hf⟩ := tot_facts hT
    have hq1 : q ≤ 4096 := by rw [← hq]; exact Nat.pow_le_pow_right (by decide) hm12
    have hq0 : 1 ≤ q := by rw [← hq]; exact Nat.pow_pos (by decide)
    have hQ : ((2 : Int) ^ m) = (q : Int) := by rw [← hq]; simp
    rw [Int.toNat_natCast, hQ]
    have hW : IntKind.i64.wrap ((2 : Int) ^ m) = (q : Int) := by rw [hQ, IntKind.wrap_i64]; omega
    have hbd := norm0_bd (q := (q : Int)) (by omega) hA0 hf
    have hlen0 : (norm0 l q A).length = l.length := by simp [norm0]
    have hS := sumI_bd (norm0 l q A) 0 q hbd
    have HN0 := Lib.hid (fun k hk => norm0_get l q A k hk)
    have HST := Lib.hid (fun k hk => sumI_take (norm0 l q A) k hk)
    have HDL := Lib.hid (fun j => decs_len j (norm0 l q A))
    have HDS := Lib.hid (fun j => decs_sum j (norm0 l q A) (by rw [hlen0]; exact hl0))
    have HDB := Lib.hid (fun j => decs_bd j (norm0 l q A) (by rw [hlen0]; exact hl0) q (by omega) hbd)
    have HBD := Lib.hid hbd
    have HFB := Lib.hid hf
    have HI := Lib.hid h
    have HL0 := Lib.hid hlen0
    have HSB := Lib.hid hS
    have hmin : min m 64 = m := by omega
    have hQN := Lib.hid hq
    obtain ⟨NL, hNL⟩ : ∃ NL, normL l q A = NL := ⟨_, rfl⟩
    rw [hNL]
    have HNL := Lib.hid (show (decs (sumI (norm0 l q A) - q).toNat (norm0 l q A)).set (grL (decs (sumI (norm0 l q A) - q).toNat (norm0 l q A))) ((decs (sumI (norm0 l q A) - q).toNat (norm0 l q A)).getD (grL (decs (sumI (norm0 l q A) - q).toNat (norm0 l q A))) 0 + q - sumI (decs (sumI (norm0 l q A) - q).toNat (norm0 l q A))) = NL from hNL)
    clear hNL
    clear h hT hq hf hbd hlen0 hS hQ
    go_enter Try.func11, Try.ntmps11
    go_wp2_with fail
    refine CT.out.mono ?_; rintro e w1 ⟨rfl, rfl⟩
    go_wp2_with (refine make_int rfl _ _ rfl .i64 .i64 (l.length : Int) (l.length : Int) l.length rfl rfl rfl rfl (by omega) ?_; intro w2 ho2 hb2 hs2)
    have HO2 := Lib.hid ho2
    have HB2 := Lib.hid hb2
    obtain ⟨g, hg⟩ : ∃ g, w1.heap.size = g := ⟨_, rfl⟩
    rw [hg] at HO2 HB2 ⊢
    have HGE := Lib.hid hg
    clear ho2 hb2 hs2 hg CT
    go_wp2_with fail
    go_loopw [10] (fun iv wr => ∃ (k : Nat) (o : List Int), k ≤ l.length ∧ iv = .int .i64 k ∧ Hid (At0 l q A l.length k o) ∧ Hid (OwnI g wr (.slice (some ⟨g, 0, none⟩) l.length l.length) o) ∧ Hid (Below g w1 wr)) (fun iv _ => l.length - (intOf iv).toNat)
    case atStart => exact ⟨0, _, Nat.zero_le _, rfl, Lib.hid (At0.zero l q A l.length), HO2, HB2⟩
    case round =>
      clear HO2 HB2
      obtain ⟨k, o, hk, rfl, hat, ho, hb⟩ := hrel
      by_cases hlt : k < l.length
      · obtain ⟨x, rfl, -, cx0⟩ := (HI.out.kept (by rw [HGE.out]; exact hb.out)).at k hlt
        have cx := cx0 k hlt
        have hn := HN0.out k hlt
        have hst := HST.out k (by rw [HL0.out]; exact hlt)
        have hsb := HSB.out k (by rw [HL0.out]; exact hk)
        have hvb := HBD.out k (by rw [HL0.out]; exact hlt)
        have hfb := HFB.out k hlt
        have HSK := Lib.hid (fun h0 => At0.skip hat.out h0)
        have HPT := Lib.hid (At0.put hat.out hlt)
        have cg := ho.out.int_cell k (by rw [hat.out.len]; exact hlt)
        have cgf := ho.out.free k
        have HSE := Lib.hid (fun v => ho.out.set_int k v (by rw [hat.out.len]; exact hlt))
        obtain ⟨V, hV⟩ : ∃ V, (norm0 l q A).getD k 0 = V := ⟨_, rfl⟩
        obtain ⟨F, hF⟩ : ∃ F, l.getD k 0 = F := ⟨_, rfl⟩
        obtain ⟨S, hS⟩ : ∃ S, sumI ((norm0 l q A).take k) = S := ⟨_, rfl⟩
        rw [hV] at hn hst HSK HPT hvb
        rw [hF] at cx hn hfb
        rw [hS] at hst hsb
        have HSTT := Lib.hid hst
        have hkq : (q : Int) * (k : Int) ≤ 4096 * 256 := Int.mul_le_mul (by omega) (by omega) (by omega) (by omega)
        have hS1 : -100000000 ≤ S ∧ S ≤ 100000000 := by omega
        obtain ⟨U, hU⟩ : ∃ U, o.getD k 0 = U := ⟨_, rfl⟩
        rw [hU] at cg
        clear hV hF hS cx0 hst hU hsb
        by_cases hp : 0 < F
        · rw [if_pos hp] at hn
          have hFq0 : 0 ≤ F * (q : Int) := Int.mul_nonneg (by omega) (by omega)
          have hFq1 : F * (q : Int) ≤ 4294967295 * 4096 := Int.mul_le_mul (by omega) (by omega) (by omega) (by omega)
          obtain ⟨X, hX⟩ : ∃ X, F * (q : Int) = X := ⟨_, rfl⟩
          rw [hX] at hn hFq0 hFq1
          obtain ⟨D, hD⟩ : ∃ D, X / A = D := ⟨_, rfl⟩
          rw [hD] at hn
          have hD0 : 0 ≤ D := by rw [← hD]; exact Int.ediv_nonneg hFq0 (by omega)
          have hsh : IntKind.i64.wrap (F * (q : Int)) = X := by
            rw [hX, IntKind.wrap_i64]; omega
          have hdv : X.tdiv A = D := by rw [Int.tdiv_eq_ediv_of_nonneg hFq0, hD]
          have hA00 : (A == 0) = false := by rw [beq_eq_false_iff_ne]; omega
          have hA01 : ¬ A = 0 := by omega
          have hD1 : D ≤ 4096 := by omega
          have hmx : (if 1 < D then D else 1) = V := by rw [hn]; by_cases h1 : 1 < D; (· rw [if_pos h1]; omega); (· rw [if_neg h1]; omega)
          have hwD : IntKind.i64.wrap D = D := by rw [IntKind.wrap_i64]; omega
          have hwS : IntKind.i64.wrap (S + V) = S + V := by rw [IntKind.wrap_i64]; omega
          have HO3 := Lib.hid (HSE.out V)
          have HB3 := Lib.hid (hb.out.setCell (p := ⟨g, k, none⟩) (Nat.le_refl _) (.int .i64 V))
          have hkl : (k : Int) < (l.length : Int) := by omega
          clear hn hX hD hFq0 hFq1 hkq hS1 hvb hfb HSE
          go_wp2_with fail
          go_roundw
          case rel => exact ⟨k + 1, _, by omega, by go_num, HPT, HO3, HB3⟩
          case measure => simp [intOf]; omega
        · rw [if_neg hp] at hn
          subst hn
          have HAT := Lib.hid (HSK.out rfl)
          rw [Int.add_zero] at HSTT
          clear hkq hS1 hvb hfb HSE
          go_wp2_with fail
          go_roundw
          case rel => exact ⟨k + 1, o, by omega, by go_num, HAT, ho, hb⟩
          case measure => simp [intOf]; omega
      · obtain rfl : k = l.length := by omega
        have hoe := hat.out.end
        subst hoe
        have HOO := Lib.hid ho.out
        have HBB := Lib.hid hb.out
        obtain ⟨O, hO⟩ : ∃ O, norm0 l q A = O := ⟨_, rfl⟩
        rw [hO] at HOO HDL HDS HDB HL0 HNL
        have hT : O.take l.length = O := by rw [List.take_of_length_le]; rw [HL0.out]; exact Nat.le_refl _
        try rw [hT]
        have hSq : sumI O ≤ 4096 * 256 := by
          have := (HSB.out l.length (by rw [hO, HL0.out]; exact Nat.le_refl _)).2
          rw [hO, hT] at this
          have : (q : Int) * (l.length : Int) ≤ 4096 * 256 := Int.mul_le_mul (by omega) (by omega) (by omega) (by omega)
          omega
        have hSl : -(4096 * 256) ≤ sumI O := by
          have := (HSB.out l.length (by rw [hO, HL0.out]; exact Nat.le_refl _)).1
          rw [hO, hT] at this
          omega
        obtain ⟨S, hS⟩ : ∃ S, sumI O = S := ⟨_, rfl⟩
        rw [hS] at hSq hSl HDS HNL
        try rw [hS]
        clear hat ho hb hT HN0 HST HBD HSB hO HFB
        go_wp2_with fail
        have CG := Lib.hid (fun W (o : List Int) (hl : o.length = l.length) (ho : OwnI g W (.slice (some ⟨g, 0, none⟩) l.length l.length) o) => show Calls Try.prog 27 #[.slice (some ⟨g, 0, none⟩) l.length l.length] W fun e w' => e = .returned (.int .i64 ((grL o : Nat) : Int)) ∧ ∃ j, w' = W.drewN j by
          obtain ⟨aa, cc, he, hI⟩ := ho.isL (by omega)
          injection he with h1 h2 h3
          subst h1 h3
          have := dGreatest (some ⟨g, 0, none⟩) l.length o W hI (by omega)
          rw [hl] at this
          exact this)
        have CSU := Lib.hid (fun W (o : List Int) (hl : o.length = l.length) (ho : OwnI g W (.slice (some ⟨g, 0, none⟩) l.length l.length) o) (hbb : inB o (-4294967296) 4294967296) => show Calls Try.prog 26 #[.slice (some ⟨g, 0, none⟩) l.length l.length] W fun e w' => e = .returned (.int .i64 (sumI o)) ∧ w' = W by
          obtain ⟨aa, cc, he, hI⟩ := ho.isL (by omega)
          injection he with h1 h2 h3
          subst h1 h3
          have := dSum (some ⟨g, 0, none⟩) l.length o W hI (by omega) hbb
          rw [hl] at this
          exact this)
        go_loopg [] (S - q).toNat (fun f wr => ∃ j : Nat, j + f = (S - q).toNat ∧ Hid (OwnI g wr (.slice (some ⟨g, 0, none⟩) l.length l.length) (decs j O)) ∧ Hid (Below g w1 wr))
        case atStart => exact ⟨0, by omega, HOO, HBB⟩
        case round =>
          clear HOO HBB
          obtain ⟨j, hj, ho, hb⟩ := hrel
          have hdl := HDL.out j
          rw [HL0.out] at hdl
          have hgl := grL_lt (l := decs j O) (by rw [hdl]; exact hl0)
          have hj2 : (j : Int) ≤ 2000000 := by omega
          have HDBJ := Lib.hid (HDB.out j)
          have hdb := HDB.out j (grL (decs j O)) hgl
          rw [hdl] at hgl
          have hds := HDS.out j
          have CS1 := Lib.hid (CSU.out wr _ hdl ho.out (fun i hi => by have := HDBJ.out i hi; omega))
          rw [hds] at CS1
          have CGG := Lib.hid (fun W (h : OwnI g W (.slice (some ⟨g, 0, none⟩) l.length l.length) (decs j O)) => CG.out W _ hdl h)
          have CSS := Lib.hid (fun W (h : OwnI g W (.slice (some ⟨g, 0, none⟩) l.length l.length) (decs j O)) => CSU.out W _ hdl h (fun i hi => by have := HDBJ.out i hi; omega))
          rw [hds] at CSS
          by_cases hlt : (q : Int) < S - j
          · go_wp2_with fail
            refine CS1.out.mono ?_; rintro e w5 ⟨rfl, rfl⟩
            go_wp2_with fail
            refine (CGG.out _ ho.out).mono ?_; rintro e w6 ⟨rfl, jd, rfl⟩
            have HOX := Lib.hid (show OwnI g (w5.drewN jd) _ _ from OwnS.kept ho.out (below_dn (Below.refl _ _) jd))
            have HBX := Lib.hid (below_dn hb.out jd)
            obtain ⟨W6, hW6⟩ : ∃ W6, w5.drewN jd = W6 := ⟨_, rfl⟩
            rw [hW6] at HOX HBX ⊢
            have cg := HOX.out.int_cell (grL (decs j O)) (by rw [hdl]; exact hgl)
            have cgf := HOX.out.free (grL (decs j O))
            have HO2 := Lib.hid (show OwnI g (W6.setCell ⟨g, grL (decs j O), none⟩ (.int .i64 ((decs j O).getD (grL (decs j O)) 0 - 1))) (.slice (some ⟨g, 0, none⟩) l.length l.length) (decs (j + 1) O) from HOX.out.set_int _ _ (by rw [hdl]; exact hgl))
            obtain ⟨G, hG⟩ : ∃ G, grL (decs j O) = G := ⟨_, rfl⟩
            rw [hG] at hgl hdb cg cgf HO2 ⊢
            obtain ⟨U, hU⟩ : ∃ U, (decs j O).getD G 0 = U := ⟨_, rfl⟩
            rw [hU] at hdb cg HO2
            have HB2 := Lib.hid (HBX.out.setCell (p := ⟨g, G, none⟩) (Nat.le_refl _) (.int .i64 (U - 1)))
            have hwU : IntKind.i64.wrap (U - 1) = U - 1 := by rw [IntKind.wrap_i64]; omega
            have hG0 : (0 : Int) ≤ (G : Int) := by omega
            have hG1 : (G : Int) < (l.length : Int) := by omega
            have hfp : 0 < gk := by omega
            clear hG hU hdl hdb hW6 hds
            go_wp2_with fail
            go_roundg (gk - 1)
            case rel => exact ⟨j + 1, by omega, HO2, HB2⟩
            case measure => omega
          · have hj3 : (S - (q : Int)).toNat = j := by omega
            rw [hj3] at HNL
            obtain ⟨o, hoo⟩ : ∃ o, decs j O = o := ⟨_, rfl⟩
            rw [hoo] at HNL hds hgl hdb ho hdl CSS CGG
            have HSE := Lib.hid (fun W v (h : OwnI g W (.slice (some ⟨g, 0, none⟩) l.length l.length) o) => OwnS.set_int h (grL o) v (by rw [hdl]; exact hgl))
            have HCE := Lib.hid (fun W (h : OwnI g W (.slice (some ⟨g, 0, none⟩) l.length l.length) o) => OwnS.int_cell h (grL o) (by rw [hdl]; exact hgl))
            obtain ⟨G, hG⟩ : ∃ G, grL o = G := ⟨_, rfl⟩
            rw [hG] at hgl hdb CGG HSE HNL HCE
            obtain ⟨U, hU⟩ : ∃ U, o.getD G 0 = U := ⟨_, rfl⟩
            rw [hU] at hdb HNL HCE
            rw [hds] at HNL
            obtain ⟨T, hT⟩ : ∃ T, U + (q : Int) = T := ⟨_, rfl⟩
            obtain ⟨R, hR⟩ : ∃ R, T - (S - (j : Int)) = R := ⟨_, rfl⟩
            rw [hT, hR] at HNL
            have hwT : IntKind.i64.wrap (U + (q : Int)) = T := by rw [hT, IntKind.wrap_i64]; omega
            have hwR : IntKind.i64.wrap (T - (S - (j : Int))) = R := by rw [hR, IntKind.wrap_i64]; omega
            have hG0 : (0 : Int) ≤ (G : Int) := by omega
            have hG1 : (G : Int) < (l.length : Int) := by omega
            have HOW := Lib.hid ho.out
            have HBW := Lib.hid hb.out
            clear hj3 hds hdl hG hU hT hR hoo ho hb hdb HDL HDS HDB CG HDBJ
            go_wp2_with fail
            refine CS1.out.mono ?_; rintro e w5 ⟨rfl, rfl⟩
            go_wp2_with fail
            refine (CGG.out _ HOW.out).mono ?_; rintro e w6 ⟨rfl, jd, rfl⟩
            have HOX := Lib.hid (show OwnI g (w5.drewN jd) _ _ from OwnS.kept HOW.out (below_dn (Below.refl _ _) jd))
            have HBX := Lib.hid (below_dn HBW.out jd)
            obtain ⟨W6, hW6⟩ : ∃ W6, w5.drewN jd = W6 := ⟨_, rfl⟩
            rw [hW6] at HOX HBX ⊢
            have cg := HCE.out W6 HOX.out
            have cgf := HOX.out.free G
            clear hW6
            go_wp2_with fail
            go_region_with (go_at_call 26; (with_reducible refine (CSS.out _ HOX.out.drew).mono ?_); rintro e wx ⟨rfl, rfl⟩)
            all_goals
              go_wp2_with fail
              go_ret2
              rw [HGE.out]
              exact ⟨_, rfl, by rw [← HNL.out]; exact (HSE.out _ R HOX.out).drew, (HBX.out.setCell (p := ⟨g, G, none⟩) (Nat.le_refl _) _).drew⟩
  · rw [if_neg hE]
    have hne : (E != 0) = true := by rw [bne_iff_ne]; exact hE
    go_enter Try.func11, Try.ntmps11
    go_wp2_with fail
    refine CT.out.mono ?_; rintro e w1 ⟨rfl, rfl⟩
    go_wp2_with fail
    go_ret2
    exact ⟨_, rfl, ⟨rfl, .inl ⟨rfl, rfl⟩⟩, Below.refl _ _⟩
end Go.Proofs.Ytplopddlpoffoaa
