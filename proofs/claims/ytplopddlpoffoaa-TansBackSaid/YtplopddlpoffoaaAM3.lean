/- Layer 59: Norm. -/
import Derived.Test.YtplopddlpoffoaaAM2
namespace Go.Proofs.Ytplopddlpoffoaa
open Go.ChangeShapes Go.WideShapes Go.ChangeAt Go.RowKit
set_option linter.unusedVariables false
set_option linter.unusedSimpArgs false
set_option maxRecDepth 100000
theorem totL_each : ∀ (l : List Int) (a u A U : Int), totL l a u = some (A, U) → ∀ i, i < l.length → 0 ≤ l.getD i 0 ∧ l.getD i 0 ≤ A - a
  | [], a, u, A, U, h, i, hi => by simp at hi
  | f :: l, a, u, A, U, h, i, hi => by
    simp only [totL] at h
    split at h
    · cases h
    · rename_i hf
      have ih := totL_each l _ _ A U h
      have hA : ∀ (l : List Int) (a u : Int), totL l a u = some (A, U) → a ≤ A := by
        intro l
        induction l with
        | nil => intro a u h; simp only [totL] at h; injection h with h; injection h with h1 h2; omega
        | cons y l ihl =>
          intro a u h
          simp only [totL] at h
          split at h
          · cases h
          · have := ihl _ _ h; omega
      have := hA l _ _ h
      cases i with
      | zero => simp; omega
      | succ i =>
        have := ih i (by simpa using hi)
        simp at this ⊢; omega
theorem totE_ok {q : Int} {l : List Int} {A : Int} {r : Option (Int × Int)} (h : totE q r = (A, 0)) : ∃ U, r = some (A, U) ∧ U ≠ 0 := by
  cases r with
  | none => simp [totE] at h
  | some p =>
    obtain ⟨a, u⟩ := p
    simp only [totE] at h
    by_cases h1 : u = 0
    · rw [if_pos h1] at h; simp at h
    · rw [if_neg h1] at h
      by_cases h2 : q < u
      · rw [if_pos h2] at h; simp at h
      · rw [if_neg h2] at h
        injection h with h _
        exact ⟨u, by rw [h], h1⟩
/-- What holds where frequencies have norms. -/
theorem tot_facts {l : List Int} {n : Int} {A : Int} (h : totV l n = (A, 0)) : ∃ m q : Nat, n = m ∧ 5 ≤ m ∧ m ≤ 12 ∧ 2 ^ m = q ∧ l.length ≤ 256 ∧ 0 < l.length ∧ 0 < A ∧ A ≤ 4294967295 ∧ ∀ i, i < l.length → 0 ≤ l.getD i 0 ∧ l.getD i 0 ≤ A := by
  unfold totV at h
  split at h
  · simp at h
  · split at h
    · simp at h
    · rename_i h1 h2
      obtain ⟨U, hr, hU⟩ := totE_ok (l := l) h
      have hb := totL_bd l 0 0 A U (by omega) (by omega) (by simp) hr
      have he := totL_each l 0 0 A U hr
      refine ⟨n.toNat, _, by omega, by omega, by omega, rfl, by omega, ?_, by omega, by omega, fun i hi => by have := he i hi; omega⟩
      cases l with
      | nil => simp only [totL] at hr; injection hr with hr; injection hr with h3 h4; omega
      | cons y l => simp
theorem norm0_bd {l : List Int} {q A : Int} (hq : 1 ≤ q) (hA : 0 < A) (h : ∀ i, i < l.length → 0 ≤ l.getD i 0 ∧ l.getD i 0 ≤ A) : inB (norm0 l q A) 0 q := by
  intro i hi
  have hi : i < l.length := by simpa [norm0] using hi
  rw [norm0_get _ _ _ _ hi]
  have h1 := h i hi
  split
  · have h2 : l.getD i 0 * q / A ≤ q := by
      apply Int.ediv_le_of_le_mul hA
      rw [Int.mul_comm q A]
      exact Int.mul_le_mul_of_nonneg_right h1.2 (by omega)
    have h3 : 0 ≤ l.getD i 0 * q / A := Int.ediv_nonneg (Int.mul_nonneg h1.1 (by omega)) (by omega)
    omega
  · omega
def normV (l : List Int) (n : Int) : List Int := if (totV l n).2 = 0 then normL l (2 ^ n.toNat) (totV l n).1 else []
structure At0 (l : List Int) (q A : Int) (N k : Nat) (o : List Int) : Prop where
  len : o.length = N
  lo : ∀ i, i < k → o.getD i 0 = (norm0 l q A).getD i 0
  hi : ∀ i, k ≤ i → o.getD i 0 = 0
theorem At0.zero (l : List Int) (q A : Int) (N : Nat) : At0 l q A N 0 (List.replicate N 0) := ⟨by simp, fun i h => by omega, fun i _ => by
  rw [List.getD_eq_getElem?_getD, List.getElem?_replicate]; split <;> rfl⟩
theorem At0.skip {l : List Int} {q A : Int} {N k : Nat} {o : List Int} (h : At0 l q A N k o) (h0 : (norm0 l q A).getD k 0 = 0) : At0 l q A N (k + 1) o := ⟨h.len, fun i hi => by
  by_cases e : i = k
  · subst e; rw [h0]; exact h.hi i (Nat.le_refl _)
  · exact h.lo i (by omega), fun i hi => h.hi i (by omega)⟩
theorem At0.put {l : List Int} {q A : Int} {N k : Nat} {o : List Int} (h : At0 l q A N k o) (hk : k < N) : At0 l q A N (k + 1) (o.set k ((norm0 l q A).getD k 0)) := ⟨by simp [h.len], fun i hi => by
  rw [set_get0 _ _ _ _ (by rw [h.len]; exact hk)]
  by_cases e : k = i
  · rw [if_pos e, e]
  · rw [if_neg e]; exact h.lo i (by omega), fun i hi => by
  rw [set_get0 _ _ _ _ (by rw [h.len]; exact hk), if_neg (by omega)]
  exact h.hi i (by omega)⟩
theorem At0.end {l : List Int} {q A : Int} {o : List Int} (h : At0 l q A l.length l.length o) : o = norm0 l q A := by
  have hl : (norm0 l q A).length = l.length := by simp [norm0]
  refine List.ext_getElem (by rw [h.len, hl]) (fun i h1 h2 => ?_)
  have := h.lo i (by rw [← hl]; exact h2)
  simpa [List.getD_eq_getElem?_getD, h1, h2] using this
set_option maxHeartbeats 3200000 in
theorem cNorm (a : Option Addr) (c : Nat) (l : List Int) (n : Int) (w : World) (h : IsInts w a l) : Calls Try.prog 10 #[.slice a l.length c, .int .i64 n] w fun e w' => ∃ v, e = .returned (.tuple #[v, .int .i64 (totV l n).2]) ∧ OwnI w.heap.size w' v (normV l n) ∧ Below w.heap.size w w' := by
  have CT := Lib.hid (cTotal a c l n w h h.1)
  unfold normV
  obtain ⟨⟨A, E⟩, hT⟩ : ∃ r, totV l n = r := ⟨_, rfl⟩
  rw [hT] at CT ⊢
  simp only at CT ⊢
  by_cases hE : E = 0
  · subst hE
    rw [if_pos rfl]
    obtain ⟨m, q, rfl, hm5, hm12, hq, hl256, hl0, hA0, hA1, hf⟩ := tot_facts hT
    have hq1 : q ≤ 4096 := by rw [← hq]; exact Nat.pow_le_pow_right (by decide) hm12
    have hq0 : 1 ≤ q := by rw [← hq]; exact Nat.pow_pos (by decide)
    have hQ : ((2 : Int) ^ m) = (q : Int) := by rw [← hq]; simp
    rw [Int.toNat_natCast, hQ]
    have hW : IntKind.i64.wrap ((2 : Int) ^ m) = (q : Int) := by rw [hQ, IntKind.wrap_i64]; omega
    have hbd := norm0_bd (q := (q : Int)) (by omega) hA0 hf
    have hlen0 : (norm0 l q A).length = l.length := by simp [norm0]
    have hS := sumI_bd (norm0 l q A) 0 q hbd
    have HN0 := Lib.hid (fun k hk => norm0_get l q A k hk)
    have HST := Lib.hid (fun k hk => sumI_take (norm0 l q A) k hk)
    have HDL := Lib.hid (fun j => decs_len j (norm0 l q A))
    have HDS := Lib.hid (fun j => decs_sum j (norm0 l q A) (by rw [hlen0]; exact hl0))
    have HDB := Lib.hid (fun j => decs_bd j (norm0 l q A) (by rw [hlen0]; exact hl0) q (by omega) hbd)
    have HBD := Lib.hid hbd
    have HFB := Lib.hid hf
    have HI := Lib.hid h
    have HL0 := Lib.hid hlen0
    have HSB := Lib.hid hS
    have hmin : min m 64 = m := by omega
    have hQN := Lib.hid hq
    obtain ⟨NL, hNL⟩ : ∃ NL, normL l q A = NL := ⟨_, rfl⟩
    rw [hNL]
    have HNL := Lib.hid (show (decs (sumI (norm0 l q A) - q).toNat (norm0 l q A)).set (grL (decs (sumI (norm0 l q A) - q).toNat (norm0 l q A))) ((decs (sumI (norm0 l q A) - q).toNat (norm0 l q A)).getD (grL (decs (sumI (norm0 l q A) - q).toNat (norm0 l q A))) 0 + q - sumI (decs (sumI (norm0 l q A) - q).toNat (norm0 l q A))) = NL from hNL)
    clear hNL
    clear h hT hq hf hbd hlen0 hS hQ
    go_enter Try.func10, Try.ntmps10
    go_wp2_with fail
    refine CT.out.mono ?_; rintro e w1 ⟨rfl, rfl⟩
    go_wp2_with (refine make_int rfl _ _ rfl .i64 .i64 (l.length : Int) (l.length : Int) l.length rfl rfl rfl rfl (by omega) ?_; intro w2 ho2 hb2 hs2)
    have HO2 := Lib.hid ho2
    have HB2 := Lib.hid hb2
    obtain ⟨g, hg⟩ : ∃ g, w1.heap.size = g := ⟨_, rfl⟩
    rw [hg] at HO2 HB2 ⊢
    have HGE := Lib.hid hg
    clear ho2 hb2 hs2 hg CT
    go_wp2_with fail
    go_loopw [9, 26] (fun sv iv wr => ∃ (k : Nat) (o : List Int), k ≤ l.length ∧ iv = .int .i64 k ∧ sv = .int .i64 (sumI ((norm0 l q A).take k)) ∧ Hid (At0 l q A l.length k o) ∧ Hid (OwnI g wr (.slice (some ⟨g, 0, none⟩) l.length l.length) o) ∧ Hid (Below g w1 wr)) (fun _ iv _ => l.length - (intOf iv).toNat)
    case atStart => exact ⟨0, _, Nat.zero_le _, rfl, rfl, Lib.hid (At0.zero l q A l.length), HO2, HB2⟩
    case round =>
      clear HO2 HB2
      obtain ⟨k, o, hk, rfl, rfl, hat, ho, hb⟩ := hrel
      by_cases hlt : k < l.length
      · obtain ⟨x, rfl, -, cx0⟩ := (HI.out.kept (by rw [HGE.out]; exact hb.out)).at k hlt
        have cx := cx0 k hlt
        have hn := HN0.out k hlt
        have hst := HST.out k (by rw [HL0.out]; exact hlt)
        have hsb := HSB.out k (by rw [HL0.out]; exact hk)
        have hvb := HBD.out k (by rw [HL0.out]; exact hlt)
        have hfb := HFB.out k hlt
        have HSK := Lib.hid (fun h0 => At0.skip hat.out h0)
        have HPT := Lib.hid (At0.put hat.out hlt)
        have cg := ho.out.int_cell k (by rw [hat.out.len]; exact hlt)
        have cgf := ho.out.free k
        have HSE := Lib.hid (fun v => ho.out.set_int k v (by rw [hat.out.len]; exact hlt))
        obtain ⟨V, hV⟩ : ∃ V, (norm0 l q A).getD k 0 = V := ⟨_, rfl⟩
        obtain ⟨F, hF⟩ : ∃ F, l.getD k 0 = F := ⟨_, rfl⟩
        obtain ⟨S, hS⟩ : ∃ S, sumI ((norm0 l q A).take k) = S := ⟨_, rfl⟩
        rw [hV] at hn hst HSK HPT hvb
        rw [hF] at cx hn hfb
        rw [hS] at hst hsb ⊢
        have HSTT := Lib.hid hst
        have hkq : (q : Int) * (k : Int) ≤ 4096 * 256 := Int.mul_le_mul (by omega) (by omega) (by omega) (by omega)
        have hS1 : -100000000 ≤ S ∧ S ≤ 100000000 := by omega
        obtain ⟨U, hU⟩ : ∃ U, o.getD k 0 = U := ⟨_, rfl⟩
        rw [hU] at cg
        clear hV hF hS cx0 hst hU hsb
        by_cases hp : 0 < F
        · rw [if_pos hp] at hn
          have hFq0 : 0 ≤ F * (q : Int) := Int.mul_nonneg (by omega) (by omega)
          have hFq1 : F * (q : Int) ≤ 4294967295 * 4096 := Int.mul_le_mul (by omega) (by omega) (by omega) (by omega)
          obtain ⟨X, hX⟩ : ∃ X, F * (q : Int) = X := ⟨_, rfl⟩
          rw [hX] at hn hFq0 hFq1
          obtain ⟨D, hD⟩ : ∃ D, X / A = D := ⟨_, rfl⟩
          rw [hD] at hn
          have hD0 : 0 ≤ D := by rw [← hD]; exact Int.ediv_nonneg hFq0 (by omega)
          have hsh : IntKind.i64.wrap (F * 2 ^ m) = X := by
            have e1 : (2 : Int) ^ m = ((2 ^ m : Nat) : Int) := by simp
            rw [e1, hQN.out, hX, IntKind.wrap_i64]; omega
          have hdv : X.tdiv A = D := by rw [Int.tdiv_eq_ediv_of_nonneg hFq0, hD]
          have hA00 : (A == 0) = false := by rw [beq_eq_false_iff_ne]; omega
          have hA01 : ¬ A = 0 := by omega
          have hD1 : D ≤ 4096 := by omega
          have hmx : (if 1 < D then D else 1) = V := by rw [hn]; by_cases h1 : 1 < D; (· rw [if_pos h1]; omega); (· rw [if_neg h1]; omega)
          have hwD : IntKind.i64.wrap D = D := by rw [IntKind.wrap_i64]; omega
          have hwS : IntKind.i64.wrap (S + V) = S + V := by rw [IntKind.wrap_i64]; omega
          have HO3 := Lib.hid (HSE.out V)
          have HB3 := Lib.hid (hb.out.setCell (p := ⟨g, k, none⟩) (Nat.le_refl _) (.int .i64 V))
          have hkl : (k : Int) < (l.length : Int) := by omega
          clear hn hX hD hFq0 hFq1 hkq hS1 hvb hfb HSE
          go_wp2_with fail
          go_roundw
          case rel => exact ⟨k + 1, _, by omega, by go_num, by rw [HSTT.out], HPT, HO3, HB3⟩
          case measure => simp [intOf]; omega
        · rw [if_neg hp] at hn
          subst hn
          have HAT := Lib.hid (HSK.out rfl)
          rw [Int.add_zero] at HSTT
          clear hkq hS1 hvb hfb HSE
          go_wp2_with fail
          go_roundw
          case rel => exact ⟨k + 1, o, by omega, by go_num, by rw [HSTT.out], HAT, ho, hb⟩
          case measure => simp [intOf]; omega
      · obtain rfl : k = l.length := by omega
        have hoe := hat.out.end
        subst hoe
        have HOO := Lib.hid ho.out
        have HBB := Lib.hid hb.out
        obtain ⟨O, hO⟩ : ∃ O, norm0 l q A = O := ⟨_, rfl⟩
        rw [hO] at HOO HDL HDS HDB HL0 HNL ⊢
        have hT : O.take l.length = O := by rw [List.take_of_length_le]; rw [HL0.out]; exact Nat.le_refl _
        try rw [hT]
        have hSq : sumI O ≤ 4096 * 256 := by
          have := (HSB.out l.length (by rw [hO, HL0.out]; exact Nat.le_refl _)).2
          rw [hO, hT] at this
          have : (q : Int) * (l.length : Int) ≤ 4096 * 256 := Int.mul_le_mul (by omega) (by omega) (by omega) (by omega)
          omega
        have hSl : -(4096 * 256) ≤ sumI O := by
          have := (HSB.out l.length (by rw [hO, HL0.out]; exact Nat.le_refl _)).1
          rw [hO, hT] at this
          omega
        obtain ⟨S, hS⟩ : ∃ S, sumI O = S := ⟨_, rfl⟩
        rw [hS] at hSq hSl HDS HNL
        try rw [hS]
        clear hat ho hb hT HN0 HST HBD HSB hO HFB
        go_wp2_with fail
        have CG := Lib.hid (fun W (o : List Int) (hl : o.length = l.length) (ho : OwnI g W (.slice (some ⟨g, 0, none⟩) l.length l.length) o) => show Calls Try.prog 24 #[.slice (some ⟨g, 0, none⟩) l.length l.length] W fun e w' => e = .returned (.int .i64 ((grL o : Nat) : Int)) ∧ w' = W by
          obtain ⟨aa, cc, he, hI⟩ := ho.isL (by omega)
          injection he with h1 h2 h3
          subst h1 h3
          have := cGreatest (some ⟨g, 0, none⟩) l.length o W hI (by omega)
          rw [hl] at this
          exact this)
        go_loopw [9] (fun sv wr => ∃ j : Nat, sv = .int .i64 (S - j) ∧ j ≤ (S - q).toNat ∧ Hid (OwnI g wr (.slice (some ⟨g, 0, none⟩) l.length l.length) (decs j O)) ∧ Hid (Below g w1 wr)) (fun sv _ => (intOf sv - q).toNat)
        case atStart => exact ⟨0, by simp, Nat.zero_le _, HOO, HBB⟩
        case round =>
          clear HOO HBB
          obtain ⟨j, rfl, hj, ho, hb⟩ := hrel
          have hdl := HDL.out j
          rw [HL0.out] at hdl
          have hgl := grL_lt (l := decs j O) (by rw [hdl]; exact hl0)
          have hdb := HDB.out j (grL (decs j O)) hgl
          rw [hdl] at hgl
          have cg := ho.out.int_cell (grL (decs j O)) (by rw [hdl]; exact hgl)
          have cgf := ho.out.free (grL (decs j O))
          by_cases hlt : (q : Int) < S - j
          · have CGG := Lib.hid (CG.out wr _ hdl ho.out)
            have HO2 := Lib.hid (show OwnI g (wr.setCell ⟨g, grL (decs j O), none⟩ (.int .i64 ((decs j O).getD (grL (decs j O)) 0 - 1))) (.slice (some ⟨g, 0, none⟩) l.length l.length) (decs (j + 1) O) from ho.out.set_int _ _ (by rw [hdl]; exact hgl))
            obtain ⟨G, hG⟩ : ∃ G, grL (decs j O) = G := ⟨_, rfl⟩
            rw [hG] at hgl hdb cg cgf CGG HO2
            obtain ⟨U, hU⟩ : ∃ U, (decs j O).getD G 0 = U := ⟨_, rfl⟩
            rw [hU] at hdb cg HO2
            have HB2 := Lib.hid (hb.out.setCell (p := ⟨g, G, none⟩) (Nat.le_refl _) (.int .i64 (U - 1)))
            have hj2 : (j : Int) ≤ 2000000 := by omega
            have hwU : IntKind.i64.wrap (U - 1) = U - 1 := by rw [IntKind.wrap_i64]; omega
            have hwS : IntKind.i64.wrap (S - (j : Int) - 1) = S - (j : Int) - 1 := by rw [IntKind.wrap_i64]; omega
            have hG0 : (0 : Int) ≤ (G : Int) := by omega
            have hG1 : (G : Int) < (l.length : Int) := by omega
            clear hG hU hdl hdb
            go_wp2_with fail
            refine CGG.out.mono ?_; rintro e w5 ⟨rfl, rfl⟩
            go_wp2_with fail
            go_roundw
            case rel => exact ⟨j + 1, by congr 1; omega, by omega, HO2, HB2⟩
            case measure => simp [intOf]; omega
          · have hj2 : (S - (q : Int)).toNat = j := by omega
            rw [hj2] at HNL
            have hds := HDS.out j
            obtain ⟨o, hoo⟩ : ∃ o, decs j O = o := ⟨_, rfl⟩
            rw [hoo] at HNL hds hgl hdb cg cgf ho hdl
            have CGG := Lib.hid (fun W (h : OwnI g W (.slice (some ⟨g, 0, none⟩) l.length l.length) o) => CG.out W o hdl h)
            have HSE := Lib.hid (fun W v (h : OwnI g W (.slice (some ⟨g, 0, none⟩) l.length l.length) o) => OwnS.set_int h (grL o) v (by rw [hdl]; exact hgl))
            obtain ⟨G, hG⟩ : ∃ G, grL o = G := ⟨_, rfl⟩
            rw [hG] at hgl hdb cg cgf CGG HSE HNL
            obtain ⟨U, hU⟩ : ∃ U, o.getD G 0 = U := ⟨_, rfl⟩
            rw [hU] at hdb cg HNL
            rw [hds] at HNL
            have hj3 : (j : Int) ≤ 2000000 := by omega
            obtain ⟨T, hT⟩ : ∃ T, (q : Int) - (S - (j : Int)) = T := ⟨_, rfl⟩
            obtain ⟨R, hR⟩ : ∃ R, U + T = R := ⟨_, rfl⟩
            have hR2 : U + (q : Int) - (S - (j : Int)) = R := by omega
            rw [hR2] at HNL
            have hwT : IntKind.i64.wrap ((q : Int) - (S - (j : Int))) = T := by rw [hT, IntKind.wrap_i64]; omega
            have hwR : IntKind.i64.wrap (U + T) = R := by rw [hR, IntKind.wrap_i64]; omega
            have hG0 : (0 : Int) ≤ (G : Int) := by omega
            have hG1 : (G : Int) < (l.length : Int) := by omega
            have HOW := Lib.hid ho.out
            have HBW := Lib.hid hb.out
            have hwS2 : IntKind.i64.wrap (S - (j : Int)) = S - (j : Int) := by rw [IntKind.wrap_i64]; omega
            clear hj2 hds hdl hG hU hT hR hR2 hoo ho hb hj hdb HDL HDS HDB CG hj3
            go_wp2_with fail
            go_region_with (go_at_call 24; (with_reducible refine (CGG.out _ HOW.out.drew).mono ?_); rintro e wx ⟨rfl, rfl⟩)
            go_wp2_with fail
            go_ret2
            rw [HGE.out]
            exact ⟨_, rfl, by rw [← HNL.out]; exact (HSE.out _ R HOW.out).drew, (HBW.out.setCell (p := ⟨g, G, none⟩) (Nat.le_refl _) _).drew⟩
  · rw [if_neg hE]
    have hne : (E != 0) = true := by rw [bne_iff_ne]; exact hE
    go_enter Try.func10, Try.ntmps10
    go_wp2_with fail
    refine CT.out.mono ?_; rintro e w1 ⟨rfl, rfl⟩
    go_wp2_with fail
    go_ret2
    exact ⟨_, rfl, ⟨rfl, .inl ⟨rfl, rfl⟩⟩, Below.refl _ _⟩
end Go.Proofs.Ytplopddlpoffoaa
