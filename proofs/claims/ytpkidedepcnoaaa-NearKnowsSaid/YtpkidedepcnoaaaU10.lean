/- Layer 19: Is. -/
import Derived.Test.YtpkidedepcnoaaaU9
namespace Go.Proofs.Ytpkidedepcnoaaa
open Go.ChangeShapes Go.WideShapes Go.ChangeAt Go.RowKit
set_option linter.unusedVariables false
set_option linter.unusedSimpArgs false
set_option maxRecDepth 100000
theorem cOfI (b2 b5 g n i : Nat) (L : List UInt8) (l r : List Int) (w : World) (B : Nat) (h2 : w.heap[b2]? = some (.cells #[.string (sM L)] 9 (0, 0))) (h5 : w.heap[b5]? = some (.cells #[.slice (some ⟨g, 0, none⟩) n n] 22 (0, 0))) (hR : OwnI B w (.slice (some ⟨g, 0, none⟩) n n) r) (hL : L.length = n) (hn : n ≤ 1000000) (hl : r.length = n) (F : Int) (hF : (if i < n then r.getD i 0 else -1) = F) :
    Calls Try.prog 37 #[.int .i64 i, .pointer (some ⟨b2, 0, none⟩), .pointer (some ⟨b5, 0, none⟩)] w fun e w' => e = .returned (.int .i64 F) ∧ w' = w := by
  have hS : (sM L).size = n := by rw [sM_size, hL]
  have c2 := cell_lit h2 0 _ rfl
  have c5 := cell_lit h5 0 _ rfl
  have l2 := block_lt h2
  have l5 := block_lt h5
  have lR := (hR.lt _ rfl).2
  by_cases hi : i < n
  · have cR := hR.int_cell i (by omega)
    rw [if_pos hi] at hF
    rw [hF] at cR
    have hii : (i : Int) < n := by omega
    clear h2 h5 hR hF hL
    go_enter Try.func37, Try.ntmps37
    go_wp2_with fail
    go_ret
    exact ⟨rfl, rfl⟩
  · rw [if_neg hi] at hF
    subst hF
    have hii : ¬ (i : Int) < n := by omega
    clear h2 h5 hR hL
    go_enter Try.func37, Try.ntmps37
    go_wp2_with fail
    go_ret
    exact ⟨rfl, rfl⟩
theorem nbr_iff (L : List UInt8) (l : List Int) (a : List Nat) (j : Nat) : Nbr L l a j ↔ (byteAt L (a.getD (j - 1) 0) ≤ byteAt L (a.getD j 0) ∧ (byteAt L (a.getD (j - 1) 0) = byteAt L (a.getD j 0) → ofR l L.length (a.getD (j - 1) 0 + 1) ≤ ofR l L.length (a.getD j 0 + 1))) := Iff.rfl
set_option maxHeartbeats 3200000 in
theorem cIs (L : List UInt8) (l : List Int) (aa : Option Addr) (m cap : Nat) (w : World) (h : IsInts w aa l) (hl : l.length = m) (hL : L.length ≤ 100000) (hm : (m : Int) ≤ 1000000) (B : Bool) (hB : B = true ↔ SufI L l) :
    Calls Try.prog 18 #[.string (sM L), .slice aa m cap] w fun e w' => e = .returned (.bool B) ∧ Below w.heap.size w w' := by
  have hS : (sM L).size = L.length := sM_size L
  by_cases hlen : m = L.length
  · have hne : ((m : Int) == (L.length : Int)) = true := by simp [hlen]
    have hne' : ((m : Int) != (L.length : Int)) = false := by simp [hlen]
    have HI := Lib.hid h
    have HL := Lib.hid hl
    have HB := Lib.hid hB
    have HLen := Lib.hid hlen
    have hm2 : m ≤ 100000 := by omega
    clear h hl hB hlen
    go_enter Try.func18, Try.ntmps18
    go_wp2_with fail
    have hba := (Below.refl w.heap.size w).alloc (Nat.le_refl _) (.cells #[.string (sM L)] 9)
    refine (cRanks l aa m cap _ (HI.out.kept hba) HL.out hm).mono ?_; rintro e w1 ⟨g, rfl, ho, hb⟩
    have H2 := Lib.hid ((hb.block _ (by simp)).trans (heap_alloc_new w (.cells #[.string (sM L)] 9)))
    have HO := Lib.hid ho
    have HBl := Lib.hid (hba.trans (hb.mono (by simp)))
    obtain ⟨b2, hb2⟩ : ∃ b, w.heap.size = b := ⟨_, rfl⟩
    have HB2 := Lib.hid hb2
    rw [hb2] at H2 HBl ⊢
    clear ho hb hba hb2
    go_wp2_with fail
    have hbk := (Below.refl w1.heap.size w1).alloc (Nat.le_refl _) (.cells #[.slice (some ⟨g, 0, none⟩) m m] 22)
    have H5 := Lib.hid (heap_alloc_new w1 (.cells #[.slice (some ⟨g, 0, none⟩) m m] 22))
    have HZ := HBl.out.size
    have hb2s := HB2.out
    have H2 := Lib.hid ((hbk.block _ (block_lt H2.out)).trans H2.out)
    have HO := Lib.hid (HO.out.kept hbk)
    have HBl := Lib.hid (HBl.out.trans (hbk.mono (by omega)))
    obtain ⟨b5, hb5⟩ : ∃ b, w1.heap.size = b := ⟨_, rfl⟩
    rw [hb5] at H5 ⊢
    have HBl2 := Lib.hid (show b2 ≤ (w1.alloc (.cells #[.slice (some ⟨g, 0, none⟩) m m] 22)).heap.size by simp; omega)
    clear hbk hb5 HZ hb2s
    generalize w1.alloc (.cells #[.slice (some ⟨g, 0, none⟩) m m] 22) = w2 at *
    generalize (w.alloc (.cells #[.string (sM L)] 9)).heap.size = G0 at *
    have HRL := Lib.hid (show (ranksL l).length = m by rw [ranksL_len, HL.out])
    have HRG := Lib.hid (show ∀ i : Nat, i < m → (ranksL l).getD i 0 = fstF l i m from fun i hi => by rw [ranksL_getD l i (by rw [HL.out]; exact hi), HL.out])
    go_loopw [21] (fun tv wr => ∃ t : Nat, t ≤ m ∧ tv = .int .i64 t ∧ Hid (∀ i : Nat, i < t → 0 ≤ fstF l i m) ∧ Hid (Below w2.heap.size w2 wr)) (fun tv _ => m - (intOf tv).toNat)
    case atStart => exact ⟨0, Nat.zero_le _, rfl, Lib.hid (fun i h => by omega), Lib.hid (Below.refl _ _)⟩
    case round =>
      obtain ⟨t, ht, rfl, HT, HW⟩ := hrel
      have HO2 := Lib.hid (HO.out.kept HW.out)
      have H5r := (HW.out.block _ (block_lt H5.out)).trans H5.out
      have c5 := cell_lit H5r 0 _ rfl
      have l5 := block_lt H5r
      clear H5r
      by_cases hlt : t < m
      · have hti : (t : Int) < m := by omega
        have cR := HO2.out.int_cell t (by rw [HRL.out]; exact hlt)
        have lR := (HO2.out.lt _ rfl).2
        rw [HRG.out t hlt] at cR
        obtain ⟨F, hF⟩ : ∃ F, fstF l t m = F := ⟨_, rfl⟩
        rw [hF] at cR
        by_cases h0 : F < 0
        · have HF := Lib.hid (show B = false by
            cases hb : B with
            | false => rfl
            | true =>
              obtain ⟨a, ha, e⟩ := HB.out.1 hb
              have := (suf_ranked l a m e (by rw [ha.len, HLen.out]) ha.nodup (by rw [HLen.out]; exact ha.lt)).1 t hlt
              omega)
          clear hF
          go_wp2_with fail
          go_ret
          exact ⟨ret_b HF.out.symm, by rw [HB2.out]; exact HBl.out.trans (Below.mono (by first | exact HW.out | exact below_dn HW.out _ | exact below_dn (below_dn HW.out _) _) HBl2.out)⟩
        · have HT2 := Lib.hid (show ∀ i : Nat, i < t + 1 → 0 ≤ fstF l i m from fun i hi => by
            by_cases e : i = t
            · subst e; omega
            · exact HT.out i (by omega))
          clear hF
          go_wp2_with fail
          go_roundw
          case rel => exact ⟨t + 1, by omega, by go_num, HT2, HW⟩
          case measure => simp [intOf] <;> omega
      · obtain rfl : t = m := by omega
        obtain ⟨a, hla, hal, hnd, hax, har⟩ := all_ranked l t HL.out HT.out
        have HLA := Lib.hid hla
        have HAL := Lib.hid hal
        have HND := Lib.hid hnd
        have HAX := Lib.hid hax
        have HAR := Lib.hid har
        have HNB := Lib.hid (show (∀ j, 1 ≤ j → j < t → Nbr L l a j) ↔ B = true by
          rw [HB.out]
          constructor
          · intro h
            exact ⟨a, nbr_suf (by rw [hal, HLen.out]) hnd (by rw [← HLen.out]; exact hax) (by rw [← HLen.out]; exact har) (by rw [← HLen.out]; exact h), hla⟩
          · rintro ⟨a', ha', e⟩ j h1 h2
            have : a = a' := by
              apply List.ext_getElem (by rw [hal, ha'.len, HLen.out])
              intro i g1 g2
              have h3 : ((a.getD i 0 : Nat) : Int) = ((a'.getD i 0 : Nat) : Int) := by rw [← mapN_getD a i g1, ← mapN_getD a' i g2, ← hla, ← e]
              rw [List.getD_eq_getElem?_getD, List.getElem?_eq_getElem g1, List.getD_eq_getElem?_getD, List.getElem?_eq_getElem g2] at h3
              simp only [Option.getD_some] at h3
              omega
            subst this
            exact suf_nbr ha' (by rw [← HLen.out]; exact har) j h1 (by rw [← HLen.out]; exact h2))
        clear hla hal hnd hax har
        go_wp2_with fail
        go_loopw [8] (fun jv wr => ∃ j : Nat, 1 ≤ j ∧ (j ≤ t ∨ j = 1) ∧ jv = .int .i64 j ∧ Hid (∀ i, 1 ≤ i → i < j → Nbr L l a i) ∧ Hid (Below w2.heap.size w2 wr)) (fun jv _ => t + 1 - (intOf jv).toNat)
        case atStart => exact ⟨1, Nat.le_refl _, .inr rfl, rfl, Lib.hid (fun i h h2 => by omega), HW⟩
        case round =>
          clear HW HO2 c5 l5
          obtain ⟨j, hj1, hj2, rfl, HJ, HW⟩ := hrel
          have HO2 := Lib.hid (HO.out.kept HW.out)
          have H5r := Lib.hid ((HW.out.block _ (block_lt H5.out)).trans H5.out)
          have H2r := Lib.hid ((HW.out.block _ (block_lt H2.out)).trans H2.out)
          by_cases hjt : j < t
          · have hji : (j : Int) < t := by omega
            obtain ⟨z, hz⟩ : ∃ z, j - 1 = z := ⟨_, rfl⟩
            have hzi : (j : Int) - 1 = (z : Int) := by omega
            have hzt : (z : Int) < t := by omega
            have hIn := (HI.out.kept (w' := wr) (by rw [HB2.out]; exact HBl.out.trans (HW.out.mono HBl2.out)))
            obtain ⟨x, rfl, hxb, hc⟩ := hIn.at z (by rw [HL.out]; omega)
            have cp := hc z (by rw [HL.out]; omega)
            have cq := hc j (by rw [HL.out]; omega)
            rw [HLA.out, mapN_getD a z (by rw [HAL.out]; omega)] at cp
            rw [HLA.out, mapN_getD a j (by rw [HAL.out]; omega)] at cq
            have hp := HAX.out _ (getD_mem a z (by rw [HAL.out]; omega))
            have hq := HAX.out _ (getD_mem a j (by rw [HAL.out]; omega))
            have hnb := nbr_iff L l a j
            rw [hz] at hnb
            obtain ⟨p, hpp⟩ : ∃ p, a.getD z 0 = p := ⟨_, rfl⟩
            obtain ⟨q, hqq⟩ : ∃ q, a.getD j 0 = q := ⟨_, rfl⟩
            rw [hpp] at cp hp hnb
            rw [hqq] at cq hq hnb
            have hpl : p < L.length := by rw [← HLen.out]; exact hp
            have hql : q < L.length := by rw [← HLen.out]; exact hq
            have x1 := ixM L (p : Int) p rfl hpl
            have x2 := ixM L (q : Int) q rfl hql
            obtain ⟨Y, hY⟩ : ∃ Y, byteAt L p = Y := ⟨_, rfl⟩
            obtain ⟨Z, hZ⟩ : ∃ Z, byteAt L q = Z := ⟨_, rfl⟩
            rw [hY, hZ] at hnb
            unfold byteAt at hY hZ
            rw [hY] at x1
            rw [hZ] at x2
            have c2 := cell_lit H2r.out 0 _ rfl
            have l2 := block_lt H2r.out
            obtain ⟨P1, hP1⟩ : ∃ P, ofR l L.length (p + 1) = P := ⟨_, rfl⟩
            obtain ⟨Q1, hQ1⟩ : ∃ P, ofR l L.length (q + 1) = P := ⟨_, rfl⟩
            rw [hP1, hQ1] at hnb
            have HN := Lib.hid hnb
            have CO := Lib.hid (fun i F (hF : ofR l L.length i = F) W (hW : Below w2.heap.size w2 W) => cOfI b2 b5 g t i L l (ranksL l) W G0 ((hW.block _ (block_lt H2.out)).trans H2.out) ((hW.block _ (block_lt H5.out)).trans H5.out) (HO.out.kept hW) HLen.out.symm (by omega) HRL.out F (by
              rw [← hF, ofR, ← HLen.out]
              by_cases hi : i < t
              · rw [if_pos hi, if_pos hi, HRG.out i hi]
              · rw [if_neg hi, if_neg hi]))
            have CP := Lib.hid (fun W hW => CO.out (p + 1) P1 hP1 W hW)
            have CQ := Lib.hid (fun W hW => CO.out (q + 1) Q1 hQ1 W hW)
            rw [show (((p + 1 : Nat)) : Int) = (p : Int) + 1 by omega] at CP
            rw [show (((q + 1 : Nat)) : Int) = (q : Int) + 1 by omega] at CQ
            have hpi : (p : Int) < L.length := by omega
            have hqi : (q : Int) < L.length := by omega
            have hpm : p ≤ 100000 := by omega
            have hqm : q ≤ 100000 := by omega
            clear hnb hpp hqq hY hZ hP1 hQ1 CO hc hz hp hq hpl hql hIn
            by_cases hYZ : Z < Y
            · have hyz : (Z : Int) < Y := by omega
              have HF := Lib.hid (show B = false by
                cases hb : B with
                | false => rfl
                | true => have := (HN.out.1 (HNB.out.2 hb j hj1 hjt)).1; omega)
              go_wp2_with fail
              go_quiet (fail)
              go_wp2_with fail
              go_quiet (fail)
              go_wp2_with fail
              go_ret
              exact ⟨ret_b HF.out.symm, by rw [HB2.out]; exact HBl.out.trans (Below.mono (by first | exact HW.out | exact below_dn HW.out _ | exact below_dn (below_dn HW.out _) _) HBl2.out)⟩
            · have hyz : ¬ (Z : Int) < Y := by omega
              by_cases hE : Y = Z
              · subst hE
                have HW2 := Lib.hid (fun k => below_dn HW.out k)
                have HW3 := Lib.hid HW.out.drew
                have wp1 : IntKind.i64.wrap ((p : Int) + 1) = (p : Int) + 1 := IntWalk.i64_in _ (by omega)
                have wq1 : IntKind.i64.wrap ((q : Int) + 1) = (q : Int) + 1 := IntWalk.i64_in _ (by omega)
                by_cases hPQ : Q1 < P1
                · have HF := Lib.hid (show B = false by
                    cases hb : B with
                    | false => rfl
                    | true => have := (HN.out.1 (HNB.out.2 hb j hj1 hjt)).2 rfl; omega)
                  go_wp2_with fail
                  go_quiet (fail)
                  go_wp2_with fail
                  go_region_held3 (fun V => V.cell? ⟨b2, 0, none⟩ = some (.string (sM L)) ∧ Below w2.heap.size w2 V) (first | exact ⟨c2, (HW2.out _).drew⟩ | exact ⟨c2, HW2.out _⟩ | assumption) (first | (go_at_call 37; with_reducible refine (CP.out _ (HW2.out _)).mono ?_; rintro e wx ⟨rfl, rfl⟩) | (go_at_call 37; with_reducible refine (CQ.out _ (HW2.out _)).mono ?_; rintro e wx ⟨rfl, rfl⟩) | fail)
                  all_goals simp only [Exit.then]
                  all_goals rename_i hK hHeld
                  all_goals refine hK _ _ ?_
                  all_goals clear hK hHeld
                  all_goals go_wp2_with fail
                  all_goals go_ret
                  all_goals exact ⟨ret_b HF.out.symm, by rw [HB2.out]; exact HBl.out.trans (Below.mono (by first | exact HW.out | exact below_dn HW.out _ | exact below_dn (below_dn HW.out _) _) HBl2.out)⟩
                · have HJ2 := Lib.hid (show ∀ i, 1 ≤ i → i < j + 1 → Nbr L l a i from fun i h1 h2 => by
                    by_cases e : i = j
                    · subst e; exact HN.out.2 ⟨Nat.le_refl _, fun _ => by omega⟩
                    · exact HJ.out i h1 (by omega))
                  go_wp2_with fail
                  go_quiet (fail)
                  go_wp2_with fail
                  go_region_held3 (fun V => V.cell? ⟨b2, 0, none⟩ = some (.string (sM L)) ∧ Below w2.heap.size w2 V) (first | exact ⟨c2, (HW2.out _).drew⟩ | exact ⟨c2, HW2.out _⟩ | assumption) (first | (go_at_call 37; with_reducible refine (CP.out _ (HW2.out _)).mono ?_; rintro e wx ⟨rfl, rfl⟩) | (go_at_call 37; with_reducible refine (CQ.out _ (HW2.out _)).mono ?_; rintro e wx ⟨rfl, rfl⟩) | fail)
                  all_goals simp only [Exit.then]
                  all_goals rename_i hK hHeld
                  all_goals refine hK _ _ ?_
                  all_goals clear hK hHeld
                  all_goals go_wp2_with fail
                  all_goals
                    go_roundw
                    case rel => exact ⟨j + 1, by omega, by omega, by go_num, HJ2, Lib.hid (below_dn HW.out _)⟩
                    case measure => simp [intOf] <;> omega
              · have hne1 : ((Y : Int) == (Z : Int)) = false := by rw [beq_eq_false_iff_ne]; omega
                have HJ2 := Lib.hid (show ∀ i, 1 ≤ i → i < j + 1 → Nbr L l a i from fun i h1 h2 => by
                  by_cases e : i = j
                  · subst e; exact HN.out.2 ⟨by omega, fun h => absurd h hE⟩
                  · exact HJ.out i h1 (by omega))
                go_wp2_with fail
                go_quiet (fail)
                go_wp2_with fail
                go_quiet (fail)
                go_wp2_with fail
                go_roundw
                case rel => exact ⟨j + 1, by omega, by omega, by go_num, HJ2, Lib.hid (below_dn HW.out _)⟩
                case measure => simp [intOf] <;> omega
          · have HF := Lib.hid (show B = true from HNB.out.1 (fun i h1 h2 => HJ.out i h1 (by omega)))
            have hji : ¬ (j : Int) < t := by omega
            go_wp2_with fail
            go_ret
            exact ⟨ret_b HF.out.symm, by rw [HB2.out]; exact HBl.out.trans (Below.mono (by first | exact HW.out | exact below_dn HW.out _ | exact below_dn (below_dn HW.out _) _) HBl2.out)⟩
  · have hne : ((m : Int) == (L.length : Int)) = false := by rw [beq_eq_false_iff_ne]; omega
    have hne' : ((m : Int) != (L.length : Int)) = true := by rw [bne, hne]; rfl
    have HF := Lib.hid (show B = false by
      cases B with
      | false => rfl
      | true =>
        obtain ⟨a, ha, e⟩ := hB.1 rfl
        have := ha.len
        rw [e, List.length_map] at hl
        omega)
    clear hB hlen hl h
    go_enter Try.func18, Try.ntmps18
    go_wp2_with fail
    go_ret
    exact ⟨ret_b HF.out.symm, (Below.refl w.heap.size w).alloc (Nat.le_refl _) _⟩
end Go.Proofs.Ytpkidedepcnoaaa
