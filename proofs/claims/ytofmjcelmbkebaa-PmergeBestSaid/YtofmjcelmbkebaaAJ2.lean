/- Layer 7: may lengths be? -/
import Derived.Test.YtofmjcelmbkebaaAJ1
namespace Go.Proofs.Ytofmjcelmbkebaa
open Go.ChangeShapes Go.WideShapes Go.ChangeAt Go.RowKit
set_option linter.unusedVariables false
set_option linter.unusedSimpArgs false
set_option maxRecDepth 100000
open KraftMath Pm
set_option maxHeartbeats 3200000 in
theorem dMay (a b : Option Addr) (c d n m : Nat) (l o : List Int) (L : Int) (w : World) (hl : l.length = n) (hi : IsInts w a l) (hm : o.length = m) (hj : IsInts w b o) :
    Calls Try.prog 11 #[.slice a n c, .slice b m d, .int .i64 L] w fun e w' => e = .returned (.bool (mayB l o L)) ∧ ∃ k, w' = w.drewN k := by
  have hm46 : (m : Int) ≤ 70368744177664 := by have := hj.1; omega
  have CK := Lib.hid (rCheck_any b d L o w hj)
  rw [hm] at CK
  have HI := Lib.hid hi; have HJ := Lib.hid hj; have HL := Lib.hid hl; have HM := Lib.hid hm
  obtain ⟨R, hR⟩ : ∃ R, mayB l o L = R := ⟨_, rfl⟩
  have HR := Lib.hid (show R = true ↔ mayP l o L by rw [← hR]; exact mayB_iff l o L)
  rw [hR]
  obtain ⟨E, hE⟩ : ∃ E, check o L = E := ⟨_, rfl⟩
  rw [hE] at CK
  have HE := Lib.hid hE
  clear hi hj hl hm hR hE
  by_cases hnm : n = m
  · subst hnm
    have e1 : ((n : Int) != (n : Int)) = false := by simp
    by_cases h0 : E = 0
    · subst h0
      have e2 : ((0 : Int) != 0) = false := by decide
      go_enter Try.func11, Try.ntmps11
      go_wp2_with fail
      refine CK.out.mono ?_; rintro e w2 ⟨rfl, hw⟩
      obtain rfl : w = w2 := hw.symm
      go_wp2_with fail
      go_loopw [7] (fun iv wr => ∃ i : Nat, i ≤ n ∧ iv = .int .i64 i ∧ Hid (∀ j, j < i → (0 < o.getD j 0 ↔ 0 < l.getD j 0)) ∧ ∃ q, wr = w.drewN q) (fun iv _ => n - (intOf iv).toNat)
      case atStart => exact ⟨0, Nat.zero_le _, by go_num, Lib.hid (fun j h => by omega), 0, rfl⟩
      case round =>
        obtain ⟨i, hi, rfl, HT, q, rfl⟩ := hrel
        by_cases hlt : i < n
        · have hii : (i : Int) < n := by omega
          obtain ⟨x, rfl, hxb, hc⟩ := HI.out.at i (by rw [HL.out]; omega)
          have cx := hc i (by rw [HL.out]; omega)
          obtain ⟨y, rfl, hyb, hcy⟩ := HJ.out.at i (by rw [HM.out]; omega)
          have cy := hcy i (by rw [HM.out]; omega)
          obtain ⟨u, hu⟩ : ∃ u, l.getD i 0 = u := ⟨_, rfl⟩
          obtain ⟨v, hv⟩ : ∃ v, o.getD i 0 = v := ⟨_, rfl⟩
          have HU := Lib.hid hu; have HV := Lib.hid hv
          rw [hu] at cx
          rw [hv] at cy
          clear hc hcy hu hv
          by_cases hu0 : 0 < u
          · by_cases hv0 : 0 < v
            · skip
              have d1 : decide (0 < u) = true := decide_eq_true (by omega)
              have d2 : decide (0 < v) = true := decide_eq_true (by omega)
              have HT2 := Lib.hid (show ∀ j, j < i + 1 → (0 < o.getD j 0 ↔ 0 < l.getD j 0) from fun j hj => by
                by_cases e : j = i
                · subst e; rw [HU.out, HV.out]; omega
                · exact HT.out j (by omega))
              go_wp2_with fail
              go_region
              go_wp2_with fail
              go_roundw
              case rel => exact ⟨i + 1, by omega, by go_num, HT2, _, rfl⟩
              case measure => simp [intOf] <;> omega
            · skip
              have d1 : decide (0 < u) = true := decide_eq_true (by omega)
              have d2 : decide (0 < v) = false := decide_eq_false (by omega)
              have HF := Lib.hid (show R = false by
                cases hq : R with
                | false => rfl
                | true =>
                  have := (HR.out.1 hq).2.2 i (by rw [HM.out]; omega)
                  rw [HU.out, HV.out] at this
                  omega)
              go_wp2_with fail
              go_region
              go_wp2_with fail
              go_ret
              exact ⟨ret_b HF.out.symm, _, rfl⟩
          · by_cases hv0 : 0 < v
            · skip
              have d1 : decide (0 < u) = false := decide_eq_false (by omega)
              have d2 : decide (0 < v) = true := decide_eq_true (by omega)
              have HF := Lib.hid (show R = false by
                cases hq : R with
                | false => rfl
                | true =>
                  have := (HR.out.1 hq).2.2 i (by rw [HM.out]; omega)
                  rw [HU.out, HV.out] at this
                  omega)
              go_wp2_with fail
              go_region
              go_wp2_with fail
              go_ret
              exact ⟨ret_b HF.out.symm, _, rfl⟩
            · skip
              have d1 : decide (0 < u) = false := decide_eq_false (by omega)
              have d2 : decide (0 < v) = false := decide_eq_false (by omega)
              have HT2 := Lib.hid (show ∀ j, j < i + 1 → (0 < o.getD j 0 ↔ 0 < l.getD j 0) from fun j hj => by
                by_cases e : j = i
                · subst e; rw [HU.out, HV.out]; omega
                · exact HT.out j (by omega))
              go_wp2_with fail
              go_region
              go_wp2_with fail
              go_roundw
              case rel => exact ⟨i + 1, by omega, by go_num, HT2, _, rfl⟩
              case measure => simp [intOf] <;> omega
        · obtain rfl : n = i := by omega
          have HF := Lib.hid (show R = true from HR.out.2 ⟨by rw [HL.out, HM.out], HE.out, fun j hj => HT.out j (by rw [HM.out] at hj; exact hj)⟩)
          have hii : ¬ (n : Int) < n := by omega
          go_wp2_with fail
          go_ret
          exact ⟨ret_b HF.out.symm, _, rfl⟩
    · have e2 : (E != 0) = true := by rw [bne_iff_ne]; exact h0
      have HF := Lib.hid (show R = false by
        cases hq : R with
        | false => rfl
        | true => exact absurd (HE.out.symm.trans (HR.out.1 hq).2.1) h0)
      go_enter Try.func11, Try.ntmps11
      go_wp2_with fail
      refine CK.out.mono ?_; rintro e w2 ⟨rfl, hw⟩
      obtain rfl : w = w2 := hw.symm
      go_wp2_with fail
      go_ret
      exact ⟨ret_b HF.out.symm, 0, rfl⟩
  · have e1 : ((n : Int) != (m : Int)) = true := by rw [bne_iff_ne]; omega
    have HF := Lib.hid (show R = false by
      cases hq : R with
      | false => rfl
      | true =>
        have := (HR.out.1 hq).1
        rw [HL.out, HM.out] at this
        exact absurd this hnm)
    go_enter Try.func11, Try.ntmps11
    go_wp2_with fail
    go_ret
    exact ⟨ret_b HF.out.symm, 0, rfl⟩
end Go.Proofs.Ytofmjcelmbkebaa
