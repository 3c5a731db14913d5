/- Layer 48: the document's Turn. -/
import Derived.Test.YtpkidedepcnoaaaY10
namespace Go.Proofs.Ytpkidedepcnoaaa
open Go.ChangeShapes Go.WideShapes Go.ChangeAt Go.RowKit
set_option linter.unusedVariables false
set_option linter.unusedSimpArgs false
set_option maxRecDepth 100000
set_option maxHeartbeats 3200000 in
theorem dTurnB (L : List UInt8) (w : World) (hL : L.length ≤ 10000) :
    Calls Try.prog 30 #[.string (sM L)] w fun e w' => ∃ (a : List Nat) (at_ : Nat), e = .returned (.tuple #[.string (sM (tB L a at_)), .int .i64 at_]) ∧ IsSuf L a ∧ at_ ≤ L.length ∧ Pr a L.length at_ = 0 ∧ Below w.heap.size w w' := by
  obtain ⟨n, hn⟩ : ∃ n, L.length = n := ⟨_, rfl⟩
  have hS : (sM L).size = n := by rw [sM_size, hn]
  have CS := Lib.hid (fun W => dSort L W hL)
  go_enter Try.func30, Try.ntmps30
  go_wp2_with fail
  refine (CS.out _).mono ?_; rintro e w1 ⟨v, a, rfl, ho, hs, hb⟩
  have hal : a.length = n := by rw [← hn]; exact hs.len
  obtain ⟨va, vc, rfl, hi⟩ := ho.isL (by rw [nI_len, hal]; omega)
  rw [show (nI a).length = n by rw [nI_len, hal]] at ho ⊢
  have HI := Lib.hid hi
  have HS := Lib.hid hs
  have HN := Lib.hid hn
  have HB := Lib.hid hb
  have hz := hb.size
  obtain ⟨at_, hat, h0⟩ := Pr_all hs 0 (Nat.zero_le _)
  have ht := turned_out hs at_ hat h0
  have hfin : ∀ (e : Ending) (w' : World), e = .returned (.tuple #[.string (sM (outF L a (n + 1))), .int .i64 (atF L a (n + 1) : Nat)]) → Below w.heap.size w w' → ∃ (a : List Nat) (at_ : Nat), e = .returned (.tuple #[.string (sM (tB L a at_)), .int .i64 at_]) ∧ IsSuf L a ∧ at_ ≤ L.length ∧ Pr a L.length at_ = 0 ∧ Below w.heap.size w w' := fun e w' h1 h2 => by
    rw [hn] at ht
    rw [ht.1, ht.2] at h1
    exact ⟨a, at_, h1, hs, hat, h0, h2⟩
  have HF := Lib.hid hfin
  rw [hn] at hL
  clear ho hi hs hb CS hfin ht hat h0 hn
  by_cases hn0 : n = 0
  · subst hn0
    have e1 : outF L a (0 + 1) = [] ∧ atF L a (0 + 1) = 0 := by
      rw [outF, atF, outF, atF, HN.out]
      have : Pr a 0 0 = 0 := rfl
      rw [this]; exact ⟨rfl, rfl⟩
    go_wp2_with fail
    go_loopw [5, 6, 7] (fun ov av iv wr => ov = .slice none 0 0 ∧ av = .int .i64 0 ∧ iv = .int .i64 0 ∧ Hid (Below w.heap.size w wr)) (fun _ _ _ _ => 0)
    case atStart => exact ⟨rfl, rfl, rfl, HB⟩
    case round =>
      clear HB
      obtain ⟨rfl, rfl, rfl, HB⟩ := hrel
      have hcv := fun W => (show OwnY 0 W (.slice none 0 0) [] from OwnS.nil).convY
      go_wp2_with fail
      go_ret2
      exact HF.out _ _ (by rw [e1.1, e1.2]; rfl) HB.out
  · have hnp : (0 : Int) < n := by omega
    have hnz : (0 : Int) ≠ n := by omega
    obtain ⟨z, hzz⟩ : ∃ z, n - 1 = z := ⟨_, rfl⟩
    have hzi : (n : Int) - 1 = (z : Int) := by omega
    have x0 := ixM L (z : Int) z rfl (by have := HN.out; omega)
    have hzn : (z : Int) < n := by omega
    have HE := Lib.hid (show outF L a 1 = [] ++ [L.getD z 0] ∧ atF L a 1 = 0 from by
      rw [outF, atF, outF, atF, HN.out]
      have : Pr a n 0 = n := rfl
      rw [this, if_pos (by omega), if_pos (by omega), hzz]; exact ⟨rfl, rfl⟩)
    obtain ⟨Y, hY⟩ : ∃ Y, L.getD z 0 = Y := ⟨_, rfl⟩
    rw [hY] at x0 HE
    clear hY hzz
    go_wp2_with (at_builtin; refine app_u8 rfl _ _ rfl w1.heap.size _ (.slice none 0 0) [] Y rfl OwnS.nil w1.heap.size 1 rfl rfl (by simp) (Nat.le_refl _) ?_; intro v5 w5 ho5 hb5 hg5)
    have HO := Lib.hid (show OwnY w1.heap.size w5 v5 (outF L a 1) from by rw [HE.out.1]; exact ho5)
    have HB1 := Lib.hid hb5
    clear ho5 hb5 hg5 x0 hzi hzn
    go_wp2_with fail
    go_loopw [5, 6, 7] (fun ov av iv wr => ∃ i : Nat, i ≤ n ∧ iv = .int .i64 i ∧ av = .int .i64 (atF L a (i + 1) : Nat) ∧ Hid (OwnY w1.heap.size wr ov (outF L a (i + 1))) ∧ Hid (Below w1.heap.size w1 wr)) (fun _ _ iv _ => n - (intOf iv).toNat)
    case atStart => exact ⟨0, Nat.zero_le _, rfl, by rw [HE.out.2]; rfl, HO, HB1⟩
    case round =>
      clear HO HB1 HE
      obtain ⟨i, hi, rfl, rfl, HO, HB1⟩ := hrel
      obtain ⟨oa, oc, rfl⟩ := HO.out.slice
      by_cases hlt : i < n
      · have hii : (i : Int) < n := by omega
        have HIr := Lib.hid (HI.out.kept HB1.out)
        obtain ⟨x, rfl, hxb, hc⟩ := HIr.out.at i (by rw [nI_len, hal]; exact hlt)
        have cz := hc i (by rw [nI_len, hal]; exact hlt)
        have hg : (nI a).getD i 0 = ((a.getD i 0 : Nat) : Int) := mapN_getD a i (by omega)
        rw [hg] at cz
        have hPi : Pr a n (i + 1) = a.getD i 0 := by unfold Pr; rw [if_neg (by omega), Nat.add_sub_cancel]
        have hst1 : outF L a (i + 1 + 1) = outF L a (i + 1) ++ if 0 < a.getD i 0 then [L.getD (a.getD i 0 - 1) 0] else [] := by rw [outF, HN.out, hPi]
        have hst2 : atF L a (i + 1 + 1) = if 0 < a.getD i 0 then atF L a (i + 1) else (i + 1) := by rw [atF, HN.out, hPi]
        have hal2 := HS.out.lt _ (getD_mem a i (by omega))
        rw [HN.out] at hal2
        have hol := outF_len L a (i + 1)
        obtain ⟨p, hp⟩ : ∃ p, a.getD i 0 = p := ⟨_, rfl⟩
        rw [hp] at cz hst1 hst2 hal2
        obtain ⟨O, hO⟩ : ∃ O, outF L a (i + 1) = O := ⟨_, rfl⟩
        obtain ⟨U, hU⟩ : ∃ U, atF L a (i + 1) = U := ⟨_, rfl⟩
        rw [hO] at HO hst1 hol ⊢
        rw [hU] at hst2 ⊢
        clear hp hO hU hPi hg hc
        by_cases hp0 : p = 0
        · subst hp0
          rw [if_neg (by omega)] at hst1 hst2
          rw [List.append_nil] at hst1
          have H1 := Lib.hid hst1
          have H2 := Lib.hid hst2
          clear hst1 hst2
          go_wp2_with fail
          go_roundw
          case rel => exact ⟨i + 1, by omega, by go_num, by rw [H2.out]; go_num, by rw [H1.out]; exact HO, HB1⟩
          case measure => simp [intOf] <;> omega
        · have hpe : ((p : Int) == 0) = false := by rw [beq_eq_false_iff_ne]; omega
          rw [if_pos (by omega)] at hst1 hst2
          obtain ⟨z, hzz⟩ : ∃ z, p - 1 = z := ⟨_, rfl⟩
          rw [hzz] at hst1
          have hzi : (p : Int) - 1 = (z : Int) := by omega
          have x1 := ixM L (z : Int) z rfl (by have := HN.out; omega)
          obtain ⟨Y, hY⟩ : ∃ Y, L.getD z 0 = Y := ⟨_, rfl⟩
          rw [hY] at x1 hst1
          have hzn : (z : Int) < n := by omega
          have H1 := Lib.hid hst1
          have H2 := Lib.hid hst2
          have HLn := Lib.hid (show O.length ≤ 1099511627776 by omega)
          have HBs := Lib.hid (show w1.heap.size ≤ wr.heap.size from HB1.out.size)
          clear hst1 hst2 hY hzz hp0
          go_wp2_with (at_builtin; refine app_u8 rfl _ _ rfl w1.heap.size _ (.slice oa O.length oc) O Y rfl HO.out wr.heap.size 1 rfl rfl HLn.out HBs.out ?_; intro v5 w5 ho5 hb5 hg5)
          have HO5 := Lib.hid ho5
          have HB5 := Lib.hid (HB1.out.trans hb5)
          clear ho5 hb5 hg5 HO HB1 HIr
          go_wp2_with fail
          go_roundw
          case rel => exact ⟨i + 1, by omega, by go_num, by rw [H2.out], by rw [H1.out]; exact HO5, HB5⟩
          case measure => simp [intOf] <;> omega
      · obtain rfl : i = n := by omega
        have hii : ¬ (i : Int) < i := by omega
        have hcv := HO.out.convY
        obtain ⟨O, hO⟩ : ∃ O, outF L a (i + 1) = O := ⟨_, rfl⟩
        obtain ⟨U, hU⟩ : ∃ U, atF L a (i + 1) = U := ⟨_, rfl⟩
        rw [hO] at hcv ⊢
        rw [hU]
        have HOO := Lib.hid hO
        have HUU := Lib.hid hU
        clear hO hU
        go_wp2_with fail
        go_ret2
        exact HF.out _ _ (by rw [HOO.out, HUU.out]; rfl) (HB.out.trans (HB1.out.mono hz))
end Go.Proofs.Ytpkidedepcnoaaa
