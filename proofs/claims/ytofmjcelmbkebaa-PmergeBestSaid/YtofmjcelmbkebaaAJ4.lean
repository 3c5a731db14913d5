/- Layer 7: the laws of lengths that may be, and of what they cost. -/
import Derived.Test.YtofmjcelmbkebaaAJ3
namespace Go.Proofs.Ytofmjcelmbkebaa
open Go.ChangeShapes Go.WideShapes Go.ChangeAt Go.RowKit
set_option linter.unusedVariables false
set_option linter.unusedSimpArgs false
set_option maxRecDepth 100000
open KraftMath Pm
set_option maxHeartbeats 3200000 in
theorem may_walk (a : Option Addr) (c n : Nat) (l : List Int) (L : Int) (w : World) (hl : l.length = n) (hi : IsInts w a l) (hn : n ≤ 1100) :
    Calls Try.prog 3 #[.slice a n c, .int .i64 L] w fun e w' => e = .returned (.bool true) ∧ Below w.heap.size w w' := by
  have q1 : ¬ (1100 : Int) < n := by omega
  have CK := Lib.hid (fun W h => dChk a c n l L W hl h)
  have HI := Lib.hid hi
  have CA := Lib.hid (fun W => awake07 W)
  by_cases h0 : chkP l L = 0
  · obtain ⟨m, rfl, hm1, hm2, hln, -⟩ := chk_ok h0
    obtain ⟨R, hR⟩ : ∃ R, lensV l (m : Int).toNat = R := ⟨_, rfl⟩
    have CL := Lib.hid (fun W h => pLenOk a c n l m W hl h h0 R hR)
    rw [Int.toNat_natCast] at hR
    have hRl : R.length = n := by rw [← hR, lensV_len, hl]
    have hM : mayB l R m = true := by rw [← hR]; exact (mayB_iff _ _ _).2 (lens_may l m h0)
    have CM := Lib.hid (fun b d W h k => dMay a b c d n n l R m W hl h hRl k)
    rw [hM] at CM
    rw [h0] at CK
    have CI := Lib.hid (fun (v u : Value) W h k => ints6L (v := v) (u := u) (l := R) (m := R) (w := W) h k true (by simp))
    have HRL := Lib.hid hRl
    clear hi hl h0 hR hRl hM hln
    go_enter Try.func3, Try.ntmps3
    go_wp2_with fail
    refine (CL.out w HI.out).mono ?_; rintro e w1 ⟨u1, rfl, h1, hb1⟩
    have H1 := Lib.hid (h1.isL (by rw [HRL.out]; omega))
    have HI1 := Lib.hid (HI.out.kept hb1)
    have HB1 := Lib.hid hb1
    clear h1 hb1
    obtain ⟨a1, c1, rfl, i1⟩ := H1.out
    rw [HRL.out] at H1 ⊢
    have I1 := Lib.hid i1
    clear i1
    go_wp2_with fail
    refine (CK.out w1 HI1.out).mono ?_; rintro e w2 ⟨rfl, hw⟩
    obtain rfl : w1 = w2 := hw.symm
    go_wp2_with fail
    refine (CL.out w1 HI1.out).mono ?_; rintro e w3 ⟨u3, rfl, h3, hb3⟩
    have H3 := Lib.hid (h3.isL (by rw [HRL.out]; omega))
    have HI3 := Lib.hid (HI1.out.kept hb3)
    have HB3 := Lib.hid (HB1.out.trans (hb3.mono HB1.out.size))
    have I1 := Lib.hid (I1.out.kept hb3)
    have H1 := Lib.hid (H1.out.kept hb3)
    clear h3 hb3 HB1 HI1
    go_wp2_with fail
    refine (CM.out _ _ _ HI3.out I1.out).mono ?_; rintro e w4 ⟨rfl, k4, rfl⟩
    go_wp2_with fail
    refine (CI.out _ _ _ (H1.out.drewN k4) (H3.out.drewN k4)).mono ?_; rintro e w5 ⟨rfl, k5, rfl⟩
    have HB5 := Lib.hid (below_dn HB3.out (k4 + k5))
    go_wp2_with fail
    refine (CA.out _).mono ?_; rintro e w6 ⟨rfl, hb6⟩
    have HB6 := Lib.hid (HB5.out.trans (hb6.mono HB5.out.size))
    clear hb6
    go_wp2_with fail
    go_ret
    exact ⟨rfl, HB6.out⟩
  · obtain ⟨E, hE⟩ : ∃ E, chkP l L = E := ⟨_, rfl⟩
    have CL := Lib.hid (fun W h => pLenNo a c n l L E W hl h hE (by rw [← hE]; exact h0))
    rw [hE] at CK h0
    have e1 : (E != 0) = true := by rw [bne_iff_ne]; exact h0
    have e2 : (E == E) = true := by simp
    clear hi hl h0 hE
    go_enter Try.func3, Try.ntmps3
    go_wp2_with fail
    refine (CL.out w HI.out).mono ?_; rintro e w1 ⟨rfl, hb1⟩
    have HI1 := Lib.hid (HI.out.kept hb1)
    have HB1 := Lib.hid hb1
    clear hb1
    go_wp2_with fail
    refine (CK.out w1 HI1.out).mono ?_; rintro e w2 ⟨rfl, hw⟩
    obtain rfl : w1 = w2 := hw.symm
    go_wp2_with fail
    refine (CA.out _).mono ?_; rintro e w6 ⟨rfl, hb6⟩
    have HB6 := Lib.hid (HB1.out.trans (hb6.mono HB1.out.size))
    clear hb6
    go_wp2_with fail
    go_ret
    exact ⟨rfl, HB6.out⟩
set_option maxHeartbeats 3200000 in
theorem costs_walk (a b : Option Addr) (c d n m : Nat) (l o : List Int) (w : World) (hl : l.length = n) (hi : IsInts w a l) (hm : o.length = m) (hj : IsInts w b o) (hn : n ≤ 1100) (hm2 : m ≤ 1100) :
    Calls Try.prog 4 #[.slice a n c, .slice b m d] w fun e w' => e = .returned (.bool true) ∧ Below w.heap.size w w' := by
  have q1 : ¬ (1100 : Int) < n := by omega
  have q1d : decide ((1100 : Int) < n) = false := decide_eq_false q1
  have q2 : ¬ (1100 : Int) < m := by omega
  have q2d : decide ((1100 : Int) < m) = false := decide_eq_false q2
  have CP := Lib.hid (fun W h k => pCost a b c d n m l o W hl h hm k (by omega))
  have CD := Lib.hid (fun W h k => dCost a b c d n m l o W hl h hm k (by omega))
  obtain ⟨C, hC⟩ : ∃ C, costL l o = C := ⟨_, rfl⟩
  rw [hC] at CP CD
  have HI := Lib.hid hi; have HJ := Lib.hid hj
  have CA := Lib.hid (fun W => awake07 W)
  have e1 : (C == C) = true := by simp
  clear hi hj hl hm hC
  go_enter Try.func4, Try.ntmps4
  go_wp2_with fail
  refine (CP.out _ HI.out HJ.out).mono ?_; rintro e w1 ⟨rfl, k1, rfl⟩
  go_wp2_with fail
  refine (CD.out _ (HI.out.drewN k1) (HJ.out.drewN k1)).mono ?_; rintro e w2 ⟨rfl, k2, rfl⟩
  have HB := Lib.hid (below_dn (Below.refl w.heap.size w) (k1 + k2))
  go_wp2_with fail
  refine (CA.out _).mono ?_; rintro e w6 ⟨rfl, hb6⟩
  have HB6 := Lib.hid (HB.out.trans (hb6.mono HB.out.size))
  clear hb6
  go_wp2_with fail
  go_ret
  exact ⟨rfl, HB6.out⟩
theorem chk_more {l : List Int} {m : Nat} (h : chkP l m = 0) (hm : m < 16) : chkP l ((m + 1 : Nat) : Int) = 0 := by
  obtain ⟨m', h0, h1, h2, h3, h4, h5, h6⟩ := chk_ok h
  obtain rfl : m = m' := by omega
  have hp : 2 ^ m ≤ 2 ^ (m + 1) := Nat.pow_le_pow_right (by decide) (by omega)
  have ha : ¬ l.any badF = true := by
    rw [List.any_eq_true]
    rintro ⟨v, hv, hb⟩
    obtain ⟨i, -, rfl⟩ := mem_idx hv
    have := h4 i
    unfold badF at hb
    simp only [Bool.or_eq_true, decide_eq_true_eq] at hb
    omega
  unfold chkP
  rw [if_neg (by omega), if_neg (by omega), if_neg ha, if_neg (by omega), if_neg (by rw [Int.toNat_natCast]; omega)]
theorem may_more {l o : List Int} {m : Nat} (h : mayP l o m) (hm : m < 16) : mayP l o ((m + 1 : Nat) : Int) := ⟨h.1, check_more _ _ h.2.1 hm, h.2.2⟩
/-- What is more frequent has no longer code. -/
theorem lens_falls (l : List Int) (L : Nat) (h : chkP l L = 0) (i k : Nat) (hik : l.getD k 0 < l.getD i 0) (hk : 0 < l.getD k 0) : (lensV l L).getD i 0 ≤ (lensV l L).getD k 0 := by
  have hil : i < l.length := by
    apply Classical.byContradiction
    intro hn
    rw [getD_out (l := l) (i := i) (by omega)] at hik; omega
  have hkl : k < l.length := by
    apply Classical.byContradiction
    intro hn
    rw [getD_out (l := l) (i := k) (by omega)] at hk; omega
  obtain ⟨ji, hji, ei⟩ := List.mem_iff_getElem.1 ((srtS_iff l i).2 ⟨hil, by omega⟩)
  obtain ⟨jk, hjk, ek⟩ := List.mem_iff_getElem.1 ((srtS_iff l k).2 ⟨hkl, hk⟩)
  rw [lensV_at l L ji i hji ei, lensV_at l L jk k hjk ek]
  have hlt : jk < ji := by
    apply Classical.byContradiction
    intro hn
    by_cases e : ji = jk
    · subst e
      have : (i : Int) = k := by rw [← ei, ← ek]
      have : i = k := by omega
      subst this; omega
    · have hs := (List.pairwise_iff_getElem.1 (srtS_srt l)) ji jk hji hjk (by omega)
      rw [ei, ek] at hs
      unfold St.lx frL at hs
      rw [Int.toNat_natCast, Int.toNat_natCast] at hs
      omega
  have := (lj_bd l L h).2.2.2 jk ji (by omega)
  omega
end Go.Proofs.Ytofmjcelmbkebaa
