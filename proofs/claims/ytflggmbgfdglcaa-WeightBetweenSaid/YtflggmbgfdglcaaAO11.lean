/- Layer 14: the chapter's example. -/
import Derived.Test.YtflggmbgfdglcaaAO10
namespace Go.Proofs.Ytflggmbgfdglcaa
open Go.ChangeShapes Go.WideShapes Go.ChangeAt Go.RowKit
set_option linter.unusedVariables false
set_option linter.unusedSimpArgs false
set_option maxRecDepth 100000
open Ieee
set_option maxHeartbeats 1600000 in
theorem cWholeN (x : Nat) (h1 : isN x = true) (w : World) : Calls Try.prog 7 #[.float .f64 x] w fun e w' => e = .returned (.tuple #[.int .i64 0, .int .i64 8]) ∧ Below w.heap.size w w' := by
  have C := Lib.hid (fun W => whyNaN x h1 W)
  clear h1
  go_enter Try.func7, Try.ntmps7
  go_wp2_with fail
  refine (C.out _).mono ?_; rintro e w1 ⟨rfl, hb⟩
  go_wp2_with fail
  refine (numNaN _).mono ?_; rintro e w1 ⟨rfl, rfl⟩
  go_wp2_with fail
  go_ret2
  exact ⟨rfl, hb⟩
theorem litW (w : World) (is : List Int) (t2 : Nat) (hl : is.length ≤ 70368744177664) : IsInts (w.alloc (.cells (is.map (Value.int .i64 ·)).toArray t2)) (some ⟨w.heap.size, 0, none⟩) is := IsInts.new w is t2 (0, 0) hl
theorem two_litsW (w : World) (A B : List Int) (w2 : World) (hA : A.length ≤ 70368744177664) (hB : B.length ≤ 70368744177664) (h : (w.alloc (.cells (A.map (Value.int .i64 ·)).toArray 3)).alloc (.cells (B.map (Value.int .i64 ·)).toArray 3) = w2) : IsInts w2 (some ⟨w.heap.size, 0, none⟩) A ∧ IsInts w2 (some ⟨w.heap.size + 1, 0, none⟩) B := by
  subst h
  refine ⟨(litW w A 3 hA).alloc _, ?_⟩
  have := litW (w.alloc (.cells (A.map (Value.int .i64 ·)).toArray 3)) B 3 hB
  have e : (w.alloc (.cells (A.map (Value.int .i64 ·)).toArray 3)).heap.size = w.heap.size + 1 := by simp
  rw [e] at this
  exact this
theorem sjW {w a b : World} {o : Obj} (h : Below w.heap.size w a) (h2 : Below (a.alloc o).heap.size (a.alloc o) b) : Below w.heap.size w b :=
  (h.alloc h.size o).trans (h2.mono (by have := h.size; simp; omega))
set_option maxHeartbeats 1600000 in
theorem cZero14 (w : World) : Calls Try.prog 17 #[.slice none 0 0] w fun e w' => e = .returned (.float .f64 0) ∧ ∃ n, w' = w.drewN n := by
  go_enter Try.func17, Try.ntmps17
  go_wp2_with fail
  go_quiet (fail)
  go_wp2_with fail
  go_ret
  exact ⟨rfl, _, rfl⟩
theorem vw1 : mixL [10] [20] (clampC 4598175219545276416) = [12] := by decide +kernel
theorem vw2 : mixL [10] [20] (clampC 9218868437227405312) = [20] := by decide +kernel
theorem vw3 : wholeV 9218868437227405312 = (0, 9) := by decide +kernel
theorem vw4 : wholeV 13830554455654793216 = (0, 2) := by decide +kernel
theorem vw5 : wholeV 9223372036854775808 = (0, 0) := by decide +kernel
theorem vw6 : wholeV 4751297606874824704 = (4294967295, 0) := by decide +kernel
theorem vw7 : double.div 0 0 = none := by decide +kernel
theorem vw8 : double.div 4607182418800017408 0 = some 9218868437227405312 := by decide +kernel
theorem vw9 : double.div (nf 1) (nf 4) = some 4598175219545276416 := by decide +kernel
set_option maxHeartbeats 3200000 in
theorem awake14 (w : World) : Calls Try.prog 6 #[] w fun e w' => e = .returned (.bool true) ∧ Below w.heap.size w w' := by
  have CZ := Lib.hid (fun W => cZero14 W)
  have CM1 := Lib.hid (fun a b W (h1 : IsInts W a [10]) (h2 : IsInts W b [20]) => show Calls Try.prog 15 #[.slice a 1 1, .slice b 1 1, .float .f64 4598175219545276416] W fun e w' => ∃ v, e = .returned (.tuple #[v, .int .i64 0]) ∧ IsL w' v [12] ∧ Below W.heap.size W w' by
    have := cMixOk a b 1 1 [10] [20] 4598175219545276416 (by decide +kernel) rfl (by decide) W h1 h2 (by decide) (by decide)
    rw [vw1] at this
    exact this)
  have CM2 := Lib.hid (fun a b W (h1 : IsInts W a [10]) (h2 : IsInts W b [20]) => show Calls Try.prog 15 #[.slice a 1 1, .slice b 1 1, .float .f64 9218868437227405312] W fun e w' => ∃ v, e = .returned (.tuple #[v, .int .i64 0]) ∧ IsL w' v [20] ∧ Below W.heap.size W w' by
    have := cMixOk a b 1 1 [10] [20] 9218868437227405312 (by decide +kernel) rfl (by decide) W h1 h2 (by decide) (by decide)
    rw [vw2] at this
    exact this)
  have CM3 := Lib.hid (fun b W => show Calls Try.prog 15 #[.slice none 0 0, .slice b 1 1, .float .f64 4607182418800017408] W fun e w' => e = .returned (.tuple #[.slice none 0 0, .int .i64 1]) ∧ w' = W from cMixL none b 0 1 0 1 4607182418800017408 (by decide +kernel) (by decide) W)
  have CW3 := Lib.hid (fun W => cWhole 9218868437227405312 (by decide) 0 9 vw3 W)
  have CW4 := Lib.hid (fun W => cWhole 13830554455654793216 (by decide) 0 2 vw4 W)
  have CW5 := Lib.hid (fun W => cWhole 9223372036854775808 (by decide) 0 0 vw5 W)
  have CW6 := Lib.hid (fun W => cWhole 4751297606874824704 (by decide) 4294967295 0 vw6 W)
  have CR := Lib.hid (fun W => cRatioS 1 4 4598175219545276416 vw9 W)
  have hq1 := quo_run vw8
  have hng : Op.unary .neg (.float .f64 0) = pure (.float .f64 9223372036854775808) := by
    show pure (Value.float .f64 (Op.negFloat .f64 0)) = _
    rw [show Op.negFloat .f64 0 = 9223372036854775808 by decide +kernel]
  have heq : (FloatKind.f64.format.order 4598175219545276416 4598175219545276416 == some .eq) = true := by decide +kernel
  go_enter Try.func6, Try.ntmps6
  go_wp2_with fail
  refine (CZ.out _).mono ?_; rintro e w1 ⟨rfl, n, rfl⟩
  have HB := Lib.hid (below_dn (Below.refl w.heap.size w) n)
  obtain ⟨w1, hw1⟩ : ∃ w1, w.drewN n = w1 := ⟨_, rfl⟩
  rw [hw1] at HB ⊢
  clear hw1
  go_wp2_with fail
  obtain ⟨w3a, hw3a⟩ : ∃ w3a, (w1.alloc (.cells #[.int .i64 10] 3)).alloc (.cells #[.int .i64 20] 3) = w3a := ⟨_, rfl⟩
  obtain ⟨hA, hB⟩ := two_litsW w1 [10] [20] w3a (by decide) (by decide) hw3a
  have hbA : Below w1.heap.size w1 w3a := by rw [← hw3a]; exact ((Below.refl _ _).alloc (Nat.le_refl _) _).alloc (by simp) _
  have HB := Lib.hid (HB.out.trans (hbA.mono HB.out.size))
  rw [hw3a]
  clear hw3a hbA
  refine (CM1.out _ _ _ hA hB).mono ?_; rintro e w2 ⟨v2, rfl, hv2, hb1⟩
  have HV2 := Lib.hid hv2
  have HB := Lib.hid (HB.out.trans (hb1.mono HB.out.size))
  obtain ⟨r, hr, hq0⟩ := quo_off w2 27 0 0 vw7
  have CW2 := Lib.hid (fun W => cWholeN r hr W)
  clear hb1 hA hB hv2 hr CM1
  go_wp2_with fail
  refine (CW2.out _).mono ?_; rintro e w3 ⟨rfl, hb1⟩
  have hb1 : Below w2.heap.size w2 w3 := ((Below.refl _ w2).drew).trans hb1
  have HV2 := Lib.hid (HV2.out.kept hb1)
  have HB := Lib.hid (HB.out.trans (hb1.mono HB.out.size))
  clear hb1 hq0 CW2
  go_wp2_with fail
  refine (CW3.out _).mono ?_; rintro e w4 ⟨rfl, hb1⟩
  have HV2 := Lib.hid (HV2.out.kept hb1)
  have HB := Lib.hid (HB.out.trans (hb1.mono HB.out.size))
  clear hb1 CW3
  go_wp2_with fail
  refine (CW4.out _).mono ?_; rintro e w5 ⟨rfl, hb1⟩
  have HV2 := Lib.hid (HV2.out.kept hb1)
  have HB := Lib.hid (HB.out.trans (hb1.mono HB.out.size))
  clear hb1 CW4
  go_wp2_with fail
  refine (CW5.out _).mono ?_; rintro e w6 ⟨rfl, hb1⟩
  have HV2 := Lib.hid (HV2.out.kept hb1)
  have HB := Lib.hid (HB.out.trans (hb1.mono HB.out.size))
  clear hb1 CW5
  go_wp2_with fail
  refine (CW6.out _).mono ?_; rintro e w7 ⟨rfl, hb1⟩
  have HV2 := Lib.hid (HV2.out.kept hb1)
  have HB := Lib.hid (HB.out.trans (hb1.mono HB.out.size))
  clear hb1 CW6
  go_wp2_with fail
  refine (CM3.out _ _).mono ?_; rintro e w8 ⟨rfl, rfl⟩
  have HV2 := Lib.hid (HV2.out.alloc (.cells #[.int .i64 1] 3))
  have HB := Lib.hid (HB.out.alloc HB.out.size (.cells #[.int .i64 1] 3))
  obtain ⟨w8, hw8⟩ : ∃ w8, w7.alloc (.cells #[.int .i64 1] 3) = w8 := ⟨_, rfl⟩
  rw [hw8] at HV2 HB ⊢
  clear hw8 CM3
  go_wp2_with fail
  obtain ⟨w9a, hw9a⟩ : ∃ w9a, (w8.alloc (.cells #[.int .i64 10] 3)).alloc (.cells #[.int .i64 20] 3) = w9a := ⟨_, rfl⟩
  obtain ⟨hA, hB⟩ := two_litsW w8 [10] [20] w9a (by decide) (by decide) hw9a
  have hbA : Below w8.heap.size w8 w9a := by rw [← hw9a]; exact ((Below.refl _ _).alloc (Nat.le_refl _) _).alloc (by simp) _
  have HV2 := Lib.hid (HV2.out.kept hbA)
  have HB := Lib.hid (HB.out.trans (hbA.mono HB.out.size))
  rw [hw9a]
  clear hw9a hbA
  refine (CM2.out _ _ _ hA hB).mono ?_; rintro e w9 ⟨v9, rfl, hv9, hb1⟩
  have HV9 := Lib.hid hv9
  have HV2 := Lib.hid (HV2.out.kept hb1)
  have HB := Lib.hid (HB.out.trans (hb1.mono HB.out.size))
  clear hb1 hA hB hv9 CM2
  go_wp2_with fail
  refine (intsL (HV2.out.alloc _) ⟨_, _, rfl, litW w9 [12] 3 (by decide)⟩ true (by decide)).mono ?_; rintro e w10 ⟨rfl, k8, rfl⟩
  have HV9 := Lib.hid ((HV9.out.alloc (.cells ([(12 : Int)].map (Value.int .i64 ·)).toArray 3)).drewN k8)
  have HB := Lib.hid (below_dn (HB.out.alloc HB.out.size (.cells ([(12 : Int)].map (Value.int .i64 ·)).toArray 3)) k8)
  obtain ⟨w10, hw10⟩ : ∃ w10, (w9.alloc (.cells ([(12 : Int)].map (Value.int .i64 ·)).toArray 3)).drewN k8 = w10 := ⟨_, rfl⟩
  have HV9 := Lib.hid (show IsL w10 v9 [20] by rw [← hw10]; exact HV9.out)
  have HB := Lib.hid (show Below w.heap.size w w10 by rw [← hw10]; exact HB.out)
  rw [hw10]
  clear hw10
  go_wp2_with fail
  refine (intsL (HV9.out.alloc _) ⟨_, _, rfl, litW w10 [20] 3 (by decide)⟩ true (by decide)).mono ?_; rintro e w11 ⟨rfl, k9, rfl⟩
  go_wp2_with fail
  refine (CR.out _).mono ?_; rintro e w12 ⟨rfl, rfl⟩
  go_wp2_with fail
  go_ret
  exact ⟨rfl, below_dn (HB.out.alloc HB.out.size _) k9⟩
end Go.Proofs.Ytflggmbgfdglcaa
