/- It is proved that the law 'LevelRises' of the program returns true for every input, with no condition, and leaves what was handed in as it was. The frame was written by a program; the walk is by hand. -/
import Derived.Test.YtmpmioffngonjaaRows
import Derived.WalkKit
import Derived.ProofKit
import Derived.OpenShut
import Derived.ShutString
import Derived.ChangeOld
import Derived.Below
import Derived.Test.YtmpmioffngonjaaBase
import Derived.Test.YtmpmioffngonjaaLv
namespace Go.Proofs.Ytmpmioffngonjaa.levelRises
open Go.ChangeShapes Go.WideShapes Go.ChangeAt Go.RowKit Go.Deep
open Go.ChangeMaps (open_string shut_string)
set_option linter.unusedVariables false
set_option maxRecDepth 100000

theorem own : ownKnob Try.prog.godebug = none := by kernel_rfl
theorem laidOut : laidOutB Try.prog = true := by kernel_rfl

set_option maxHeartbeats 3200000 in
theorem rise_lt_same (a0 a1 : Int) (w : World) (p0 : 0 ≤ a0) (p1 : a0 ≤ 255) (q0 : 0 ≤ a1) (q1 : a1 ≤ 255) (A B : Nat) (hA : a0 % 10 = A) (hB : a1 % 10 = B) (hA1 : A < 10) (hB1 : B < 10) (h : A < B) (hw : lvWay A = lvWay B) :
    Calls Try.prog 10 #[.int .u8 a0, .int .u8 a1] w fun e w' => e = .returned (.bool true) ∧ Below w.heap.size w w' := by
  have h1 : a0 % 10 < a1 % 10 := by omega
  have hM := lv_rises ⟨A, hA1⟩ ⟨B, hB1⟩ (by show A ≤ B; omega)
  have c1 := lvOf A hA1
  have c2 := lvOf B hB1
  simp only at hM
  obtain ⟨W1, e1⟩ : ∃ x, lvWay A = x := ⟨_, rfl⟩
  obtain ⟨D1, e2⟩ : ∃ x, lvDepth A = x := ⟨_, rfl⟩
  obtain ⟨P1, e3⟩ : ∃ x, lvPasses A = x := ⟨_, rfl⟩
  obtain ⟨W2, f1⟩ : ∃ x, lvWay B = x := ⟨_, rfl⟩
  obtain ⟨D2, f2⟩ : ∃ x, lvDepth B = x := ⟨_, rfl⟩
  obtain ⟨P2, f3⟩ : ∃ x, lvPasses B = x := ⟨_, rfl⟩
  rw [e1, e2, e3] at c1 hM
  rw [f1, f2, f3] at c2 hM
  rw [e1, f1] at hw
  obtain ⟨m1, m2⟩ := hM
  have C1 := Lib.hid c1; have C2 := Lib.hid c2; have HA := Lib.hid hA; have HB := Lib.hid hB
  clear c1 c2 e1 e2 e3 f1 f2 f3 hA hB
  obtain ⟨m3, m4⟩ := m2 hw
  subst hw
  clear m2
  go_enter Try.func10, Try.ntmps10
  go_wp2_with fail
  rw [HA.out]
  refine (C1.out _).mono ?_; rintro e v1 ⟨rfl, hb1⟩
  go_wp2_with fail
  rw [HB.out]
  refine (C2.out _).mono ?_; rintro e v2 ⟨rfl, hb2⟩
  obtain ⟨x0, x1, x2, hlt⟩ := box3_start hb2
  have hc2 := hb1.trans ((below_box3 hb2).mono hb1.size)
  have hz := hc2.size
  clear hb1 hb2
  go_wp2_with fail
  refine (awake32 _).mono ?_; rintro e v3 ⟨rfl, hb3⟩
  have hc3 : Below w.heap.size w v3 := Below.trans (by go_grown) (hb3.mono (by simp; omega))
  clear hb3
  go_wp2_with fail
  go_ret
  exact ⟨rfl, hc3⟩

set_option maxHeartbeats 3200000 in
theorem rise_lt_other (a0 a1 : Int) (w : World) (p0 : 0 ≤ a0) (p1 : a0 ≤ 255) (q0 : 0 ≤ a1) (q1 : a1 ≤ 255) (A B : Nat) (hA : a0 % 10 = A) (hB : a1 % 10 = B) (hA1 : A < 10) (hB1 : B < 10) (h : A < B) (hw : ¬ lvWay A = lvWay B) :
    Calls Try.prog 10 #[.int .u8 a0, .int .u8 a1] w fun e w' => e = .returned (.bool true) ∧ Below w.heap.size w w' := by
  have h1 : a0 % 10 < a1 % 10 := by omega
  have hM := lv_rises ⟨A, hA1⟩ ⟨B, hB1⟩ (by show A ≤ B; omega)
  have c1 := lvOf A hA1
  have c2 := lvOf B hB1
  simp only at hM
  obtain ⟨W1, e1⟩ : ∃ x, lvWay A = x := ⟨_, rfl⟩
  obtain ⟨D1, e2⟩ : ∃ x, lvDepth A = x := ⟨_, rfl⟩
  obtain ⟨P1, e3⟩ : ∃ x, lvPasses A = x := ⟨_, rfl⟩
  obtain ⟨W2, f1⟩ : ∃ x, lvWay B = x := ⟨_, rfl⟩
  obtain ⟨D2, f2⟩ : ∃ x, lvDepth B = x := ⟨_, rfl⟩
  obtain ⟨P2, f3⟩ : ∃ x, lvPasses B = x := ⟨_, rfl⟩
  rw [e1, e2, e3] at c1 hM
  rw [f1, f2, f3] at c2 hM
  rw [e1, f1] at hw
  obtain ⟨m1, m2⟩ := hM
  have C1 := Lib.hid c1; have C2 := Lib.hid c2; have HA := Lib.hid hA; have HB := Lib.hid hB
  clear c1 c2 e1 e2 e3 f1 f2 f3 hA hB
  clear m2
  go_enter Try.func10, Try.ntmps10
  go_wp2_with fail
  rw [HA.out]
  refine (C1.out _).mono ?_; rintro e v1 ⟨rfl, hb1⟩
  go_wp2_with fail
  rw [HB.out]
  refine (C2.out _).mono ?_; rintro e v2 ⟨rfl, hb2⟩
  obtain ⟨x0, x1, x2, hlt⟩ := box3_start hb2
  have hc2 := hb1.trans ((below_box3 hb2).mono hb1.size)
  have hz := hc2.size
  clear hb1 hb2
  go_wp2_with fail
  refine (awake32 _).mono ?_; rintro e v3 ⟨rfl, hb3⟩
  have hc3 : Below w.heap.size w v3 := Below.trans (by go_grown) (hb3.mono (by simp; omega))
  clear hb3
  go_wp2_with fail
  go_ret
  exact ⟨rfl, hc3⟩

set_option maxHeartbeats 3200000 in
theorem rise_eq_same (a0 a1 : Int) (w : World) (p0 : 0 ≤ a0) (p1 : a0 ≤ 255) (q0 : 0 ≤ a1) (q1 : a1 ≤ 255) (A : Nat) (hA : a0 % 10 = A) (hB : a1 % 10 = A) (hA1 : A < 10) :
    Calls Try.prog 10 #[.int .u8 a0, .int .u8 a1] w fun e w' => e = .returned (.bool true) ∧ Below w.heap.size w w' := by
  have h1 : ¬ a0 % 10 < a1 % 10 := by omega
  have h2 : ¬ a1 % 10 < a0 % 10 := by omega
  have c1 := lvOf A hA1
  obtain ⟨W1, e1⟩ : ∃ x, lvWay A = x := ⟨_, rfl⟩
  obtain ⟨D1, e2⟩ : ∃ x, lvDepth A = x := ⟨_, rfl⟩
  obtain ⟨P1, e3⟩ : ∃ x, lvPasses A = x := ⟨_, rfl⟩
  rw [e1, e2, e3] at c1
  have C1 := Lib.hid c1; have C2 := C1; have HA := Lib.hid hA; have HB := Lib.hid hB
  clear c1 e1 e2 e3 hA hB
  go_enter Try.func10, Try.ntmps10
  go_wp2_with fail
  first | rw [HA.out] | rw [HB.out]
  refine (C1.out _).mono ?_; rintro e v1 ⟨rfl, hb1⟩
  go_wp2_with fail
  first | rw [HB.out] | rw [HA.out]
  refine (C2.out _).mono ?_; rintro e v2 ⟨rfl, hb2⟩
  obtain ⟨x0, x1, x2, hlt⟩ := box3_start hb2
  have hc2 := hb1.trans ((below_box3 hb2).mono hb1.size)
  have hz := hc2.size
  clear hb1 hb2
  go_wp2_with fail
  refine (awake32 _).mono ?_; rintro e v3 ⟨rfl, hb3⟩
  have hc3 : Below w.heap.size w v3 := Below.trans (by go_grown) (hb3.mono (by simp; omega))
  clear hb3
  go_wp2_with fail
  go_ret
  exact ⟨rfl, hc3⟩

set_option maxHeartbeats 3200000 in
theorem rise_gt_same (a0 a1 : Int) (w : World) (p0 : 0 ≤ a0) (p1 : a0 ≤ 255) (q0 : 0 ≤ a1) (q1 : a1 ≤ 255) (A B : Nat) (hA : a0 % 10 = A) (hB : a1 % 10 = B) (hA1 : A < 10) (hB1 : B < 10) (h : B < A) (hw : lvWay B = lvWay A) :
    Calls Try.prog 10 #[.int .u8 a0, .int .u8 a1] w fun e w' => e = .returned (.bool true) ∧ Below w.heap.size w w' := by
  have h1 : a1 % 10 < a0 % 10 := by omega
  have hM := lv_rises ⟨B, hB1⟩ ⟨A, hA1⟩ (by show B ≤ A; omega)
  have c1 := lvOf B hB1
  have c2 := lvOf A hA1
  simp only at hM
  obtain ⟨W1, e1⟩ : ∃ x, lvWay B = x := ⟨_, rfl⟩
  obtain ⟨D1, e2⟩ : ∃ x, lvDepth B = x := ⟨_, rfl⟩
  obtain ⟨P1, e3⟩ : ∃ x, lvPasses B = x := ⟨_, rfl⟩
  obtain ⟨W2, f1⟩ : ∃ x, lvWay A = x := ⟨_, rfl⟩
  obtain ⟨D2, f2⟩ : ∃ x, lvDepth A = x := ⟨_, rfl⟩
  obtain ⟨P2, f3⟩ : ∃ x, lvPasses A = x := ⟨_, rfl⟩
  rw [e1, e2, e3] at c1 hM
  rw [f1, f2, f3] at c2 hM
  rw [e1, f1] at hw
  obtain ⟨m1, m2⟩ := hM
  have C1 := Lib.hid c1; have C2 := Lib.hid c2; have HA := Lib.hid hA; have HB := Lib.hid hB
  clear c1 c2 e1 e2 e3 f1 f2 f3 hA hB
  obtain ⟨m3, m4⟩ := m2 hw
  subst hw
  clear m2
  go_enter Try.func10, Try.ntmps10
  go_wp2_with fail
  rw [HB.out]
  refine (C1.out _).mono ?_; rintro e v1 ⟨rfl, hb1⟩
  go_wp2_with fail
  rw [HA.out]
  refine (C2.out _).mono ?_; rintro e v2 ⟨rfl, hb2⟩
  obtain ⟨x0, x1, x2, hlt⟩ := box3_start hb2
  have hc2 := hb1.trans ((below_box3 hb2).mono hb1.size)
  have hz := hc2.size
  clear hb1 hb2
  go_wp2_with fail
  refine (awake32 _).mono ?_; rintro e v3 ⟨rfl, hb3⟩
  have hc3 : Below w.heap.size w v3 := Below.trans (by go_grown) (hb3.mono (by simp; omega))
  clear hb3
  go_wp2_with fail
  go_ret
  exact ⟨rfl, hc3⟩

set_option maxHeartbeats 3200000 in
theorem rise_gt_other (a0 a1 : Int) (w : World) (p0 : 0 ≤ a0) (p1 : a0 ≤ 255) (q0 : 0 ≤ a1) (q1 : a1 ≤ 255) (A B : Nat) (hA : a0 % 10 = A) (hB : a1 % 10 = B) (hA1 : A < 10) (hB1 : B < 10) (h : B < A) (hw : ¬ lvWay B = lvWay A) :
    Calls Try.prog 10 #[.int .u8 a0, .int .u8 a1] w fun e w' => e = .returned (.bool true) ∧ Below w.heap.size w w' := by
  have h1 : a1 % 10 < a0 % 10 := by omega
  have hM := lv_rises ⟨B, hB1⟩ ⟨A, hA1⟩ (by show B ≤ A; omega)
  have c1 := lvOf B hB1
  have c2 := lvOf A hA1
  simp only at hM
  obtain ⟨W1, e1⟩ : ∃ x, lvWay B = x := ⟨_, rfl⟩
  obtain ⟨D1, e2⟩ : ∃ x, lvDepth B = x := ⟨_, rfl⟩
  obtain ⟨P1, e3⟩ : ∃ x, lvPasses B = x := ⟨_, rfl⟩
  obtain ⟨W2, f1⟩ : ∃ x, lvWay A = x := ⟨_, rfl⟩
  obtain ⟨D2, f2⟩ : ∃ x, lvDepth A = x := ⟨_, rfl⟩
  obtain ⟨P2, f3⟩ : ∃ x, lvPasses A = x := ⟨_, rfl⟩
  rw [e1, e2, e3] at c1 hM
  rw [f1, f2, f3] at c2 hM
  rw [e1, f1] at hw
  obtain ⟨m1, m2⟩ := hM
  have C1 := Lib.hid c1; have C2 := Lib.hid c2; have HA := Lib.hid hA; have HB := Lib.hid hB
  clear c1 c2 e1 e2 e3 f1 f2 f3 hA hB
  clear m2
  go_enter Try.func10, Try.ntmps10
  go_wp2_with fail
  rw [HB.out]
  refine (C1.out _).mono ?_; rintro e v1 ⟨rfl, hb1⟩
  go_wp2_with fail
  rw [HA.out]
  refine (C2.out _).mono ?_; rintro e v2 ⟨rfl, hb2⟩
  obtain ⟨x0, x1, x2, hlt⟩ := box3_start hb2
  have hc2 := hb1.trans ((below_box3 hb2).mono hb1.size)
  have hz := hc2.size
  clear hb1 hb2
  go_wp2_with fail
  refine (awake32 _).mono ?_; rintro e v3 ⟨rfl, hb3⟩
  have hc3 : Below w.heap.size w v3 := Below.trans (by go_grown) (hb3.mono (by simp; omega))
  clear hb3
  go_wp2_with fail
  go_ret
  exact ⟨rfl, hc3⟩

theorem walk (a0 : Int) (a1 : Int) (w : World) (w0 : (Lit.int .u8 a0).wf = true) (w1 : (Lit.int .u8 a1).wf = true) :
    Calls Try.prog 10 #[.int .u8 a0, .int .u8 a1] w fun e w' => e = .returned (.bool true) ∧ Below w.heap.size w w' := by
  obtain ⟨p0, p1⟩ := bounds_u8 w0
  obtain ⟨q0, q1⟩ := bounds_u8 w1
  obtain ⟨A, hA⟩ : ∃ A : Nat, a0 % 10 = A := ⟨(a0 % 10).toNat, by omega⟩
  obtain ⟨B, hB⟩ : ∃ B : Nat, a1 % 10 = B := ⟨(a1 % 10).toNat, by omega⟩
  have hA1 : A < 10 := by omega
  have hB1 : B < 10 := by omega
  rcases Nat.lt_trichotomy A B with h | h | h
  · by_cases hw : lvWay A = lvWay B
    · exact rise_lt_same a0 a1 w (by omega) (by omega) (by omega) (by omega) A B hA hB hA1 hB1 h hw
    · exact rise_lt_other a0 a1 w (by omega) (by omega) (by omega) (by omega) A B hA hB hA1 hB1 h hw
  · exact rise_eq_same a0 a1 w (by omega) (by omega) (by omega) (by omega) A hA (by omega) hA1
  · by_cases hw : lvWay B = lvWay A
    · exact rise_gt_same a0 a1 w (by omega) (by omega) (by omega) (by omega) A B hA hB hA1 hB1 h hw
    · exact rise_gt_other a0 a1 w (by omega) (by omega) (by omega) (by omega) A B hA hB hA1 hB1 h hw

theorem lifted (os : Os) (started : os.Started) (H : Type) (enc : TypeId × Value → H) :
    ReturnsInHanded {} Try.checked os 10 .any (Rows.levelRisesSpec.pre6 enc Try.prog Try.f10 Rows.levelRisesRow.domain false) (Rows.levelRisesSpec.post enc Try.prog Try.f10 false true false false) := by
  refine returnsInHanded_of_change (C := Try.checked) own started (by kernel_rfl) Try.func10
    (ChangeSpec.witness6 (enc := enc) (C := Try.checked) false ⟨#[], #[.int .u8 0, .int .u8 0], []⟩ 8 (by kernel_rfl) (by kernel_rfl) (by kernel_rfl) (by kernel_rfl)) ?_
  intro W base args ds gs before hval0 hW hcnd _
  have hval : ∀ (j : Nat) t v, Try.f10.params[j]? = some t → args[j]? = some v → Value.okWide Try.prog W .any base t v := hval0
  have hW' := hW
  obtain ⟨p, q, hA0, hV, rfl, hfz, hnd⟩ := hW
  have hA : DataW.TrodAll enc Try.prog W 0 (fun _ => true) true Try.f10.params.toList args.toList ds p := hA0
  rw [Try.params10] at hA hval
  obtain ⟨v0, vs0, d0, ds0, p0, q0, hargs, rfl, rfl, h0, r0⟩ := trodAll_cons hA
  obtain ⟨v1, vs1, d1, ds1, p1, q1, rfl, rfl, rfl, h1, r1⟩ := trodAll_cons r0
  obtain ⟨rfl, rfl, rfl⟩ := trodAll_nil r1
  obtain rfl : args = #[v0, v1] := by cases args; simp_all
  obtain ⟨rfl, rfl⟩ := trodVars_none hV
  have k0 := h0
  have lt0 : ∀ x ∈ p0, x.block < W.heap.size := by obtain ⟨m, hm⟩ := k0; exact DataW.trod_lt m _ _ _ hm
  obtain ⟨a0, rfl, rfl, rfl, w0⟩ := open_int Try.underlying5 (hval 0 5 v0 rfl rfl) h0
  have k1 := h1
  have lt1 : ∀ x ∈ p1, x.block < W.heap.size := by obtain ⟨m, hm⟩ := k1; exact DataW.trod_lt m _ _ _ hm
  obtain ⟨a1, rfl, rfl, rfl, w1⟩ := open_int Try.underlying5 (hval 1 5 v1 rfl rfl) h1
  clear hA0 hval0
  refine (walk a0 a1 W w0 w1).mono fun e W' ⟨he, bel⟩ => ?_
  subst he
  exact ⟨_, rfl, _, _, _, [], _, [], hW', trodAll_mk1 (shut_bool Try.underlying4 _), (trodAll_cons_mk (Below.trod laidOut (by kernel_rfl) (of_decide_eq_true (by kernel_rfl)) k0 bel lt0) (trodAll_cons_mk (Below.trod laidOut (by kernel_rfl) (of_decide_eq_true (by kernel_rfl)) k1 bel lt1) trodAll_mk0)), rfl, bel.frame _, fun h => by cases h⟩

theorem over : Rows.levelRisesRow.holds Try.pinned (OpenSpec.ofChange Rows.levelRisesSpec) :=
  OpenClaim.holds_of_wide 10 Try.f10 rfl rfl rfl rfl rfl rfl rfl ⟨rfl, rfl, rfl, rfl, rfl⟩ rfl rfl rfl rfl rfl (by kernel_rfl) Try.func10 (by kernel_rfl)
    (of_decide_eq_true (by kernel_rfl)) (by unfold Func.isWrapper; first | (rw [if_pos (by decide +kernel)]; kernel_rfl) | (rw [if_neg (by decide +kernel)]; exact ⟨rfl, rfl⟩))
    (fun os started H enc _ => lifted os started H enc)

theorem proved : Rows.LevelRisesSaid := over
#print axioms proved
end Go.Proofs.Ytmpmioffngonjaa.levelRises
