/- Layer 14: Whole, Freqs, Ratio. -/
import Derived.Test.YtflggmbgfdglcaaAO4
import Derived.Test.YtflggmbgfdglcaaLi
namespace Go.Proofs.Ytflggmbgfdglcaa
open Go.ChangeShapes Go.WideShapes Go.ChangeAt Go.RowKit
set_option linter.unusedVariables false
set_option linter.unusedSimpArgs false
set_option maxRecDepth 100000
open Ieee
theorem ta_hit (T X : TypeId) (v : Value) (hu : Try.prog.underlying T = some (.struct #[])) (w : World) : (Instr.typeAssert (.iface T v) X T true).run Try.prog w = .ok (.tuple #[v, .bool true]) w := by
  simp [Instr.typeAssert, run_underlying hu]
theorem ta_miss (T X S : TypeId) (v z : Value) (hu : Try.prog.underlying T = some (.struct #[])) (hz : ∀ w, (zeroValue T).run Try.prog w = .ok z w) (hne : S ≠ T) (w : World) : (Instr.typeAssert (.iface S v) X T true).run Try.prog w = .ok (.tuple #[z, .bool false]) w := by
  simp [Instr.typeAssert, run_underlying hu, hne, hz]
theorem zN (w : World) : (zeroValue 51).run Try.prog w = .ok (.agg #[]) w := (zero_of_info (P := Try.prog) (t := 51) (v := .agg #[]) (n := 0) (by kernel_rfl)).1 w
theorem zI (w : World) : (zeroValue 52).run Try.prog w = .ok (.agg #[]) w := (zero_of_info (P := Try.prog) (t := 52) (v := .agg #[]) (n := 0) (by kernel_rfl)).1 w
theorem zF (w : World) : (zeroValue 53).run Try.prog w = .ok (.agg #[]) w := (zero_of_info (P := Try.prog) (t := 53) (v := .agg #[]) (n := 0) (by kernel_rfl)).1 w
theorem ta_nil (T X : TypeId) (z : Value) (hu : Try.prog.underlying T = some (.struct #[])) (hz : ∀ w, (zeroValue T).run Try.prog w = .ok z w) (w : World) : (Instr.typeAssert .nilIface X T true).run Try.prog w = .ok (.tuple #[z, .bool false]) w := by
  simp [Instr.typeAssert, run_underlying hu, hz]
set_option maxHeartbeats 1600000 in
theorem numNaN (w : World) : Calls Try.prog 18 #[.iface 51 (.agg #[])] w fun e w' => e = .returned (.int .i64 8) ∧ w' = w := by
  have t0 := fun W => ta_hit 51 45 (.agg #[]) Try.underlying51 W
  go_enter Try.func18, Try.ntmps18
  go_wp2_with fail
  go_ret
  exact ⟨rfl, rfl⟩
set_option maxHeartbeats 1600000 in
theorem numInf (w : World) : Calls Try.prog 18 #[.iface 52 (.agg #[])] w fun e w' => e = .returned (.int .i64 9) ∧ w' = w := by
  have t0 := fun W => ta_miss 51 45 52 (.agg #[]) (.agg #[]) Try.underlying51 zN (by decide) W
  have t1 := fun W => ta_hit 52 45 (.agg #[]) Try.underlying52 W
  go_enter Try.func18, Try.ntmps18
  go_wp2_with fail
  go_ret
  exact ⟨rfl, rfl⟩
set_option maxHeartbeats 1600000 in
theorem numFar (w : World) : Calls Try.prog 18 #[.iface 53 (.agg #[])] w fun e w' => e = .returned (.int .i64 2) ∧ w' = w := by
  have t0 := fun W => ta_miss 51 45 53 (.agg #[]) (.agg #[]) Try.underlying51 zN (by decide) W
  have t1 := fun W => ta_miss 52 45 53 (.agg #[]) (.agg #[]) Try.underlying52 zI (by decide) W
  have t2 := fun W => ta_hit 53 45 (.agg #[]) Try.underlying53 W
  go_enter Try.func18, Try.ntmps18
  go_wp2_with fail
  go_ret
  exact ⟨rfl, rfl⟩
set_option maxHeartbeats 1600000 in
theorem numNone (w : World) : Calls Try.prog 18 #[.nilIface] w fun e w' => e = .returned (.int .i64 0) ∧ w' = w := by
  have t0 := fun W => ta_nil 51 45 (.agg #[]) Try.underlying51 zN W
  have t1 := fun W => ta_nil 52 45 (.agg #[]) Try.underlying52 zI W
  have t2 := fun W => ta_nil 53 45 (.agg #[]) Try.underlying53 zF W
  go_enter Try.func18, Try.ntmps18
  go_wp2_with fail
  go_ret
  exact ⟨rfl, rfl⟩
theorem wholeV_cases (x : Nat) (hx : x < 18446744073709551616) : (isN x = true ∧ wholeV x = (0, 8)) ∨ (isN x = false ∧ (double.read x).isInfinity = true ∧ wholeV x = (0, 9)) ∨ (isN x = false ∧ (double.read x).isInfinity = false ∧ farF x = true ∧ wholeV x = (0, 2)) ∨
    (isN x = false ∧ (double.read x).isInfinity = false ∧ farF x = false ∧ ∃ n : Nat, n < 4294967296 ∧ wholeV x = ((n : Int), 0) ∧ (double.read x).toInt .zero = some (n : Int) ∧ (double.read (double.write ((double.read x).integral .down))).toInt .zero = some (n : Int)) := by
  cases h : double.read x with
  | nan s f => left; exact ⟨by unfold isN; rw [h]; rfl, by unfold wholeV; rw [h]⟩
  | infinity s => right; left; exact ⟨by unfold isN; rw [h]; rfl, rfl, by unfold wholeV; rw [h]⟩
  | number s m e =>
    right; right
    have hn : isN x = false := by unfold isN; rw [h]; rfl
    by_cases hf : farF x = true
    · left
      refine ⟨hn, rfl, hf, ?_⟩
      rw [wholeV_num h, if_pos]
      unfold farF at hf
      rcases Bool.or_eq_true_iff.1 hf with h1 | h1
      · exact .inl h1
      · exact .inr h1
    · right
      rw [Bool.not_eq_true] at hf
      have hf2 := hf
      unfold farF at hf2
      rw [Bool.or_eq_false_iff] at hf2
      obtain ⟨n, h1, h2, h3⟩ := floor_ok h hf2.1 hf2.2
      rw [h] at h2 h3
      refine ⟨hn, rfl, hf, n, h1, ?_, h2, h3⟩
      rw [wholeV_num h, if_neg (by rw [hf2.1, hf2.2]; simp), h, h2]; rfl
theorem f2i {x : Nat} {n : Int} (h : (double.read x).toInt .zero = some n) (h0 : -9223372036854775808 ≤ n) (h1 : n ≤ 9223372036854775807) (w : World) : (convert 27 3 (.float .f64 x)).run Try.prog w = .ok (.int .i64 n) w := by
  refine run_convert_float_int w 27 3 .f64 .i64 x n (by rw [Try.underlying27]; rfl) Try.underlying3 ?_
  unfold floatToIntVal
  show (match (double.read x).toInt .zero with | some n => if IntKind.i64.min ≤ n ∧ n ≤ IntKind.i64.max then some n else none | none => none) = some n
  rw [h]
  simp only []
  rw [if_pos ⟨by show (-9223372036854775808 : Int) ≤ n; exact h0, by show n ≤ (9223372036854775807 : Int); exact h1⟩]
set_option maxHeartbeats 1600000 in
theorem cFloor (x : Nat) (hn : isN x = false) (w : World) : Calls Try.prog 20 #[.float .f64 x] w fun e w' => e = .returned (.float .f64 (double.write ((double.read x).integral .down))) ∧ w' = w := by
  have hrun : ∀ W, (Extern.MathFloor.toIntegral "math.archFloor" .down #[.float .f64 x]).run Try.prog W = .ok (.float .f64 (double.write ((double.read x).integral .down))) W := by
    intro W
    unfold isN at hn
    show Sem.run Try.prog (match double.read x with
      | .nan s t =>
        if FloatKind.f64.format.quiet t = t then pure (Value.float .f64 x) else (do
          let kept ← choose (.extern "math.Floor,Ceil,Trunc,RoundToEven.signallingNaN kept" 2)
          pure (Value.float .f64 (if kept == 1 then x else FloatKind.f64.encode (.nan s (FloatKind.f64.format.quiet t)))))
      | d => pure (Value.float .f64 (FloatKind.f64.encode (d.integral .down)))) W = _
    cases hr : double.read x with
    | nan s f => rw [hr] at hn; cases hn
    | infinity s => rfl
    | number s m e => rfl
  obtain ⟨Y, hY⟩ : ∃ Y, double.write ((double.read x).integral .down) = Y := ⟨_, rfl⟩
  rw [hY] at hrun ⊢
  clear hY
  go_enter Try.func20, Try.ntmps20
  go_wp2_with fail
  rw [run_callFunc_extern Try.func24 (by kernel_rfl) (by kernel_rfl) (by kernel_rfl) (e := Extern.MathFloor.toIntegral "math.archFloor" .down) (by kernel_rfl), hrun]
  simp only [Result.andThen]
  rw [Oper.upon_value]
  go_wp2_with fail
  go_ret
  exact ⟨rfl, rfl⟩
set_option maxHeartbeats 3200000 in
theorem cWhole (x : Nat) (hx : x < 18446744073709551616) (N E : Int) (hV : wholeV x = (N, E)) (w : World) : Calls Try.prog 7 #[.float .f64 x] w fun e w' => e = .returned (.tuple #[.int .i64 N, .int .i64 E]) ∧ Below w.heap.size w w' := by
  rcases wholeV_cases x hx with ⟨h1, h⟩ | ⟨h1, h2, h⟩ | ⟨h1, h2, h3, h⟩ | ⟨h1, h2, h3, n, h4, h, h5, h6⟩
  · rw [hV] at h
    injection h with e1 e2
    subst e1 e2
    have C := Lib.hid (fun W => whyNaN x h1 W)
    clear h1 hV hx
    go_enter Try.func7, Try.ntmps7
    go_wp2_with fail
    refine (C.out _).mono ?_; rintro e w1 ⟨rfl, hb⟩
    go_wp2_with fail
    refine (numNaN _).mono ?_; rintro e w1 ⟨rfl, rfl⟩
    go_wp2_with fail
    go_ret2
    exact ⟨rfl, hb⟩
  · rw [hV] at h
    injection h with e1 e2
    subst e1 e2
    have C := Lib.hid (fun W => whyInf x hx h1 h2 W)
    clear h1 h2 hV hx
    go_enter Try.func7, Try.ntmps7
    go_wp2_with fail
    refine (C.out _).mono ?_; rintro e w1 ⟨rfl, hb⟩
    go_wp2_with fail
    refine (numInf _).mono ?_; rintro e w1 ⟨rfl, rfl⟩
    go_wp2_with fail
    go_ret2
    exact ⟨rfl, hb⟩
  · rw [hV] at h
    injection h with e1 e2
    subst e1 e2
    have C := Lib.hid (fun W => whyFar x hx h1 h2 h3 W)
    clear h1 h2 h3 hV hx
    go_enter Try.func7, Try.ntmps7
    go_wp2_with fail
    refine (C.out _).mono ?_; rintro e w1 ⟨rfl, hb⟩
    go_wp2_with fail
    refine (numFar _).mono ?_; rintro e w1 ⟨rfl, rfl⟩
    go_wp2_with fail
    go_ret2
    exact ⟨rfl, hb⟩
  · rw [hV] at h
    injection h with e1 e2
    subst e1 e2
    have C := Lib.hid (fun W => whyNone x hx h1 h2 h3 W)
    have CF := Lib.hid (fun W => cFloor x h1 W)
    obtain ⟨Y, hY⟩ : ∃ Y, double.write ((double.read x).integral .down) = Y := ⟨_, rfl⟩
    rw [hY] at CF h6
    have hcv := f2i h6 (by omega) (by omega)
    clear h1 h2 h3 hV hx h5 h6 hY
    go_enter Try.func7, Try.ntmps7
    go_wp2_with fail
    refine (C.out _).mono ?_; rintro e w1 ⟨rfl, hb⟩
    go_wp2_with fail
    refine (numNone _).mono ?_; rintro e w1 ⟨rfl, rfl⟩
    go_wp2_with fail
    refine (CF.out _).mono ?_; rintro e w1 ⟨rfl, rfl⟩
    go_wp2_with fail
    go_ret2
    exact ⟨rfl, hb⟩
theorem nan_ne (r y : Nat) (h : isN r = true) : (double.order r y != some .eq) = true := by
  unfold isN at h
  cases hr : double.read r with
  | nan s f => rw [(ord_nan hr).1]; rfl
  | infinity s => rw [hr] at h; cases h
  | number s m e => rw [hr] at h; cases h
theorem fin_of {x : Nat} (h1 : isN x = false) (h2 : (double.read x).isInfinity = false) : ∃ s m e, double.read x = .number s m e := by
  unfold isN at h1
  cases h : double.read x with
  | infinity s => rw [h] at h2; cases h2
  | nan s f => rw [h] at h1; cases h1
  | number s m e => exact ⟨s, m, e, rfl⟩
set_option maxHeartbeats 3200000 in
theorem dWhole (x : Nat) (hx : x < 18446744073709551616) (N E : Int) (hV : wholeV x = (N, E)) (w : World) : Calls Try.prog 8 #[.float .f64 x] w fun e w' => e = .returned (.tuple #[.int .i64 N, .int .i64 E]) ∧ Below w.heap.size w w' := by
  have hNN : (FloatKind.f64.format.order x x != some .eq) = isN x := (isN_iff x).symm
  rcases wholeV_cases x hx with ⟨h1, h⟩ | ⟨h1, h2, h⟩ | ⟨h1, h2, h3, h⟩ | ⟨h1, h2, h3, n, h4, h, h5, h6⟩
  · rw [hV] at h
    injection h with e1 e2
    subst e1 e2
    rw [h1] at hNN
    clear h1 hV hx
    go_enter Try.func8, Try.ntmps8
    go_wp2_with fail
    go_ret2
    exact ⟨rfl, Below.refl _ _⟩
  · rw [hV] at h
    injection h with e1 e2
    subst e1 e2
    rw [h1] at hNN
    obtain ⟨s, hs⟩ : ∃ s, double.read x = .infinity s := by
      cases h : double.read x with
      | infinity s => exact ⟨s, rfl⟩
      | nan s f => rw [h] at h2; cases h2
      | number s m e => rw [h] at h2; cases h2
    obtain ⟨r, hr, hrun⟩ := sub_off w 27 x x (sub_inf hs)
    have h0 : (FloatKind.f64.format.order r 0 != some .eq) = true := nan_ne r 0 hr
    clear h1 h2 hs hr hV hx
    go_enter Try.func8, Try.ntmps8
    go_wp2_with fail
    go_ret2
    exact ⟨rfl, (Below.refl _ _).drew⟩
  · rw [hV] at h
    injection h with e1 e2
    subst e1 e2
    rw [h1] at hNN
    obtain ⟨s, m, e, hs⟩ := fin_of h1 h2
    have hrun : ∀ W, (binOp .sub 27 (.float .f64 x) (.float .f64 x)).run Try.prog W = .ok (.float .f64 0) W := fun W => run_float_arith W .sub _ .f64 x x 0 (sub_self hs)
    have h0 : (FloatKind.f64.format.order 0 0 != some .eq) = false := by decide +kernel
    obtain ⟨B1, hB1⟩ : ∃ B, (FloatKind.f64.format.order x 0 == some .lt) = B := ⟨_, rfl⟩
    obtain ⟨B2, hB2⟩ : ∃ B, (FloatKind.f64.format.order x 4751297606875873280 == some .gt || FloatKind.f64.format.order x 4751297606875873280 == some .eq) = B := ⟨_, rfl⟩
    have hf : (B1 || B2) = true := by rw [← h3, ← hB1, ← hB2]; rfl
    clear h1 h2 h3 hs hV hx
    cases B1 with
    | true =>
      go_enter Try.func8, Try.ntmps8
      go_wp2_with fail
      go_ret2
      exact ⟨rfl, Below.refl _ _⟩
    | false =>
      rw [Bool.false_or] at hf
      subst hf
      go_enter Try.func8, Try.ntmps8
      go_wp2_with fail
      go_ret2
      exact ⟨rfl, Below.refl _ _⟩
  · rw [hV] at h
    injection h with e1 e2
    subst e1 e2
    rw [h1] at hNN
    obtain ⟨s, m, e, hs⟩ := fin_of h1 h2
    have hrun : ∀ W, (binOp .sub 27 (.float .f64 x) (.float .f64 x)).run Try.prog W = .ok (.float .f64 0) W := fun W => run_float_arith W .sub _ .f64 x x 0 (sub_self hs)
    have h0 : (FloatKind.f64.format.order 0 0 != some .eq) = false := by decide +kernel
    have hf := h3
    unfold farF at hf
    rw [Bool.or_eq_false_iff] at hf
    obtain ⟨hB1, hB2⟩ : (FloatKind.f64.format.order x 0 == some .lt) = false ∧ (FloatKind.f64.format.order x 4751297606875873280 == some .gt || FloatKind.f64.format.order x 4751297606875873280 == some .eq) = false := hf
    have hcv := f2i h5 (by omega) (by omega)
    clear h1 h2 h3 hs hV hx h5 h6
    go_enter Try.func8, Try.ntmps8
    go_wp2_with fail
    go_ret2
    exact ⟨rfl, Below.refl _ _⟩
end Go.Proofs.Ytflggmbgfdglcaa
