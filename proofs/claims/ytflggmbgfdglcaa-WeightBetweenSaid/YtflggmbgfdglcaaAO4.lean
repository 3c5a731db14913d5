/- Layer 14: the library's leaves, and why a number is none. -/
import Derived.Test.YtflggmbgfdglcaaAO3
import Derived.Test.YtflggmbgfdglcaaK2
import Derived.Laws.BitsAllLaws
import Derived.Deep.WholeRow
namespace Go.Proofs.Ytflggmbgfdglcaa
open Go.ChangeShapes Go.WideShapes Go.ChangeAt Go.RowKit
set_option linter.unusedVariables false
set_option linter.unusedSimpArgs false
set_option maxRecDepth 100000
open Ieee
theorem nanq_isN (t : Nat) : isN ((t % 2) * 2 ^ 63 + 0x7ff0000000000000 + 1 + (t / 2) % (2 ^ 52 - 1)) = true := by
  have e : (t % 2) * 2 ^ 63 + 0x7ff0000000000000 + 1 + (t / 2) % (2 ^ 52 - 1) = double.word (decide (t % 2 = 1)) (9218868437227405313 + (t / 2) % 4503599627370495) := by
    unfold Format.word
    rw [dbl_sw]
    by_cases h : t % 2 = 1
    · rw [decide_eq_true h, if_pos rfl, h]; simp; omega
    · rw [decide_eq_false h, if_neg (by decide), show t % 2 = 0 by omega]; (try simp); (try omega)
  rw [e]
  unfold isN
  rw [read_word _ _ (by omega), if_neg (by omega), if_neg (by omega), if_neg (by omega)]
  rfl
theorem sub_off (w : World) (t : Nat) (x y : Nat) (h : double.sub x y = none) : ∃ r, isN r = true ∧ (binOp .sub t (.float .f64 x) (.float .f64 y)).run Try.prog w = .ok (.float .f64 r) w.drew := by
  refine ⟨_, nanq_isN (w.tape w.drawn (.nanBits .f64 x y)), ?_⟩
  have h2 : FloatKind.f64.format.sub x y = none := h
  simp [binOp, Op.floatArith, h2, Question.forced, Question.cut]
theorem quo_off (w : World) (t : Nat) (x y : Nat) (h : double.div x y = none) : ∃ r, isN r = true ∧ (binOp .quo t (.float .f64 x) (.float .f64 y)).run Try.prog w = .ok (.float .f64 r) w.drew := by
  refine ⟨_, nanq_isN (w.tape w.drawn (.nanBits .f64 x y)), ?_⟩
  have h2 : FloatKind.f64.format.div x y = none := h
  simp [binOp, Op.floatArith, h2, Question.forced, Question.cut]
set_option maxHeartbeats 1600000 in
theorem cIsNaN (x : Nat) (w : World) : Calls Try.prog 21 #[.float .f64 x] w fun e w' => e = .returned (.bool (isN x)) ∧ w' = w := by
  have h : (FloatKind.f64.format.order x x != some .eq) = isN x := (isN_iff x).symm
  go_enter Try.func21, Try.ntmps21
  go_wp2
  go_ret
  exact ⟨rfl, rfl⟩
theorem and_not_abs (x : Nat) (hx : x < 18446744073709551616) : bits .andNot .u64 (x : Int) 9223372036854775808 = ((absF x : Nat) : Int) := by
  have h := u64_andNot_nat x 9223372036854775808 hx (by decide)
  refine h.trans ?_
  unfold absF
  rw [show (18446744073709551615 - 9223372036854775808 : Nat) = 2 ^ 63 - 1 by decide, Nat.and_two_pow_sub_one_eq_mod]
set_option maxHeartbeats 1600000 in
theorem cAbs (x : Nat) (hx : x < 18446744073709551616) (w : World) : Calls Try.prog 28 #[.float .f64 x] w fun e w' => e = .returned (.float .f64 (absF x)) ∧ w' = w := by
  have hb := and_not_abs x hx
  go_enter Try.func28, Try.ntmps28
  go_wp2_with fail
  rw [run_callFunc_extern Try.func32 (by kernel_rfl) (by kernel_rfl) (by kernel_rfl) (e := Extern.MathFloatBits.float64bits) (by kernel_rfl), show ∀ W, (Extern.MathFloatBits.float64bits #[.float .f64 x]).run Try.prog W = .ok (.int .u64 (x : Int)) W from fun W => rfl]
  simp only [Result.andThen]
  rw [Oper.upon_value]
  go_wp2_with fail
  rw [run_callFunc_extern Try.func31 (by kernel_rfl) (by kernel_rfl) (by kernel_rfl) (e := Extern.MathFloatBits.float64frombits) (by kernel_rfl), show ∀ W, (Extern.MathFloatBits.float64frombits #[.int .u64 ((absF x : Nat) : Int)]).run Try.prog W = .ok (.float .f64 (absF x)) W from fun W => rfl]
  simp only [Result.andThen]
  rw [Oper.upon_value]
  go_wp2_with fail
  go_ret
  exact ⟨rfl, rfl⟩
set_option maxHeartbeats 1600000 in
theorem cIsInf (x : Nat) (hx : x < 18446744073709551616) (hn : isN x = false) (w : World) : Calls Try.prog 26 #[.float .f64 x, .int .i64 0] w fun e w' => e = .returned (.bool (double.read x).isInfinity) ∧ w' = w := by
  have h : (FloatKind.f64.format.order (absF x) 9218868437227405311 == some .gt) = (double.read x).isInfinity := inf_iff hx hn
  go_enter Try.func26, Try.ntmps26
  go_wp2_with fail
  refine (cAbs x hx _).mono ?_; rintro e w1 ⟨rfl, rfl⟩
  go_wp2_with fail
  go_ret
  exact ⟨rfl, rfl⟩
set_option maxHeartbeats 1600000 in
theorem cNotNumber (x : Nat) (w : World) : Calls Try.prog 50 #[.agg #[], .float .f64 x] w fun e w' => e = .returned (.bool (isN x)) ∧ Below w.heap.size w w' := by
  go_enter Try.func50, Try.ntmps50
  go_wp2_with fail
  refine (cIsNaN x _).mono ?_; rintro e w1 ⟨rfl, rfl⟩
  go_wp2_with fail
  go_ret
  exact ⟨rfl, (Below.refl _ _).alloc (Nat.le_refl _) _⟩
set_option maxHeartbeats 1600000 in
theorem cNotFinite (x : Nat) (hx : x < 18446744073709551616) (hn : isN x = false) (w : World) : Calls Try.prog 51 #[.agg #[], .float .f64 x] w fun e w' => e = .returned (.bool (double.read x).isInfinity) ∧ Below w.heap.size w w' := by
  go_enter Try.func51, Try.ntmps51
  go_wp2_with fail
  refine (cIsInf x hx hn _).mono ?_; rintro e w1 ⟨rfl, rfl⟩
  go_wp2_with fail
  go_ret
  exact ⟨rfl, (Below.refl _ _).alloc (Nat.le_refl _) _⟩
def farF (x : Nat) : Bool := (double.order x 0 == some .lt) || (double.order x 4751297606875873280 == some .gt || double.order x 4751297606875873280 == some .eq)
set_option maxHeartbeats 1600000 in
theorem cTooFar (x : Nat) (w : World) : Calls Try.prog 52 #[.agg #[], .float .f64 x] w fun e w' => e = .returned (.bool (farF x)) ∧ Below w.heap.size w w' := by
  obtain ⟨B1, h1⟩ : ∃ B, (FloatKind.f64.format.order x 0 == some .lt) = B := ⟨_, rfl⟩
  obtain ⟨B2, h2⟩ : ∃ B, (FloatKind.f64.format.order x 4751297606875873280 == some .gt || FloatKind.f64.format.order x 4751297606875873280 == some .eq) = B := ⟨_, rfl⟩
  have hf : farF x = (B1 || B2) := by rw [← h1, ← h2]; rfl
  rw [hf]
  clear hf
  cases B1 with
  | true =>
    go_enter Try.func52, Try.ntmps52
    go_wp2_with fail
    go_ret
    exact ⟨rfl, (Below.refl _ _).alloc (Nat.le_refl _) _⟩
  | false =>
    go_enter Try.func52, Try.ntmps52
    go_wp2_with fail
    go_ret
    exact ⟨by simp, (Below.refl _ _).alloc (Nat.le_refl _) _⟩
set_option maxHeartbeats 3200000 in
theorem whyNaN (x : Nat) (h1 : isN x = true) (w : World) : Calls Try.prog 19 #[.float .f64 x] w fun e w' => e = .returned (.iface 51 (.agg #[])) ∧ Below w.heap.size w w' := by
  have C1 := Lib.hid (fun W => cNotNumber x W)
  rw [h1] at C1
  clear h1
  go_enter Try.func19, Try.ntmps19
  go_wp2_with fail
  have hg0 := heap_alloc_new w (.cells #[.iface 51 (.agg #[]), .iface 52 (.agg #[]), .iface 53 (.agg #[])] 45)
  have HB0 := Lib.hid ((Below.refl w.heap.size w).alloc (Nat.le_refl _) (.cells #[.iface 51 (.agg #[]), .iface 52 (.agg #[]), .iface 53 (.agg #[])] 45))
  obtain ⟨w0, hw0⟩ : ∃ w0, w.alloc (.cells #[.iface 51 (.agg #[]), .iface 52 (.agg #[]), .iface 53 (.agg #[])] 45) = w0 := ⟨_, rfl⟩
  rw [hw0] at hg0 HB0 ⊢
  obtain ⟨g, hg⟩ : ∃ g, w.heap.size = g := ⟨_, rfl⟩
  have HG := Lib.hid hg
  rw [hg] at hg0 HB0 ⊢
  clear hw0 hg
  have HGL := Lib.hid hg0
  have k0 := cell_lit HGL.out 0 (.iface 51 (.agg #[])) rfl
  have k1 := cell_lit HGL.out 1 (.iface 52 (.agg #[])) rfl
  have k2 := cell_lit HGL.out 2 (.iface 53 (.agg #[])) rfl
  refine wp_loop_rounds 4 ?_
  rw [rounds_succ]
  go_wp2_with fail
  refine (C1.out _).mono ?_; rintro e w1 ⟨rfl, hb⟩
  have HB1 := Lib.hid (HB0.out.trans (hb.mono (show g ≤ w0.heap.size from Nat.le_trans (Nat.le_of_eq HG.out.symm) HB0.out.size)))
  have HGL := Lib.hid ((hb.block g (block_lt HGL.out)).trans HGL.out)
  clear hb
  clear k0 k1 k2
  have k0 := cell_lit HGL.out 0 (.iface 51 (.agg #[])) rfl
  have k1 := cell_lit HGL.out 1 (.iface 52 (.agg #[])) rfl
  have k2 := cell_lit HGL.out 2 (.iface 53 (.agg #[])) rfl
  go_wp2_with fail
  go_ret
  exact ⟨rfl, by rw [HG.out]; exact HB1.out⟩
set_option maxHeartbeats 3200000 in
theorem whyInf (x : Nat) (hx : x < 18446744073709551616) (h1 : isN x = false) (h2 : (double.read x).isInfinity = true) (w : World) : Calls Try.prog 19 #[.float .f64 x] w fun e w' => e = .returned (.iface 52 (.agg #[])) ∧ Below w.heap.size w w' := by
  have C1 := Lib.hid (fun W => cNotNumber x W)
  rw [h1] at C1
  have C2 := Lib.hid (fun W => cNotFinite x hx h1 W)
  rw [h2] at C2
  clear h1 h2 hx
  go_enter Try.func19, Try.ntmps19
  go_wp2_with fail
  have hg0 := heap_alloc_new w (.cells #[.iface 51 (.agg #[]), .iface 52 (.agg #[]), .iface 53 (.agg #[])] 45)
  have HB0 := Lib.hid ((Below.refl w.heap.size w).alloc (Nat.le_refl _) (.cells #[.iface 51 (.agg #[]), .iface 52 (.agg #[]), .iface 53 (.agg #[])] 45))
  obtain ⟨w0, hw0⟩ : ∃ w0, w.alloc (.cells #[.iface 51 (.agg #[]), .iface 52 (.agg #[]), .iface 53 (.agg #[])] 45) = w0 := ⟨_, rfl⟩
  rw [hw0] at hg0 HB0 ⊢
  obtain ⟨g, hg⟩ : ∃ g, w.heap.size = g := ⟨_, rfl⟩
  have HG := Lib.hid hg
  rw [hg] at hg0 HB0 ⊢
  clear hw0 hg
  have HGL := Lib.hid hg0
  have k0 := cell_lit HGL.out 0 (.iface 51 (.agg #[])) rfl
  have k1 := cell_lit HGL.out 1 (.iface 52 (.agg #[])) rfl
  have k2 := cell_lit HGL.out 2 (.iface 53 (.agg #[])) rfl
  refine wp_loop_rounds 4 ?_
  rw [rounds_succ]
  go_wp2_with fail
  refine (C1.out _).mono ?_; rintro e w1 ⟨rfl, hb⟩
  have HB1 := Lib.hid (HB0.out.trans (hb.mono (show g ≤ w0.heap.size from Nat.le_trans (Nat.le_of_eq HG.out.symm) HB0.out.size)))
  have HGL := Lib.hid ((hb.block g (block_lt HGL.out)).trans HGL.out)
  clear hb
  clear k0 k1 k2
  have k0 := cell_lit HGL.out 0 (.iface 51 (.agg #[])) rfl
  have k1 := cell_lit HGL.out 1 (.iface 52 (.agg #[])) rfl
  have k2 := cell_lit HGL.out 2 (.iface 53 (.agg #[])) rfl
  go_wp2_with fail
  rw [rounds_succ]
  go_wp2_with fail
  refine (C2.out _).mono ?_; rintro e w2 ⟨rfl, hb⟩
  have HB2 := Lib.hid (HB1.out.trans (hb.mono (show g ≤ w1.heap.size from Nat.le_trans (Nat.le_of_eq HG.out.symm) HB1.out.size)))
  have HGL := Lib.hid ((hb.block g (block_lt HGL.out)).trans HGL.out)
  clear hb
  clear k0 k1 k2
  have k0 := cell_lit HGL.out 0 (.iface 51 (.agg #[])) rfl
  have k1 := cell_lit HGL.out 1 (.iface 52 (.agg #[])) rfl
  have k2 := cell_lit HGL.out 2 (.iface 53 (.agg #[])) rfl
  go_wp2_with fail
  go_ret
  exact ⟨rfl, by rw [HG.out]; exact HB2.out⟩
set_option maxHeartbeats 3200000 in
theorem whyFar (x : Nat) (hx : x < 18446744073709551616) (h1 : isN x = false) (h2 : (double.read x).isInfinity = false) (h3 : farF x = true) (w : World) : Calls Try.prog 19 #[.float .f64 x] w fun e w' => e = .returned (.iface 53 (.agg #[])) ∧ Below w.heap.size w w' := by
  have C1 := Lib.hid (fun W => cNotNumber x W)
  rw [h1] at C1
  have C2 := Lib.hid (fun W => cNotFinite x hx h1 W)
  rw [h2] at C2
  have C3 := Lib.hid (fun W => cTooFar x W)
  rw [h3] at C3
  clear h1 h2 h3 hx
  go_enter Try.func19, Try.ntmps19
  go_wp2_with fail
  have hg0 := heap_alloc_new w (.cells #[.iface 51 (.agg #[]), .iface 52 (.agg #[]), .iface 53 (.agg #[])] 45)
  have HB0 := Lib.hid ((Below.refl w.heap.size w).alloc (Nat.le_refl _) (.cells #[.iface 51 (.agg #[]), .iface 52 (.agg #[]), .iface 53 (.agg #[])] 45))
  obtain ⟨w0, hw0⟩ : ∃ w0, w.alloc (.cells #[.iface 51 (.agg #[]), .iface 52 (.agg #[]), .iface 53 (.agg #[])] 45) = w0 := ⟨_, rfl⟩
  rw [hw0] at hg0 HB0 ⊢
  obtain ⟨g, hg⟩ : ∃ g, w.heap.size = g := ⟨_, rfl⟩
  have HG := Lib.hid hg
  rw [hg] at hg0 HB0 ⊢
  clear hw0 hg
  have HGL := Lib.hid hg0
  have k0 := cell_lit HGL.out 0 (.iface 51 (.agg #[])) rfl
  have k1 := cell_lit HGL.out 1 (.iface 52 (.agg #[])) rfl
  have k2 := cell_lit HGL.out 2 (.iface 53 (.agg #[])) rfl
  refine wp_loop_rounds 4 ?_
  rw [rounds_succ]
  go_wp2_with fail
  refine (C1.out _).mono ?_; rintro e w1 ⟨rfl, hb⟩
  have HB1 := Lib.hid (HB0.out.trans (hb.mono (show g ≤ w0.heap.size from Nat.le_trans (Nat.le_of_eq HG.out.symm) HB0.out.size)))
  have HGL := Lib.hid ((hb.block g (block_lt HGL.out)).trans HGL.out)
  clear hb
  clear k0 k1 k2
  have k0 := cell_lit HGL.out 0 (.iface 51 (.agg #[])) rfl
  have k1 := cell_lit HGL.out 1 (.iface 52 (.agg #[])) rfl
  have k2 := cell_lit HGL.out 2 (.iface 53 (.agg #[])) rfl
  go_wp2_with fail
  rw [rounds_succ]
  go_wp2_with fail
  refine (C2.out _).mono ?_; rintro e w2 ⟨rfl, hb⟩
  have HB2 := Lib.hid (HB1.out.trans (hb.mono (show g ≤ w1.heap.size from Nat.le_trans (Nat.le_of_eq HG.out.symm) HB1.out.size)))
  have HGL := Lib.hid ((hb.block g (block_lt HGL.out)).trans HGL.out)
  clear hb
  clear k0 k1 k2
  have k0 := cell_lit HGL.out 0 (.iface 51 (.agg #[])) rfl
  have k1 := cell_lit HGL.out 1 (.iface 52 (.agg #[])) rfl
  have k2 := cell_lit HGL.out 2 (.iface 53 (.agg #[])) rfl
  go_wp2_with fail
  rw [rounds_succ]
  go_wp2_with fail
  refine (C3.out _).mono ?_; rintro e w3 ⟨rfl, hb⟩
  have HB3 := Lib.hid (HB2.out.trans (hb.mono (show g ≤ w2.heap.size from Nat.le_trans (Nat.le_of_eq HG.out.symm) HB2.out.size)))
  have HGL := Lib.hid ((hb.block g (block_lt HGL.out)).trans HGL.out)
  clear hb
  go_wp2_with fail
  go_ret
  exact ⟨rfl, by rw [HG.out]; exact HB3.out⟩
set_option maxHeartbeats 3200000 in
theorem whyNone (x : Nat) (hx : x < 18446744073709551616) (h1 : isN x = false) (h2 : (double.read x).isInfinity = false) (h3 : farF x = false) (w : World) : Calls Try.prog 19 #[.float .f64 x] w fun e w' => e = .returned .nilIface ∧ Below w.heap.size w w' := by
  have C1 := Lib.hid (fun W => cNotNumber x W)
  rw [h1] at C1
  have C2 := Lib.hid (fun W => cNotFinite x hx h1 W)
  rw [h2] at C2
  have C3 := Lib.hid (fun W => cTooFar x W)
  rw [h3] at C3
  clear h1 h2 h3 hx
  go_enter Try.func19, Try.ntmps19
  go_wp2_with fail
  have hg0 := heap_alloc_new w (.cells #[.iface 51 (.agg #[]), .iface 52 (.agg #[]), .iface 53 (.agg #[])] 45)
  have HB0 := Lib.hid ((Below.refl w.heap.size w).alloc (Nat.le_refl _) (.cells #[.iface 51 (.agg #[]), .iface 52 (.agg #[]), .iface 53 (.agg #[])] 45))
  obtain ⟨w0, hw0⟩ : ∃ w0, w.alloc (.cells #[.iface 51 (.agg #[]), .iface 52 (.agg #[]), .iface 53 (.agg #[])] 45) = w0 := ⟨_, rfl⟩
  rw [hw0] at hg0 HB0 ⊢
  obtain ⟨g, hg⟩ : ∃ g, w.heap.size = g := ⟨_, rfl⟩
  have HG := Lib.hid hg
  rw [hg] at hg0 HB0 ⊢
  clear hw0 hg
  have HGL := Lib.hid hg0
  have k0 := cell_lit HGL.out 0 (.iface 51 (.agg #[])) rfl
  have k1 := cell_lit HGL.out 1 (.iface 52 (.agg #[])) rfl
  have k2 := cell_lit HGL.out 2 (.iface 53 (.agg #[])) rfl
  refine wp_loop_rounds 4 ?_
  rw [rounds_succ]
  go_wp2_with fail
  refine (C1.out _).mono ?_; rintro e w1 ⟨rfl, hb⟩
  have HB1 := Lib.hid (HB0.out.trans (hb.mono (show g ≤ w0.heap.size from Nat.le_trans (Nat.le_of_eq HG.out.symm) HB0.out.size)))
  have HGL := Lib.hid ((hb.block g (block_lt HGL.out)).trans HGL.out)
  clear hb
  clear k0 k1 k2
  have k0 := cell_lit HGL.out 0 (.iface 51 (.agg #[])) rfl
  have k1 := cell_lit HGL.out 1 (.iface 52 (.agg #[])) rfl
  have k2 := cell_lit HGL.out 2 (.iface 53 (.agg #[])) rfl
  go_wp2_with fail
  rw [rounds_succ]
  go_wp2_with fail
  refine (C2.out _).mono ?_; rintro e w2 ⟨rfl, hb⟩
  have HB2 := Lib.hid (HB1.out.trans (hb.mono (show g ≤ w1.heap.size from Nat.le_trans (Nat.le_of_eq HG.out.symm) HB1.out.size)))
  have HGL := Lib.hid ((hb.block g (block_lt HGL.out)).trans HGL.out)
  clear hb
  clear k0 k1 k2
  have k0 := cell_lit HGL.out 0 (.iface 51 (.agg #[])) rfl
  have k1 := cell_lit HGL.out 1 (.iface 52 (.agg #[])) rfl
  have k2 := cell_lit HGL.out 2 (.iface 53 (.agg #[])) rfl
  go_wp2_with fail
  rw [rounds_succ]
  go_wp2_with fail
  refine (C3.out _).mono ?_; rintro e w3 ⟨rfl, hb⟩
  have HB3 := Lib.hid (HB2.out.trans (hb.mono (show g ≤ w2.heap.size from Nat.le_trans (Nat.le_of_eq HG.out.symm) HB2.out.size)))
  have HGL := Lib.hid ((hb.block g (block_lt HGL.out)).trans HGL.out)
  clear hb
  go_wp2_with fail
  rw [rounds_succ]
  go_wp2_with fail
  go_ret
  exact ⟨rfl, by rw [HG.out]; exact HB3.out⟩
end Go.Proofs.Ytflggmbgfdglcaa
