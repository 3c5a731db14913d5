/- It is proved that the law 'IlogRises' of the program returns true for every input, with no condition, and leaves what was handed in as it was. The frame was written by a program; the walk is by hand. -/
import Derived.Test.YtfemcehglolnjaaRows
import Derived.WalkKit
import Derived.ProofKit
import Derived.OpenShut
import Derived.ShutString
import Derived.ChangeOld
import Derived.Below
import Derived.Test.YtfemcehglolnjaaBase
import Derived.Test.YtfemcehglolnjaaIm
namespace Go.Proofs.Ytfemcehglolnjaa.ilogRises
open Go.ChangeShapes Go.WideShapes Go.ChangeAt Go.RowKit Go.Deep
open Go.ChangeMaps (open_string shut_string)
set_option linter.unusedVariables false
set_option maxRecDepth 100000

theorem own : ownKnob Try.prog.godebug = none := by kernel_rfl
theorem laidOut : laidOutB Try.prog = true := by kernel_rfl

/-- One state of the reckoning lies no higher than another one. -/
def LeL (p q : Nat × Nat) : Prop := p.1 < q.1 ∨ (p.1 = q.1 ∧ p.2 ≤ q.2)
theorem stepL_mono (p q : Nat × Nat) (h : LeL p q) : LeL (stepL p) (stepL q) := by
  rcases h with h | ⟨h, h2⟩
  · left; unfold stepL; split <;> split <;> simp only <;> omega
  · have hm : p.2 * p.2 ≤ q.2 * q.2 := Nat.mul_le_mul h2 h2
    have hq : p.2 * p.2 / 2147483648 ≤ q.2 * q.2 / 2147483648 := Nat.div_le_div_right hm
    unfold stepL LeL
    split <;> split <;> simp only <;> omega
theorem lg_mono (n m : Nat) (h0 : 1 ≤ n) (h : n ≤ m) (h1 : m ≤ 4294967295) : lg n ≤ lg m := by
  obtain ⟨k, hk, hk1, hlo, hhi⟩ := bitLen_facts n h0 (by omega)
  obtain ⟨l, hl, hl1, hlo', hhi'⟩ := bitLen_facts m (by omega) h1
  have hs : LeL (k, n * 2 ^ (31 - k)) (l, m * 2 ^ (31 - l)) := by
    have hkl : k ≤ l := by
      rcases Nat.lt_or_ge l k with hc | hc
      · have : 2 ^ (l + 1) ≤ 2 ^ k := Nat.pow_le_pow_right (by decide) hc
        omega
      · exact hc
    rcases Nat.lt_or_eq_of_le hkl with hc | hc
    · exact .inl hc
    · subst hc; exact .inr ⟨rfl, Nat.mul_le_mul_right _ h⟩
  have h4 := stepL_mono _ _ (stepL_mono _ _ (stepL_mono _ _ (stepL_mono _ _ hs)))
  have e1 : lg n = (stepL (stepL (stepL (stepL (k, n * 2 ^ (31 - k)))))).1 := by unfold lg; rw [hk]; rfl
  have e2 : lg m = (stepL (stepL (stepL (stepL (l, m * 2 ^ (31 - l)))))).1 := by unfold lg; rw [hl]; rfl
  rw [e1, e2]
  rcases h4 with h4 | h4 <;> omega
theorem stepL_add (o x d : Nat) : stepL (o + d, x) = ((stepL (o, x)).1 + 2 * d, (stepL (o, x)).2) := by
  unfold stepL; split
  · simp only [Prod.mk.injEq, and_true]; omega
  · simp only [Prod.mk.injEq, and_true]; omega
theorem lg_twice (n : Nat) (h0 : 1 ≤ n) (h : n < 2147483648) : lg (2 * n) = lg n + 16 := by
  obtain ⟨k, hk, hk1, hlo, hhi⟩ := bitLen_facts n h0 (by omega)
  have hk2 : k ≤ 30 := by
    rcases Nat.lt_or_ge 30 k with hc | hc
    · have : 2 ^ 31 ≤ 2 ^ k := Nat.pow_le_pow_right (by decide) hc
      omega
    · exact hc
  have hb : Lib.bitLen (2 * n) = k + 1 + 1 := by
    rw [Lib.bitLen_half (2 * n) (by omega) (by omega), show 2 * n / 2 = n by omega, hk]; omega
  have hx : 2 * n * 2 ^ (31 - (k + 1)) = n * 2 ^ (31 - k) := by
    rw [show 31 - k = 31 - (k + 1) + 1 by omega, Nat.pow_succ, Nat.mul_comm 2 n, Nat.mul_assoc, Nat.mul_comm 2]
  have e1 : lg n = (stepL (stepL (stepL (stepL (k, n * 2 ^ (31 - k)))))).1 := by unfold lg; rw [hk]; rfl
  have e2 : lg (2 * n) = (stepL (stepL (stepL (stepL (k + 1, n * 2 ^ (31 - k)))))).1 := by unfold lg; rw [hb, show k + 1 + 1 - 1 = k + 1 by omega, hx]; rfl
  have s (p : Nat × Nat) (d : Nat) : stepL (p.1 + d, p.2) = ((stepL p).1 + 2 * d, (stepL p).2) := stepL_add p.1 p.2 d
  rw [e2, e1, stepL_add, s, s, s]
set_option maxHeartbeats 1600000 in
theorem w_lt_s (n m : Int) (h0 : 1 ≤ n) (hnm : n < m) (h1 : m ≤ 4294967295) (hb : n < 2147483648) (X Y : Int) (hx0 : 0 ≤ X) (hm : X ≤ Y) (hl2 : Y ≤ 511) (C1 : Hid (∀ w, Calls Try.prog 41 #[.int .i64 n] w fun e w' => e = .returned (.tuple #[.int .i64 X, .int .i64 0]) ∧ w = w')) (C2 : Hid (∀ w, Calls Try.prog 41 #[.int .i64 m] w fun e w' => e = .returned (.tuple #[.int .i64 Y, .int .i64 0]) ∧ w = w'))
    (C3 : Hid (∀ w, Calls Try.prog 41 #[.int .i64 (2 * n)] w fun e w' => e = .returned (.tuple #[.int .i64 (X + 16), .int .i64 0]) ∧ w = w')) (w : World) :
    Calls Try.prog 14 #[.int .u32 n, .int .u32 m] w fun e w' => e = .returned (.bool true) ∧ Below w.heap.size w w' := by
  have z0 : (n == 0) = false := by rw [beq_eq_false_iff_ne]; omega
  have z1 : (m == 0) = false := by rw [beq_eq_false_iff_ne]; omega
  have hmin : min n m = n := by omega
  have hmax : max n m = m := by omega
  go_enter Try.func14, Try.ntmps14
  go_wp2_with fail
  clear hmin hmax
  refine (C1.out _).mono ?_; rintro e w' ⟨rfl, rfl⟩
  go_wp2_with fail
  refine (C2.out _).mono ?_; rintro e w' ⟨rfl, rfl⟩
  go_wp2_with fail
  refine (C3.out _).mono ?_; rintro e w' ⟨rfl, rfl⟩
  go_wp2_with fail
  refine (awake52 _).mono ?_; rintro e w3 ⟨rfl, hb3⟩
  go_wp2_with fail
  go_ret
  exact ⟨rfl, hb3⟩
set_option maxHeartbeats 1600000 in
theorem w_lt_g (n m : Int) (h0 : 1 ≤ n) (hnm : n < m) (h1 : m ≤ 4294967295) (hb : 2147483648 ≤ n) (X Y : Int) (hx0 : 0 ≤ X) (hm : X ≤ Y) (hl2 : Y ≤ 511) (C1 : Hid (∀ w, Calls Try.prog 41 #[.int .i64 n] w fun e w' => e = .returned (.tuple #[.int .i64 X, .int .i64 0]) ∧ w = w')) (C2 : Hid (∀ w, Calls Try.prog 41 #[.int .i64 m] w fun e w' => e = .returned (.tuple #[.int .i64 Y, .int .i64 0]) ∧ w = w')) (w : World) :
    Calls Try.prog 14 #[.int .u32 n, .int .u32 m] w fun e w' => e = .returned (.bool true) ∧ Below w.heap.size w w' := by
  have z0 : (n == 0) = false := by rw [beq_eq_false_iff_ne]; omega
  have z1 : (m == 0) = false := by rw [beq_eq_false_iff_ne]; omega
  have hmin : min n m = n := by omega
  have hmax : max n m = m := by omega
  go_enter Try.func14, Try.ntmps14
  go_wp2_with fail
  clear hmin hmax
  refine (C1.out _).mono ?_; rintro e w' ⟨rfl, rfl⟩
  go_wp2_with fail
  refine (C2.out _).mono ?_; rintro e w' ⟨rfl, rfl⟩
  go_wp2_with fail
  refine (awake52 _).mono ?_; rintro e w3 ⟨rfl, hb3⟩
  go_wp2_with fail
  go_ret
  exact ⟨rfl, hb3⟩
set_option maxHeartbeats 1600000 in
theorem w_gt_s (n m : Int) (h0 : 1 ≤ n) (hnm : n < m) (h1 : m ≤ 4294967295) (hb : n < 2147483648) (X Y : Int) (hx0 : 0 ≤ X) (hm : X ≤ Y) (hl2 : Y ≤ 511) (C1 : Hid (∀ w, Calls Try.prog 41 #[.int .i64 n] w fun e w' => e = .returned (.tuple #[.int .i64 X, .int .i64 0]) ∧ w = w')) (C2 : Hid (∀ w, Calls Try.prog 41 #[.int .i64 m] w fun e w' => e = .returned (.tuple #[.int .i64 Y, .int .i64 0]) ∧ w = w'))
    (C3 : Hid (∀ w, Calls Try.prog 41 #[.int .i64 (2 * n)] w fun e w' => e = .returned (.tuple #[.int .i64 (X + 16), .int .i64 0]) ∧ w = w')) (w : World) :
    Calls Try.prog 14 #[.int .u32 m, .int .u32 n] w fun e w' => e = .returned (.bool true) ∧ Below w.heap.size w w' := by
  have z0 : (m == 0) = false := by rw [beq_eq_false_iff_ne]; omega
  have z1 : (n == 0) = false := by rw [beq_eq_false_iff_ne]; omega
  have hmin : min m n = n := by omega
  have hmax : max m n = m := by omega
  go_enter Try.func14, Try.ntmps14
  go_wp2_with fail
  clear hmin hmax
  refine (C1.out _).mono ?_; rintro e w' ⟨rfl, rfl⟩
  go_wp2_with fail
  refine (C2.out _).mono ?_; rintro e w' ⟨rfl, rfl⟩
  go_wp2_with fail
  refine (C3.out _).mono ?_; rintro e w' ⟨rfl, rfl⟩
  go_wp2_with fail
  refine (awake52 _).mono ?_; rintro e w3 ⟨rfl, hb3⟩
  go_wp2_with fail
  go_ret
  exact ⟨rfl, hb3⟩
set_option maxHeartbeats 1600000 in
theorem w_gt_g (n m : Int) (h0 : 1 ≤ n) (hnm : n < m) (h1 : m ≤ 4294967295) (hb : 2147483648 ≤ n) (X Y : Int) (hx0 : 0 ≤ X) (hm : X ≤ Y) (hl2 : Y ≤ 511) (C1 : Hid (∀ w, Calls Try.prog 41 #[.int .i64 n] w fun e w' => e = .returned (.tuple #[.int .i64 X, .int .i64 0]) ∧ w = w')) (C2 : Hid (∀ w, Calls Try.prog 41 #[.int .i64 m] w fun e w' => e = .returned (.tuple #[.int .i64 Y, .int .i64 0]) ∧ w = w')) (w : World) :
    Calls Try.prog 14 #[.int .u32 m, .int .u32 n] w fun e w' => e = .returned (.bool true) ∧ Below w.heap.size w w' := by
  have z0 : (m == 0) = false := by rw [beq_eq_false_iff_ne]; omega
  have z1 : (n == 0) = false := by rw [beq_eq_false_iff_ne]; omega
  have hmin : min m n = n := by omega
  have hmax : max m n = m := by omega
  go_enter Try.func14, Try.ntmps14
  go_wp2_with fail
  clear hmin hmax
  refine (C1.out _).mono ?_; rintro e w' ⟨rfl, rfl⟩
  go_wp2_with fail
  refine (C2.out _).mono ?_; rintro e w' ⟨rfl, rfl⟩
  go_wp2_with fail
  refine (awake52 _).mono ?_; rintro e w3 ⟨rfl, hb3⟩
  go_wp2_with fail
  go_ret
  exact ⟨rfl, hb3⟩
set_option maxHeartbeats 1600000 in
theorem w_eq_s (n : Int) (h0 : 1 ≤ n) (h1 : n ≤ 4294967295) (hb : n < 2147483648) (X : Int) (hx0 : 0 ≤ X) (hl2 : X ≤ 511) (C1 : Hid (∀ w, Calls Try.prog 41 #[.int .i64 n] w fun e w' => e = .returned (.tuple #[.int .i64 X, .int .i64 0]) ∧ w = w')) (C2 : Hid (∀ w, Calls Try.prog 41 #[.int .i64 n] w fun e w' => e = .returned (.tuple #[.int .i64 X, .int .i64 0]) ∧ w = w'))
    (C3 : Hid (∀ w, Calls Try.prog 41 #[.int .i64 (2 * n)] w fun e w' => e = .returned (.tuple #[.int .i64 (X + 16), .int .i64 0]) ∧ w = w')) (w : World) :
    Calls Try.prog 14 #[.int .u32 n, .int .u32 n] w fun e w' => e = .returned (.bool true) ∧ Below w.heap.size w w' := by
  have z0 : (n == 0) = false := by rw [beq_eq_false_iff_ne]; omega
  have z1 : (n == 0) = false := by rw [beq_eq_false_iff_ne]; omega
  have hmin : min n n = n := by omega
  have hmax : max n n = n := by omega
  go_enter Try.func14, Try.ntmps14
  go_wp2_with fail
  clear hmin hmax
  refine (C1.out _).mono ?_; rintro e w' ⟨rfl, rfl⟩
  go_wp2_with fail
  refine (C2.out _).mono ?_; rintro e w' ⟨rfl, rfl⟩
  go_wp2_with fail
  refine (C3.out _).mono ?_; rintro e w' ⟨rfl, rfl⟩
  go_wp2_with fail
  refine (awake52 _).mono ?_; rintro e w3 ⟨rfl, hb3⟩
  go_wp2_with fail
  go_ret
  exact ⟨rfl, hb3⟩
set_option maxHeartbeats 1600000 in
theorem w_eq_g (n : Int) (h0 : 1 ≤ n) (h1 : n ≤ 4294967295) (hb : 2147483648 ≤ n) (X : Int) (hx0 : 0 ≤ X) (hl2 : X ≤ 511) (C1 : Hid (∀ w, Calls Try.prog 41 #[.int .i64 n] w fun e w' => e = .returned (.tuple #[.int .i64 X, .int .i64 0]) ∧ w = w')) (C2 : Hid (∀ w, Calls Try.prog 41 #[.int .i64 n] w fun e w' => e = .returned (.tuple #[.int .i64 X, .int .i64 0]) ∧ w = w')) (w : World) :
    Calls Try.prog 14 #[.int .u32 n, .int .u32 n] w fun e w' => e = .returned (.bool true) ∧ Below w.heap.size w w' := by
  have z0 : (n == 0) = false := by rw [beq_eq_false_iff_ne]; omega
  have z1 : (n == 0) = false := by rw [beq_eq_false_iff_ne]; omega
  have hmin : min n n = n := by omega
  have hmax : max n n = n := by omega
  go_enter Try.func14, Try.ntmps14
  go_wp2_with fail
  clear hmin hmax
  refine (C1.out _).mono ?_; rintro e w' ⟨rfl, rfl⟩
  go_wp2_with fail
  refine (C2.out _).mono ?_; rintro e w' ⟨rfl, rfl⟩
  go_wp2_with fail
  refine (awake52 _).mono ?_; rintro e w3 ⟨rfl, hb3⟩
  go_wp2_with fail
  go_ret
  exact ⟨rfl, hb3⟩
theorem three (n : Nat) (h0 : 1 ≤ n) (h : n ≤ 4294967295) : Hid (∀ w, Calls Try.prog 41 #[.int .i64 n] w fun e w' => e = .returned (.tuple #[.int .i64 (lg n : Nat), .int .i64 0]) ∧ w = w') ∧
    (n < 2147483648 → Hid (∀ w, Calls Try.prog 41 #[.int .i64 (2 * (n : Int))] w fun e w' => e = .returned (.tuple #[.int .i64 ((lg n : Nat) + 16 : Int), .int .i64 0]) ∧ w = w')) := by
  refine ⟨Lib.hid (fun w => Log_in n h0 h w), fun hb => Lib.hid (fun w => ?_)⟩
  have := Log_in (2 * n) (by omega) (by omega) w
  rw [lg_twice n h0 hb] at this
  exact this
theorem walk1 (n m : Nat) (h0 : 1 ≤ n) (h : n < m) (h1 : m ≤ 4294967295) (w : World) :
    (Calls Try.prog 14 #[.int .u32 n, .int .u32 m] w fun e w' => e = .returned (.bool true) ∧ Below w.heap.size w w') ∧ (Calls Try.prog 14 #[.int .u32 m, .int .u32 n] w fun e w' => e = .returned (.bool true) ∧ Below w.heap.size w w') := by
  obtain ⟨c1, c3⟩ := three n h0 (by omega)
  obtain ⟨c2, -⟩ := three m (by omega) h1
  have hmo := lg_mono n m h0 (by omega) h1
  have hle := lg_le m (by omega) h1
  by_cases hb : n < 2147483648
  · exact ⟨w_lt_s n m (by omega) (by omega) (by omega) (by omega) _ _ (by omega) (by omega) (by omega) c1 c2 (c3 hb) w, w_gt_s n m (by omega) (by omega) (by omega) (by omega) _ _ (by omega) (by omega) (by omega) c1 c2 (c3 hb) w⟩
  · exact ⟨w_lt_g n m (by omega) (by omega) (by omega) (by omega) _ _ (by omega) (by omega) (by omega) c1 c2 w, w_gt_g n m (by omega) (by omega) (by omega) (by omega) _ _ (by omega) (by omega) (by omega) c1 c2 w⟩
theorem walk2 (n : Nat) (h0 : 1 ≤ n) (h1 : n ≤ 4294967295) (w : World) :
    Calls Try.prog 14 #[.int .u32 n, .int .u32 n] w fun e w' => e = .returned (.bool true) ∧ Below w.heap.size w w' := by
  obtain ⟨c1, c3⟩ := three n h0 (by omega)
  have hle := lg_le n h0 h1
  by_cases hb : n < 2147483648
  · exact w_eq_s n (by omega) (by omega) (by omega) _ (by omega) (by omega) c1 c1 (c3 hb) w
  · exact w_eq_g n (by omega) (by omega) (by omega) _ (by omega) (by omega) c1 c1 w

set_option maxHeartbeats 3200000 in
theorem walk (a0 : Int) (a1 : Int) (w : World) (w0 : (Lit.int .u32 a0).wf = true) (w1 : (Lit.int .u32 a1).wf = true) :
    Calls Try.prog 14 #[.int .u32 a0, .int .u32 a1] w fun e w' => e = .returned (.bool true) ∧ Below w.heap.size w w' := by
  obtain ⟨x, rfl⟩ := Int.eq_ofNat_of_zero_le (bounds_u32 w0).1
  obtain ⟨y, rfl⟩ := Int.eq_ofNat_of_zero_le (bounds_u32 w1).1
  have hx := (bounds_u32 w0).2
  have hy := (bounds_u32 w1).2
  by_cases z : x = 0 ∨ y = 0
  · by_cases zx : x = 0
    · subst zx
      go_enter Try.func14, Try.ntmps14
      go_wp2_with fail
      refine (awake52 _).mono ?_; rintro e w3 ⟨rfl, hb3⟩
      go_wp2_with fail
      go_ret
      exact ⟨rfl, hb3⟩
    · obtain rfl : y = 0 := by omega
      have z0 : ((x : Int) == 0) = false := by rw [beq_eq_false_iff_ne]; omega
      go_enter Try.func14, Try.ntmps14
      go_wp2_with fail
      refine (awake52 _).mono ?_; rintro e w3 ⟨rfl, hb3⟩
      go_wp2_with fail
      go_ret
      exact ⟨rfl, hb3⟩
  · rcases Nat.lt_trichotomy x y with h | h | h
    · exact (walk1 x y (by omega) h (by omega) w).1
    · subst h; exact walk2 x (by omega) (by omega) w
    · exact (walk1 y x (by omega) h (by omega) w).2

theorem lifted (os : Os) (started : os.Started) (H : Type) (enc : TypeId × Value → H) :
    ReturnsInHanded {} Try.checked os 14 .any (Rows.ilogRisesSpec.pre6 enc Try.prog Try.f14 Rows.ilogRisesRow.domain false) (Rows.ilogRisesSpec.post enc Try.prog Try.f14 false true false false) := by
  refine returnsInHanded_of_change (C := Try.checked) own started (by kernel_rfl) Try.func14
    (ChangeSpec.witness6 (enc := enc) (C := Try.checked) false ⟨#[], #[.int .u32 0, .int .u32 0], []⟩ 8 (by kernel_rfl) (by kernel_rfl) (by kernel_rfl) (by kernel_rfl)) ?_
  intro W base args ds gs before hval0 hW hcnd _
  have hval : ∀ (j : Nat) t v, Try.f14.params[j]? = some t → args[j]? = some v → Value.okWide Try.prog W .any base t v := hval0
  have hW' := hW
  obtain ⟨p, q, hA0, hV, rfl, hfz, hnd⟩ := hW
  have hA : DataW.TrodAll enc Try.prog W 0 (fun _ => true) true Try.f14.params.toList args.toList ds p := hA0
  rw [Try.params14] at hA hval
  obtain ⟨v0, vs0, d0, ds0, p0, q0, hargs, rfl, rfl, h0, r0⟩ := trodAll_cons hA
  obtain ⟨v1, vs1, d1, ds1, p1, q1, rfl, rfl, rfl, h1, r1⟩ := trodAll_cons r0
  obtain ⟨rfl, rfl, rfl⟩ := trodAll_nil r1
  obtain rfl : args = #[v0, v1] := by cases args; simp_all
  obtain ⟨rfl, rfl⟩ := trodVars_none hV
  have k0 := h0
  have lt0 : ∀ x ∈ p0, x.block < W.heap.size := by obtain ⟨m, hm⟩ := k0; exact DataW.trod_lt m _ _ _ hm
  obtain ⟨a0, rfl, rfl, rfl, w0⟩ := open_int Try.underlying22 (hval 0 22 v0 rfl rfl) h0
  have k1 := h1
  have lt1 : ∀ x ∈ p1, x.block < W.heap.size := by obtain ⟨m, hm⟩ := k1; exact DataW.trod_lt m _ _ _ hm
  obtain ⟨a1, rfl, rfl, rfl, w1⟩ := open_int Try.underlying22 (hval 1 22 v1 rfl rfl) h1
  clear hA0 hval0
  refine (walk a0 a1 W w0 w1).mono fun e W' ⟨he, bel⟩ => ?_
  subst he
  exact ⟨_, rfl, _, _, _, [], _, [], hW', trodAll_mk1 (shut_bool Try.underlying4 _), (trodAll_cons_mk (Below.trod laidOut (by kernel_rfl) (of_decide_eq_true (by kernel_rfl)) k0 bel lt0) (trodAll_cons_mk (Below.trod laidOut (by kernel_rfl) (of_decide_eq_true (by kernel_rfl)) k1 bel lt1) trodAll_mk0)), rfl, bel.frame _, fun h => by cases h⟩

theorem over : Rows.ilogRisesRow.holds Try.pinned (OpenSpec.ofChange Rows.ilogRisesSpec) :=
  OpenClaim.holds_of_wide 14 Try.f14 rfl rfl rfl rfl rfl rfl rfl ⟨rfl, rfl, rfl, rfl, rfl⟩ rfl rfl rfl rfl rfl (by kernel_rfl) Try.func14 (by kernel_rfl)
    (of_decide_eq_true (by kernel_rfl)) (by unfold Func.isWrapper; first | (rw [if_pos (by decide +kernel)]; kernel_rfl) | (rw [if_neg (by decide +kernel)]; exact ⟨rfl, rfl⟩))
    (fun os started H enc _ => lifted os started H enc)

theorem proved : Rows.IlogRisesSaid := over
#print axioms proved
end Go.Proofs.Ytfemcehglolnjaa.ilogRises
