/- It is proved that the law 'SlotsRound' of the program returns true for every input, with no condition, and leaves what was handed in as it was. The frame was written by a program; the walk is by hand. -/
import Derived.Test.YtfemcehglolnjaaRows
import Derived.WalkKit
import Derived.ProofKit
import Derived.OpenShut
import Derived.ShutString
import Derived.ChangeOld
import Derived.Below
import Derived.Test.YtfemcehglolnjaaBase
import Derived.Test.YtfemcehglolnjaaSo
namespace Go.Proofs.Ytfemcehglolnjaa.slotsRound
open Go.ChangeShapes Go.WideShapes Go.ChangeAt Go.RowKit Go.Deep
open Go.ChangeMaps (open_string shut_string)
set_option linter.unusedVariables false
set_option maxRecDepth 100000

theorem own : ownKnob Try.prog.godebug = none := by kernel_rfl
theorem laidOut : laidOutB Try.prog = true := by kernel_rfl

theorem slotL_mono : ∀ n : Fin 258, 2 ≤ n.val → slotL n.val ≤ slotL (n.val + 1) := by decide +kernel
theorem moreL (n : Nat) (h2 : 2 ≤ n) (h : n ≤ 258) : slotL n ≤ 28 ∧ tbL (slotL n) ≤ n ∧ n - tbL (slotL n) < wideL (slotL n) := by
  have hf := slotL_facts ⟨n, by omega⟩ h2
  simp only at hf
  refine ⟨hf.1, hf.2.1, ?_⟩
  rcases Nat.lt_or_eq_of_le hf.1 with h28 | h28
  · have ht := hf.2.2.1 ⟨slotL n + 1, by omega⟩ (by simp)
    have e : tbL (slotL n + 1) = tbL (slotL n) + wideL (slotL n) := rfl
    simp only at ht
    omega
  · have h1 := hf.2.1
    rw [h28] at h1 ⊢
    have e1 : tbL 28 = 258 := by decide
    have e2 : wideL 28 = 1 := by decide
    omega
theorem moreD (d : Nat) (h1 : 1 ≤ d) (h : d ≤ 67108864) : slotD d ≤ 51 ∧ tbD (slotD d) ≤ d ∧ d - tbD (slotD d) < wideD (slotD d) := by
  have hf := slotD_facts d h1 h
  refine ⟨hf.1, hf.2.1, ?_⟩
  rcases Nat.lt_or_eq_of_le hf.1 with h51 | h51
  · have ht := hf.2.2.1 (slotD d + 1) (by omega) (by omega)
    have e : tbD (slotD d + 1) = tbD (slotD d) + wideD (slotD d) := rfl
    omega
  · have h1 := hf.2.1
    rw [h51] at h1 ⊢
    have e1 : tbD 51 = 50331649 := by decide
    have e2 : wideD 51 = 16777216 := by decide
    omega
theorem slotD_mono (d : Nat) (h1 : 1 ≤ d) (h : d < 67108864) : slotD d ≤ slotD (d + 1) := by
  rcases Nat.lt_or_ge (slotD (d + 1)) (slotD d) with hc | hc
  · have f1 := slotD_facts d h1 (by omega)
    have f2 := slotD_facts (d + 1) (by omega) (by omega)
    have := f2.2.2.1 (slotD d) hc f1.1
    have := f1.2.1
    omega
  · exact hc
theorem shr_zero (c W x : Nat) (h : c < W) (hW : W = 2 ^ x) : (c : Int) / 2 ^ x = 0 := by
  rw [← div_cast, Nat.div_eq_of_lt (by omega)]; rfl

/-- What the law needs of Len at n and behind it. -/
theorem roundL (n : Nat) (h2 : 2 ≤ n) (h : n ≤ 258) : ∃ a b c p q r s : Nat,
    (∀ w, Calls Try.prog 20 #[.int .i64 n] w fun e w' => e = .returned (.tuple #[.int .i64 a, .int .i64 b, .int .i64 c, .int .i64 0]) ∧ Below w.heap.size w w') ∧
    (∀ w, Calls Try.prog 25 #[.int .i64 a, .int .i64 c] w fun e w' => e = .returned (.tuple #[.int .i64 n, .int .i64 0]) ∧ Below w.heap.size w w') ∧
    (∀ w, Calls Try.prog 20 #[.int .i64 ((n : Int) + 1)] w fun e w' => e = .returned (.tuple #[.int .i64 p, .int .i64 r, .int .i64 s, .int .i64 q]) ∧ Below w.heap.size w w') ∧
    b ≤ 30 ∧ (c : Int) / 2 ^ b = 0 ∧ (q = 0 ∧ a ≤ p ∨ q = 2) := by
  have hm := moreL n h2 h
  refine ⟨slotL n, exL (slotL n), n - tbL (slotL n), if n = 258 then 0 else slotL (n + 1), if n = 258 then 2 else 0, if n = 258 then 0 else exL (slotL (n + 1)), if n = 258 then 0 else n + 1 - tbL (slotL (n + 1)), Len_in n h2 h, fun w => ?_, fun w => ?_, ?_, shr_zero _ _ _ hm.2.2 rfl, ?_⟩
  · refine LenOf_at (slotL n) ((n - tbL (slotL n) : Nat) : Int) n 0 hm.1 ?_ ?_ w
    · rw [if_pos ⟨by omega, by have := hm.2.2; omega⟩]; have := hm.2.1; omega
    · rw [if_pos ⟨by omega, by have := hm.2.2; omega⟩]
  · by_cases hn : n = 258
    · subst hn; exact Len_out 259 (by decide) w
    · simp only [if_neg hn]; exact Len_in (n + 1) (by omega) (by omega) w
  · exact (tbL_bd _ (by have := hm.1; omega)).2
  · by_cases hn : n = 258
    · simp [hn]
    · simp only [if_neg hn]; exact .inl ⟨trivial, slotL_mono ⟨n, by omega⟩ h2⟩
theorem roundD (n : Nat) (h2 : 1 ≤ n) (h : n ≤ 67108864) : ∃ a b c p q r s : Nat,
    (∀ w, Calls Try.prog 22 #[.int .i64 n] w fun e w' => e = .returned (.tuple #[.int .i64 a, .int .i64 b, .int .i64 c, .int .i64 0]) ∧ Below w.heap.size w w') ∧
    (∀ w, Calls Try.prog 27 #[.int .i64 a, .int .i64 c] w fun e w' => e = .returned (.tuple #[.int .i64 n, .int .i64 0]) ∧ Below w.heap.size w w') ∧
    (∀ w, Calls Try.prog 22 #[.int .i64 ((n : Int) + 1)] w fun e w' => e = .returned (.tuple #[.int .i64 p, .int .i64 r, .int .i64 s, .int .i64 q]) ∧ Below w.heap.size w w') ∧
    b ≤ 30 ∧ (c : Int) / 2 ^ b = 0 ∧ (q = 0 ∧ a ≤ p ∨ q = 2) := by
  have hm := moreD n h2 h
  refine ⟨slotD n, exD (slotD n), n - tbD (slotD n), if n = 67108864 then 0 else slotD (n + 1), if n = 67108864 then 2 else 0, if n = 67108864 then 0 else exD (slotD (n + 1)), if n = 67108864 then 0 else n + 1 - tbD (slotD (n + 1)), Dist_in n h2 h, fun w => ?_, fun w => ?_, ?_, shr_zero _ _ _ hm.2.2 rfl, ?_⟩
  · refine DistOf_at (slotD n) ((n - tbD (slotD n) : Nat) : Int) n 0 hm.1 ?_ ?_ w
    · rw [if_pos ⟨by omega, by have := hm.2.2; omega⟩]; have := hm.2.1; omega
    · rw [if_pos ⟨by omega, by have := hm.2.2; omega⟩]
  · by_cases hn : n = 67108864
    · simp only [if_pos hn]; exact Dist_out ((n : Int) + 1) (by omega) w
    · simp only [if_neg hn]; exact Dist_in (n + 1) (by omega) (by omega) w
  · exact (tbD_bd _ (by have := hm.1; omega)).2
  · by_cases hn : n = 67108864
    · simp only [if_pos hn]; exact .inr trivial
    · simp only [if_neg hn]; exact .inl ⟨trivial, slotD_mono n h2 (by omega)⟩

set_option maxHeartbeats 3200000 in
theorem walk (a0 : Int) (a1 : Int) (w : World) (w0 : (Lit.int .u32 a0).wf = true) (w1 : (Lit.int .u32 a1).wf = true) :
    Calls Try.prog 8 #[.int .u32 a0, .int .u32 a1] w fun e w' => e = .returned (.bool true) ∧ Below w.heap.size w w' := by
  obtain ⟨x, rfl⟩ := Int.eq_ofNat_of_zero_le (bounds_u32 w0).1
  obtain ⟨y, rfl⟩ := Int.eq_ofNat_of_zero_le (bounds_u32 w1).1
  have hx := (bounds_u32 w0).2
  have hy := (bounds_u32 w1).2
  obtain ⟨n, hn⟩ : ∃ n, n = x % 257 + 2 := ⟨_, rfl⟩
  obtain ⟨d, hd⟩ : ∃ d, d = y % 67108864 + 1 := ⟨_, rfl⟩
  have hnI : (x : Int) % 257 + 2 = (n : Int) := by omega
  have hdI : (y : Int) % 67108864 + 1 = (d : Int) := by omega
  have n0 : 2 ≤ n := by omega
  have n1 : n ≤ 258 := by omega
  have d0 : 1 ≤ d := by omega
  have d1 : d ≤ 67108864 := by omega
  have HN := Lib.hid hnI; have HD := Lib.hid hdI
  clear hnI hdI hn hd
  obtain ⟨a, b, c, p, q, r, s, l1, l2, l3, hb, hz, hpq⟩ := roundL n n0 n1
  obtain ⟨a', b', c', p', q', r', s', m1, m2, m3, hb', hz', hpq'⟩ := roundD d d0 d1
  have L1 := Lib.hid l1; have L2 := Lib.hid l2; have L3 := Lib.hid l3
  have M1 := Lib.hid m1; have M2 := Lib.hid m2; have M3 := Lib.hid m3
  clear l1 l2 l3 m1 m2 m3
  rcases hpq with ⟨rfl, hpa⟩ | rfl <;> rcases hpq' with ⟨rfl, hpa'⟩ | rfl
  all_goals
    go_enter Try.func8, Try.ntmps8
    go_wp2_with fail
    rw [HN.out, HD.out]
    refine (L1.out _).mono ?_; rintro e w1 ⟨rfl, hb1⟩
    go_wp2_with fail
    refine (M1.out _).mono ?_; rintro e w2 ⟨rfl, hb2⟩
    have hc2 := hb1.trans (hb2.mono hb1.size); clear hb1 hb2
    go_wp2_with fail
    refine (L2.out _).mono ?_; rintro e w3 ⟨rfl, hb3⟩
    have hc3 := hc2.trans (hb3.mono hc2.size); clear hc2 hb3
    go_wp2_with fail
    refine (M2.out _).mono ?_; rintro e w4 ⟨rfl, hb4⟩
    have hc4 := hc3.trans (hb4.mono hc3.size); clear hc3 hb4
    go_wp2_with fail
    refine (L3.out _).mono ?_; rintro e w5 ⟨rfl, hb5⟩
    have hc5 := hc4.trans (hb5.mono hc4.size); clear hc4 hb5
    go_wp2_with fail
    refine (M3.out _).mono ?_; rintro e w6 ⟨rfl, hb6⟩
    have hc6 := hc5.trans (hb6.mono hc5.size); clear hc5 hb6
    go_wp2_with fail
    refine (awake15 _).mono ?_; rintro e w7 ⟨rfl, hb7⟩
    have hc7 := hc6.trans (hb7.mono hc6.size); clear hc6 hb7
    go_wp2_with fail
    go_ret
    exact ⟨rfl, hc7⟩

theorem lifted (os : Os) (started : os.Started) (H : Type) (enc : TypeId × Value → H) :
    ReturnsInHanded {} Try.checked os 8 .any (Rows.slotsRoundSpec.pre6 enc Try.prog Try.f8 Rows.slotsRoundRow.domain false) (Rows.slotsRoundSpec.post enc Try.prog Try.f8 false true false false) := by
  refine returnsInHanded_of_change (C := Try.checked) own started (by kernel_rfl) Try.func8
    (ChangeSpec.witness6 (enc := enc) (C := Try.checked) false ⟨#[], #[.int .u32 0, .int .u32 0], []⟩ 8 (by kernel_rfl) (by kernel_rfl) (by kernel_rfl) (by kernel_rfl)) ?_
  intro W base args ds gs before hval0 hW hcnd _
  have hval : ∀ (j : Nat) t v, Try.f8.params[j]? = some t → args[j]? = some v → Value.okWide Try.prog W .any base t v := hval0
  have hW' := hW
  obtain ⟨p, q, hA0, hV, rfl, hfz, hnd⟩ := hW
  have hA : DataW.TrodAll enc Try.prog W 0 (fun _ => true) true Try.f8.params.toList args.toList ds p := hA0
  rw [Try.params8] at hA hval
  obtain ⟨v0, vs0, d0, ds0, p0, q0, hargs, rfl, rfl, h0, r0⟩ := trodAll_cons hA
  obtain ⟨v1, vs1, d1, ds1, p1, q1, rfl, rfl, rfl, h1, r1⟩ := trodAll_cons r0
  obtain ⟨rfl, rfl, rfl⟩ := trodAll_nil r1
  obtain rfl : args = #[v0, v1] := by cases args; simp_all
  obtain ⟨rfl, rfl⟩ := trodVars_none hV
  have k0 := h0
  have lt0 : ∀ x ∈ p0, x.block < W.heap.size := by obtain ⟨m, hm⟩ := k0; exact DataW.trod_lt m _ _ _ hm
  obtain ⟨a0, rfl, rfl, rfl, w0⟩ := open_int Try.underlying22 (hval 0 22 v0 rfl rfl) h0
  have k1 := h1
  have lt1 : ∀ x ∈ p1, x.block < W.heap.size := by obtain ⟨m, hm⟩ := k1; exact DataW.trod_lt m _ _ _ hm
  obtain ⟨a1, rfl, rfl, rfl, w1⟩ := open_int Try.underlying22 (hval 1 22 v1 rfl rfl) h1
  clear hA0 hval0
  refine (walk a0 a1 W w0 w1).mono fun e W' ⟨he, bel⟩ => ?_
  subst he
  exact ⟨_, rfl, _, _, _, [], _, [], hW', trodAll_mk1 (shut_bool Try.underlying4 _), (trodAll_cons_mk (Below.trod laidOut (by kernel_rfl) (of_decide_eq_true (by kernel_rfl)) k0 bel lt0) (trodAll_cons_mk (Below.trod laidOut (by kernel_rfl) (of_decide_eq_true (by kernel_rfl)) k1 bel lt1) trodAll_mk0)), rfl, bel.frame _, fun h => by cases h⟩

theorem over : Rows.slotsRoundRow.holds Try.pinned (OpenSpec.ofChange Rows.slotsRoundSpec) :=
  OpenClaim.holds_of_wide 8 Try.f8 rfl rfl rfl rfl rfl rfl rfl ⟨rfl, rfl, rfl, rfl, rfl⟩ rfl rfl rfl rfl rfl (by kernel_rfl) Try.func8 (by kernel_rfl)
    (of_decide_eq_true (by kernel_rfl)) (by unfold Func.isWrapper; first | (rw [if_pos (by decide +kernel)]; kernel_rfl) | (rw [if_neg (by decide +kernel)]; exact ⟨rfl, rfl⟩))
    (fun os started H enc _ => lifted os started H enc)

theorem proved : Rows.SlotsRoundSaid := over
#print axioms proved
end Go.Proofs.Ytfemcehglolnjaa.slotsRound
