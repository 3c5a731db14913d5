/- It is proved that the law 'TokenBack' of the program returns true for every input, with no condition, and leaves what was handed in as it was. The frame was written by a program; the walk is by hand. -/
import Derived.Test.YtmpmioffngonjaaRows
import Derived.WalkKit
import Derived.ProofKit
import Derived.OpenShut
import Derived.ShutString
import Derived.ChangeOld
import Derived.Below
import Derived.Test.YtmpmioffngonjaaBase
import Derived.Test.YtmpmioffngonjaaTr
namespace Go.Proofs.Ytmpmioffngonjaa.tokenBack
open Go.ChangeShapes Go.WideShapes Go.ChangeAt Go.RowKit Go.Deep
open Go.ChangeMaps (open_string shut_string)
set_option linter.unusedVariables false
set_option maxRecDepth 100000

theorem own : ownKnob Try.prog.godebug = none := by kernel_rfl
theorem laidOut : laidOutB Try.prog = true := by kernel_rfl

theorem of_lit (b : Int) (h0 : 0 ≤ b) (h1 : b ≤ 255) : ofK b = 0 ∧ ofB b = b ∧ ofR b = 0 ∧ ofS b = 0 ∧ ofE b = 0 := by
  have hn : ¬ (b < 0 ∨ 400 < b) := by omega
  unfold ofK ofB ofR ofS ofE
  rw [if_neg hn, if_neg hn, if_neg hn, if_neg hn, if_neg hn, if_pos (by omega), if_pos (by omega), if_pos (by omega), if_pos (by omega)]
  exact ⟨rfl, rfl, rfl, rfl, rfl⟩
theorem of_copy (S : Nat) (h : S ≤ 28) : ofK (256 + S) = 1 ∧ ofB (256 + S) = 0 ∧ ofR (256 + S) = 0 ∧ ofS (256 + S) = S ∧ ofE (256 + S) = 0 := by
  have hn : ¬ ((256 : Int) + S < 0 ∨ 400 < (256 : Int) + S) := by omega
  unfold ofK ofB ofR ofS ofE
  have a1 : ¬ (256 : Int) + S < 256 := by omega
  have a2 : (256 : Int) + S < 285 := by omega
  simp only [if_neg hn, if_neg a1, if_pos a2]
  exact ⟨trivial, trivial, trivial, by omega, trivial⟩
theorem of_rep (r : Int) (S : Nat) (h : S ≤ 28) (h0 : 0 ≤ r) (h3 : r ≤ 3) : ofK (285 + 29 * r + S) = 2 ∧ ofB (285 + 29 * r + S) = 0 ∧ ofR (285 + 29 * r + S) = r ∧ ofS (285 + 29 * r + S) = S ∧ ofE (285 + 29 * r + S) = 0 := by
  have hn : ¬ ((285 : Int) + 29 * r + S < 0 ∨ 400 < (285 : Int) + 29 * r + S) := by omega
  unfold ofK ofB ofR ofS ofE
  have a1 : ¬ (285 : Int) + 29 * r + S < 256 := by omega
  have a2 : ¬ (285 : Int) + 29 * r + S < 285 := by omega
  simp only [if_neg hn, if_neg a1, if_neg a2]
  exact ⟨trivial, trivial, by omega, by omega, trivial⟩

set_option maxHeartbeats 3200000 in
theorem walk (b0_0 : Int) (b0_1 : Int) (b0_2 : Int) (b0_3 : Int) (b0_4 : Int) (w : World) (w0_0 : (Lit.int .i64 b0_0).wf = true) (w0_1 : (Lit.int .i64 b0_1).wf = true) (w0_2 : (Lit.int .i64 b0_2).wf = true) (w0_3 : (Lit.int .i64 b0_3).wf = true) (w0_4 : (Lit.int .i64 b0_4).wf = true) :
    Calls Try.prog 6 #[.agg #[.int .i64 b0_0, .int .i64 b0_1, .int .i64 b0_2, .int .i64 b0_3, .int .i64 b0_4]] w fun e w' => e = .returned (.bool true) ∧ Below w.heap.size w w' := by
  by_cases h : OkTok b0_0 b0_1 b0_2 b0_3 b0_4
  · by_cases k0 : b0_0 = 0
    · subst k0
      have hx : 0 ≤ b0_1 ∧ b0_1 ≤ 255 ∧ b0_2 = 0 ∧ b0_3 = 0 ∧ b0_4 = 0 := by unfold OkTok at h; omega
      obtain ⟨x0, x1, rfl, rfl, rfl⟩ := hx
      have s1 := sym_any 0 b0_1 0 0 0
      rw [show symTok 0 b0_1 0 0 0 = b0_1 from by unfold symTok; rw [if_pos h, if_pos rfl], show chk 0 b0_1 0 0 0 = 0 from (chk_yes h).symm] at s1
      have o1 := Of_any b0_1
      have ho := of_lit b0_1 x0 x1
      rw [ho.1, ho.2.1, ho.2.2.1, ho.2.2.2.1, ho.2.2.2.2] at o1
      have S1 := Lib.hid s1; have O1 := Lib.hid o1
      clear s1 o1 ho h
      go_enter Try.func6, Try.ntmps6
      go_wp2_with fail
      refine (S1.out _).mono ?_; rintro e w1 ⟨rfl, hb1⟩
      obtain ⟨q0, q1, q2, q3, q4, hlt⟩ := box_start hb1
      have hc1 := below_box hb1; clear hb1
      go_wp2_with fail
      refine (O1.out _).mono ?_; rintro e w' ⟨rfl, rfl⟩
      go_wp2_with fail
      refine (awake16 _).mono ?_; rintro e w7 ⟨rfl, hb7⟩
      have hc7 := hc1.trans (hb7.mono hc1.size); clear hc1 hb7
      go_wp2_with fail
      go_ret
      exact ⟨rfl, hc7⟩
    · have kb : (b0_0 == 0) = false := by rw [beq_eq_false_iff_ne]; exact k0
      have hx : 2 ≤ b0_2 ∧ b0_2 ≤ 258 ∧ b0_1 = 0 := by unfold OkTok at h; omega
      obtain ⟨x0, x1, rfl⟩ := hx
      obtain ⟨n, rfl⟩ := Int.eq_ofNat_of_zero_le (show 0 ≤ b0_2 by omega)
      have hs := slotL_le n (by omega) (by omega)
      have l1 := refLen_in n (by omega) (by omega)
      have s1 := sym_any b0_0 0 n b0_3 b0_4
      have key : ∃ s : Int, (∀ w, Calls Try.prog 24 #[.agg #[.int .i64 b0_0, .int .i64 0, .int .i64 n, .int .i64 b0_3, .int .i64 b0_4]] w fun e w' => e = .returned (.tuple #[.int .i64 s, .int .i64 0]) ∧ Below w.heap.size w w') ∧
          (∀ w, Calls Try.prog 26 #[.int .i64 s] w fun e w' => e = .returned (.tuple #[.int .i64 b0_0, .int .i64 0, .int .i64 b0_4, .int .i64 (slotL n), .int .i64 0]) ∧ w = w') := by
        rw [show chk b0_0 0 n b0_3 b0_4 = 0 from (chk_yes h).symm] at s1
        refine ⟨_, s1, ?_⟩
        by_cases k1 : b0_0 = 1
        · subst k1
          have hr : b0_4 = 0 := by unfold OkTok at h; omega
          subst hr
          rw [show symTok 1 0 n b0_3 0 = 256 + slotL n from by unfold symTok; rw [if_pos h, if_neg (by decide), if_pos rfl, Int.toNat_natCast]]
          have o1 := Of_any (256 + (slotL n : Int))
          have ho := of_copy (slotL n) hs
          rw [ho.1, ho.2.1, ho.2.2.1, ho.2.2.2.1, ho.2.2.2.2] at o1
          exact o1
        · obtain rfl : b0_0 = 2 := by unfold OkTok at h; omega
          have hr : 0 ≤ b0_4 ∧ b0_4 ≤ 3 := by unfold OkTok at h; omega
          rw [show symTok 2 0 n b0_3 b0_4 = 285 + 29 * b0_4 + slotL n from by unfold symTok; rw [if_pos h, if_neg (by decide), if_neg (by decide), Int.toNat_natCast]]
          have o1 := Of_any (285 + 29 * b0_4 + (slotL n : Int))
          have ho := of_rep b0_4 (slotL n) hs hr.1 hr.2
          rw [ho.1, ho.2.1, ho.2.2.1, ho.2.2.2.1, ho.2.2.2.2] at o1
          exact o1
      obtain ⟨s, m1, m2⟩ := key
      obtain ⟨T, hT⟩ : ∃ T, slotL n = T := ⟨_, rfl⟩
      obtain ⟨X, hX⟩ : ∃ X, exL T = X := ⟨_, rfl⟩
      obtain ⟨Y, hY⟩ : ∃ Y, n - tbL T = Y := ⟨_, rfl⟩
      rw [hT] at m2 l1
      rw [hX, hY] at l1
      have M1 := Lib.hid m1; have M2 := Lib.hid m2; have L1 := Lib.hid l1
      clear s1 m1 m2 l1 hT hX hY h hs
      go_enter Try.func6, Try.ntmps6
      go_wp2_with fail
      refine (M1.out _).mono ?_; rintro e w1 ⟨rfl, hb1⟩
      obtain ⟨q0, q1, q2, q3, q4, hlt⟩ := box_start hb1
      have hc1 := below_box hb1; clear hb1
      go_wp2_with fail
      refine (M2.out _).mono ?_; rintro e w' ⟨rfl, rfl⟩
      go_wp2_with fail
      refine (L1.out _).mono ?_; rintro e w2 ⟨rfl, hb2⟩
      obtain ⟨r0, r1, r2, r3, r4, hlt2⟩ := box_keep hb2 ⟨q0, q1, q2, q3, q4, hlt⟩
      have hc2 := hc1.trans (hb2.mono hc1.size); clear hc1 hb2 q0 q1 q2 q3 q4 hlt
      go_wp2_with fail
      refine (awake16 _).mono ?_; rintro e w7 ⟨rfl, hb7⟩
      have hc7 := hc2.trans (hb7.mono hc2.size); clear hc2 hb7
      go_wp2_with fail
      go_ret
      exact ⟨rfl, hc7⟩
  · have s1 := sym_any b0_0 b0_1 b0_2 b0_3 b0_4
    rw [show symTok b0_0 b0_1 b0_2 b0_3 b0_4 = 0 from if_neg h, show chk b0_0 b0_1 b0_2 b0_3 b0_4 = 10 from (chk_no h).symm] at s1
    have z1 := size_any b0_0 b0_1 b0_2 b0_3 b0_4
    rw [show szTok b0_0 b0_1 b0_2 b0_3 b0_4 = 0 from if_neg h] at z1
    have S1 := Lib.hid s1; have Z1 := Lib.hid z1
    clear s1 z1 h
    go_enter Try.func6, Try.ntmps6
    go_wp2_with fail
    refine (S1.out _).mono ?_; rintro e w1 ⟨rfl, hb1⟩
    obtain ⟨q0, q1, q2, q3, q4, hlt⟩ := box_start hb1
    have hc1 := below_box hb1; clear hb1
    go_wp2_with fail
    refine (Z1.out _).mono ?_; rintro e w2 ⟨rfl, hb2⟩
    have hc2 := hc1.trans (hb2.mono hc1.size); clear hc1 hb2
    go_wp2_with fail
    refine (awake16 _).mono ?_; rintro e w7 ⟨rfl, hb7⟩
    have hc7 := hc2.trans (hb7.mono hc2.size); clear hc2 hb7
    go_wp2_with fail
    go_ret
    exact ⟨rfl, hc7⟩

theorem lifted (os : Os) (started : os.Started) (H : Type) (enc : TypeId × Value → H) :
    ReturnsInHanded {} Try.checked os 6 .any (Rows.tokenBackSpec.pre6 enc Try.prog Try.f6 Rows.tokenBackRow.domain false) (Rows.tokenBackSpec.post enc Try.prog Try.f6 false true false false) := by
  refine returnsInHanded_of_change (C := Try.checked) own started (by kernel_rfl) Try.func6
    (ChangeSpec.witness6 (enc := enc) (C := Try.checked) false ⟨#[], #[.agg #[.int .i64 0, .int .i64 0, .int .i64 0, .int .i64 0, .int .i64 0]], []⟩ 8 (by kernel_rfl) (by kernel_rfl) (by kernel_rfl) (by kernel_rfl)) ?_
  intro W base args ds gs before hval0 hW hcnd _
  have hval : ∀ (j : Nat) t v, Try.f6.params[j]? = some t → args[j]? = some v → Value.okWide Try.prog W .any base t v := hval0
  have hW' := hW
  obtain ⟨p, q, hA0, hV, rfl, hfz, hnd⟩ := hW
  have hA : DataW.TrodAll enc Try.prog W 0 (fun _ => true) true Try.f6.params.toList args.toList ds p := hA0
  rw [Try.params6] at hA hval
  obtain ⟨v0, vs0, d0, ds0, p0, q0, hargs, rfl, rfl, h0, r0⟩ := trodAll_cons hA
  obtain ⟨rfl, rfl, rfl⟩ := trodAll_nil r0
  obtain rfl : args = #[v0] := by cases args; simp_all
  obtain ⟨rfl, rfl⟩ := trodVars_none hV
  have k0 := h0
  have lt0 : ∀ x ∈ p0, x.block < W.heap.size := by obtain ⟨m, hm⟩ := k0; exact DataW.trod_lt m _ _ _ hm
  obtain ⟨l, rfl, hl, hcs⟩ := agg_struct Try.underlying31 (by kernel_rfl) (by kernel_rfl) (hval 0 31 v0 rfl rfl) h0
  obtain ⟨x0, x1, x2, x3, x4, rfl⟩ := len5 l hl
  obtain ⟨n0, c, y, hc, hy⟩ := hcs 0 _ rfl
  simp only [List.getElem?_cons_zero, Option.some.injEq] at hc
  subst hc
  obtain ⟨b0_0, hc, -, w0_0⟩ := DataW.trod_int Try.underlying3 hy
  simp only [List.cons.injEq, and_true] at hc
  subst hc
  clear hy
  obtain ⟨n1, c, y, hc, hy⟩ := hcs 1 _ rfl
  simp only [List.getElem?_cons_zero, List.getElem?_cons_succ, Option.some.injEq] at hc
  subst hc
  obtain ⟨b0_1, hc, -, w0_1⟩ := DataW.trod_int Try.underlying3 hy
  simp only [List.cons.injEq, and_true] at hc
  subst hc
  clear hy
  obtain ⟨n2, c, y, hc, hy⟩ := hcs 2 _ rfl
  simp only [List.getElem?_cons_zero, List.getElem?_cons_succ, Option.some.injEq] at hc
  subst hc
  obtain ⟨b0_2, hc, -, w0_2⟩ := DataW.trod_int Try.underlying3 hy
  simp only [List.cons.injEq, and_true] at hc
  subst hc
  clear hy
  obtain ⟨n3, c, y, hc, hy⟩ := hcs 3 _ rfl
  simp only [List.getElem?_cons_zero, List.getElem?_cons_succ, Option.some.injEq] at hc
  subst hc
  obtain ⟨b0_3, hc, -, w0_3⟩ := DataW.trod_int Try.underlying3 hy
  simp only [List.cons.injEq, and_true] at hc
  subst hc
  clear hy
  obtain ⟨n4, c, y, hc, hy⟩ := hcs 4 _ rfl
  simp only [List.getElem?_cons_zero, List.getElem?_cons_succ, Option.some.injEq] at hc
  subst hc
  obtain ⟨b0_4, hc, -, w0_4⟩ := DataW.trod_int Try.underlying3 hy
  simp only [List.cons.injEq, and_true] at hc
  subst hc
  clear hy
  clear hl hcs
  clear hA0 hval0
  refine (walk b0_0 b0_1 b0_2 b0_3 b0_4 W w0_0 w0_1 w0_2 w0_3 w0_4).mono fun e W' ⟨he, bel⟩ => ?_
  subst he
  exact ⟨_, rfl, _, _, _, [], _, [], hW', trodAll_mk1 (shut_bool Try.underlying4 _), (trodAll_cons_mk (Below.trod laidOut (by kernel_rfl) (of_decide_eq_true (by kernel_rfl)) k0 bel lt0) trodAll_mk0), rfl, bel.frame _, fun h => by cases h⟩

theorem over : Rows.tokenBackRow.holds Try.pinned (OpenSpec.ofChange Rows.tokenBackSpec) :=
  OpenClaim.holds_of_wide 6 Try.f6 rfl rfl rfl rfl rfl rfl rfl ⟨rfl, rfl, rfl, rfl, rfl⟩ rfl rfl rfl rfl rfl (by kernel_rfl) Try.func6 (by kernel_rfl)
    (of_decide_eq_true (by kernel_rfl)) (by unfold Func.isWrapper; first | (rw [if_pos (by decide +kernel)]; kernel_rfl) | (rw [if_neg (by decide +kernel)]; exact ⟨rfl, rfl⟩))
    (fun os started H enc _ => lifted os started H enc)

theorem proved : Rows.TokenBackSaid := over
#print axioms proved
end Go.Proofs.Ytmpmioffngonjaa.tokenBack
