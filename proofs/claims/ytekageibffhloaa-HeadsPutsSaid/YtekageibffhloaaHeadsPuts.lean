/- It is proved that the law 'HeadsPuts' of the program returns true for every input, with no condition, and leaves what was handed in as it was. The frame was written by a program; the walk is by hand. -/
import Derived.Test.YtekageibffhloaaRows
import Derived.WalkKit
import Derived.ProofKit
import Derived.OpenShut
import Derived.ShutString
import Derived.ChangeOld
import Derived.Below
import Derived.Test.YtekageibffhloaaBase
import Derived.Test.YtekageibffhloaaH9
namespace Go.Proofs.Ytekageibffhloaa.headsPuts
open Go.ChangeShapes Go.WideShapes Go.ChangeAt Go.RowKit Go.Deep
open Go.ChangeMaps (open_string shut_string)
set_option linter.unusedVariables false
set_option maxRecDepth 100000

theorem own : ownKnob Try.prog.godebug = none := by kernel_rfl
theorem laidOut : laidOutB Try.prog = true := by kernel_rfl



set_option maxHeartbeats 3200000 in
theorem walk (b0_0 : Int) (b0_1 : Bool) (b0_2 : Int) (b1_0 : Int) (b1_1 : Int) (b1_2 : Int) (w : World) (w0_0 : (Lit.int .i64 b0_0).wf = true) (w0_2 : (Lit.int .u32 b0_2).wf = true) (w1_0 : (Lit.int .i64 b1_0).wf = true) (w1_1 : (Lit.int .i64 b1_1).wf = true) (w1_2 : (Lit.int .i64 b1_2).wf = true) :
    Calls Try.prog 9 #[.agg #[.int .i64 b0_0, .bool b0_1, .int .u32 b0_2], .agg #[.int .i64 b1_0, .int .i64 b1_1, .int .i64 b1_2]] w fun e w' => e = .returned (.bool true) ∧ Below w.heap.size w w' := by
  have hI : 0 ≤ b0_2 ∧ b0_2 ≤ 4294967295 := bounds_u32 w0_2
  obtain ⟨I, rfl⟩ : ∃ I : Nat, b0_2 = I := ⟨b0_2.toNat, by omega⟩
  obtain ⟨⟨S, E⟩, hr⟩ : ∃ r, putS b0_0 b0_1 I = r := ⟨_, rfl⟩
  obtain ⟨⟨T, F⟩, hq⟩ : ∃ r, putBS b1_0 b1_1 b1_2 = r := ⟨_, rfl⟩
  have C1 := Lib.hid (fun W => hPutT b0_0 b0_1 I (by omega) S E hr W)
  have C2 := Lib.hid (fun W => dPutT b0_0 b0_1 I (by omega) S E hr W)
  have C3 := Lib.hid (fun W => hPutBT b1_0 b1_1 b1_2 T F hq W)
  have C4 := Lib.hid (fun W => dPutBT b1_0 b1_1 b1_2 T F hq W)
  clear hr hq hI
  go_enter Try.func9, Try.ntmps9
  go_wp2_with fail
  refine (C1.out _).mono ?_; rintro e w1 ⟨rfl, hb⟩
  have HX := Lib.hid ((hb.block _ (by simp; omega)).trans (heap_two_first w (.cells #[.int .i64 b0_0, .bool b0_1, .int .u32 I] 53) (.cells #[.int .i64 b1_0, .int .i64 b1_1, .int .i64 b1_2] 55)))
  have HY := Lib.hid ((hb.block _ (by simp)).trans (heap_two_last w (.cells #[.int .i64 b0_0, .bool b0_1, .int .u32 I] 53) (.cells #[.int .i64 b1_0, .int .i64 b1_1, .int .i64 b1_2] 55)))
  have hb : Below w.heap.size w w1 := (((Below.refl _ _).alloc (Nat.le_refl _) _).alloc (by simp) _).trans (hb.mono (by simp; omega))
  have x0 := cell_lit HX.out 0 _ rfl
  have x1 := cell_lit HX.out 1 _ rfl
  have x2 := cell_lit HX.out 2 _ rfl
  go_wp2_with fail
  clear x0 x1 x2
  refine (C2.out _).mono ?_; rintro e w2 ⟨rfl, hb2⟩
  have HY := Lib.hid (keptH HY.out hb2)
  have hb := stepA hb hb2
  clear hb2
  have y0 := cell_lit HY.out 0 _ rfl
  have y1 := cell_lit HY.out 1 _ rfl
  have y2 := cell_lit HY.out 2 _ rfl
  go_wp2_with fail
  clear y0 y1 y2
  refine (C3.out _).mono ?_; rintro e w3 ⟨rfl, hb2⟩
  have HY := Lib.hid (keptH HY.out hb2)
  have hb := stepA hb hb2
  clear hb2
  have y0 := cell_lit HY.out 0 _ rfl
  have y1 := cell_lit HY.out 1 _ rfl
  have y2 := cell_lit HY.out 2 _ rfl
  go_wp2_with fail
  clear y0 y1 y2
  refine (C4.out _).mono ?_; rintro e w4 ⟨rfl, hb2⟩
  have hb := stepA hb hb2
  clear hb2
  go_wp2_with fail
  refine (awake31 _).mono ?_; rintro e w5 ⟨rfl, hb2⟩
  have hb := stepA hb hb2
  clear hb2
  go_wp2_with fail
  go_ret
  exact ⟨rfl, hb⟩

theorem lifted (os : Os) (started : os.Started) (H : Type) (enc : TypeId × Value → H) :
    ReturnsInHanded {} Try.checked os 9 .any (Rows.headsPutsSpec.pre6 enc Try.prog Try.f9 Rows.headsPutsRow.domain false) (Rows.headsPutsSpec.post enc Try.prog Try.f9 false true false false) := by
  refine returnsInHanded_of_change (C := Try.checked) own started (by kernel_rfl) Try.func9
    (ChangeSpec.witness6 (enc := enc) (C := Try.checked) false ⟨#[], #[.agg #[.int .i64 0, .bool false, .int .u32 0], .agg #[.int .i64 0, .int .i64 0, .int .i64 0]], []⟩ 8 (by kernel_rfl) (by kernel_rfl) (by kernel_rfl) (by kernel_rfl)) ?_
  intro W base args ds gs before hval0 hW hcnd _
  have hval : ∀ (j : Nat) t v, Try.f9.params[j]? = some t → args[j]? = some v → Value.okWide Try.prog W .any base t v := hval0
  have hW' := hW
  obtain ⟨p, q, hA0, hV, rfl, hfz, hnd⟩ := hW
  have hA : DataW.TrodAll enc Try.prog W 0 (fun _ => true) true Try.f9.params.toList args.toList ds p := hA0
  rw [Try.params9] at hA hval
  obtain ⟨v0, vs0, d0, ds0, p0, q0, hargs, rfl, rfl, h0, r0⟩ := trodAll_cons hA
  obtain ⟨v1, vs1, d1, ds1, p1, q1, rfl, rfl, rfl, h1, r1⟩ := trodAll_cons r0
  obtain ⟨rfl, rfl, rfl⟩ := trodAll_nil r1
  obtain rfl : args = #[v0, v1] := by cases args; simp_all
  obtain ⟨rfl, rfl⟩ := trodVars_none hV
  have k0 := h0
  have lt0 : ∀ x ∈ p0, x.block < W.heap.size := by obtain ⟨m, hm⟩ := k0; exact DataW.trod_lt m _ _ _ hm
  obtain ⟨l, rfl, hl, hcs⟩ := agg_struct Try.underlying53 (by kernel_rfl) (by kernel_rfl) (hval 0 53 v0 rfl rfl) h0
  obtain ⟨x0, x1, x2, rfl⟩ := len3 l hl
  obtain ⟨n0, c, y, hc, hy⟩ := hcs 0 _ rfl
  simp only [List.getElem?_cons_zero, Option.some.injEq] at hc
  subst hc
  obtain ⟨b0_0, hc, -, w0_0⟩ := DataW.trod_int Try.underlying3 hy
  simp only [List.cons.injEq, and_true] at hc
  subst hc
  clear hy
  obtain ⟨n1, c, y, hc, hy⟩ := hcs 1 _ rfl
  simp only [List.getElem?_cons_zero, List.getElem?_cons_succ, Option.some.injEq] at hc
  subst hc
  obtain ⟨b0_1, hc, -⟩ := DataW.trod_bool Try.underlying4 hy
  simp only [List.cons.injEq, and_true] at hc
  subst hc
  clear hy
  obtain ⟨n2, c, y, hc, hy⟩ := hcs 2 _ rfl
  simp only [List.getElem?_cons_zero, List.getElem?_cons_succ, Option.some.injEq] at hc
  subst hc
  obtain ⟨b0_2, hc, -, w0_2⟩ := DataW.trod_int Try.underlying35 hy
  simp only [List.cons.injEq, and_true] at hc
  subst hc
  clear hy
  clear hl hcs
  have k1 := h1
  have lt1 : ∀ x ∈ p1, x.block < W.heap.size := by obtain ⟨m, hm⟩ := k1; exact DataW.trod_lt m _ _ _ hm
  obtain ⟨l, rfl, hl, hcs⟩ := agg_struct Try.underlying55 (by kernel_rfl) (by kernel_rfl) (hval 1 55 v1 rfl rfl) h1
  obtain ⟨x0, x1, x2, rfl⟩ := len3 l hl
  obtain ⟨n0, c, y, hc, hy⟩ := hcs 0 _ rfl
  simp only [List.getElem?_cons_zero, Option.some.injEq] at hc
  subst hc
  obtain ⟨b1_0, hc, -, w1_0⟩ := DataW.trod_int Try.underlying3 hy
  simp only [List.cons.injEq, and_true] at hc
  subst hc
  clear hy
  obtain ⟨n1, c, y, hc, hy⟩ := hcs 1 _ rfl
  simp only [List.getElem?_cons_zero, List.getElem?_cons_succ, Option.some.injEq] at hc
  subst hc
  obtain ⟨b1_1, hc, -, w1_1⟩ := DataW.trod_int Try.underlying3 hy
  simp only [List.cons.injEq, and_true] at hc
  subst hc
  clear hy
  obtain ⟨n2, c, y, hc, hy⟩ := hcs 2 _ rfl
  simp only [List.getElem?_cons_zero, List.getElem?_cons_succ, Option.some.injEq] at hc
  subst hc
  obtain ⟨b1_2, hc, -, w1_2⟩ := DataW.trod_int Try.underlying3 hy
  simp only [List.cons.injEq, and_true] at hc
  subst hc
  clear hy
  clear hl hcs
  clear hA0 hval0
  refine (walk b0_0 b0_1 b0_2 b1_0 b1_1 b1_2 W w0_0 w0_2 w1_0 w1_1 w1_2).mono fun e W' ⟨he, bel⟩ => ?_
  subst he
  exact ⟨_, rfl, _, _, _, [], _, [], hW', trodAll_mk1 (shut_bool Try.underlying4 _), (trodAll_cons_mk (Below.trod laidOut (by kernel_rfl) (of_decide_eq_true (by kernel_rfl)) k0 bel lt0) (trodAll_cons_mk (Below.trod laidOut (by kernel_rfl) (of_decide_eq_true (by kernel_rfl)) k1 bel lt1) trodAll_mk0)), rfl, bel.frame _, fun h => by cases h⟩

theorem over : Rows.headsPutsRow.holds Try.pinned (OpenSpec.ofChange Rows.headsPutsSpec) :=
  OpenClaim.holds_of_wide 9 Try.f9 rfl rfl rfl rfl rfl rfl rfl ⟨rfl, rfl, rfl, rfl, rfl⟩ rfl rfl rfl rfl rfl (by kernel_rfl) Try.func9 (by kernel_rfl)
    (of_decide_eq_true (by kernel_rfl)) (by unfold Func.isWrapper; first | (rw [if_pos (by decide +kernel)]; kernel_rfl) | (rw [if_neg (by decide +kernel)]; exact ⟨rfl, rfl⟩))
    (fun os started H enc _ => lifted os started H enc)

theorem proved : Rows.HeadsPutsSaid := over
#print axioms proved
end Go.Proofs.Ytekageibffhloaa.headsPuts
