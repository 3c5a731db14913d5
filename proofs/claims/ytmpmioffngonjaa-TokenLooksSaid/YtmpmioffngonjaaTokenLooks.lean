/- It is proved that the law 'TokenLooks' of the program returns true for every input, with no condition, and leaves what was handed in as it was. The frame was written by a program; the walk is by hand. -/
import Derived.Test.YtmpmioffngonjaaRows
import Derived.WalkKit
import Derived.ProofKit
import Derived.OpenShut
import Derived.ShutString
import Derived.ChangeOld
import Derived.Below
import Derived.Test.YtmpmioffngonjaaBase
import Derived.Test.YtmpmioffngonjaaTr
import Derived.Deep.RegionHeld3
namespace Go.Proofs.Ytmpmioffngonjaa.tokenLooks
open Go.ChangeShapes Go.WideShapes Go.ChangeAt Go.RowKit Go.Deep
open Go.ChangeMaps (open_string shut_string)
set_option linter.unusedVariables false
set_option maxRecDepth 100000

theorem own : ownKnob Try.prog.godebug = none := by kernel_rfl
theorem laidOut : laidOutB Try.prog = true := by kernel_rfl

theorem keepS {w1 w2 w : World} {g B : Nat} {c0 c1 c2 c3 c4 : Value}
    (h : w1.cell? ⟨g, 0, none⟩ = some c0 ∧ w1.cell? ⟨g, 1, none⟩ = some c1 ∧ w1.cell? ⟨g, 2, none⟩ = some c2 ∧ w1.cell? ⟨g, 3, none⟩ = some c3 ∧ w1.cell? ⟨g, 4, none⟩ = some c4 ∧ g < w1.heap.size ∧ B ≤ w1.heap.size ∧ Below B w w1) (hb : Below w1.heap.size w1 w2) :
    w2.cell? ⟨g, 0, none⟩ = some c0 ∧ w2.cell? ⟨g, 1, none⟩ = some c1 ∧ w2.cell? ⟨g, 2, none⟩ = some c2 ∧ w2.cell? ⟨g, 3, none⟩ = some c3 ∧ w2.cell? ⟨g, 4, none⟩ = some c4 ∧ g < w2.heap.size ∧ B ≤ w2.heap.size ∧ Below B w w2 := by
  obtain ⟨q0, q1, q2, q3, q4, hlt, hB, hw⟩ := h
  obtain ⟨r0, r1, r2, r3, r4, hlt2⟩ := box_keep hb ⟨q0, q1, q2, q3, q4, hlt⟩
  exact ⟨r0, r1, r2, r3, r4, hlt2, Nat.le_trans hB hb.size, hw.trans (hb.mono hB)⟩

set_option maxHeartbeats 3200000 in
theorem walk (b0_0 : Int) (b0_1 : Int) (b0_2 : Int) (b0_3 : Int) (b0_4 : Int) (a1 : Int) (w : World) (w0_0 : (Lit.int .i64 b0_0).wf = true) (w0_1 : (Lit.int .i64 b0_1).wf = true) (w0_2 : (Lit.int .i64 b0_2).wf = true) (w0_3 : (Lit.int .i64 b0_3).wf = true) (w0_4 : (Lit.int .i64 b0_4).wf = true) (w1 : (Lit.int .i64 a1).wf = true) :
    Calls Try.prog 5 #[.agg #[.int .i64 b0_0, .int .i64 b0_1, .int .i64 b0_2, .int .i64 b0_3, .int .i64 b0_4], .int .i64 a1] w fun e w' => e = .returned (.bool true) ∧ Below w.heap.size w w' := by
  have s1 := sym_any b0_0 b0_1 b0_2 b0_3 b0_4
  have s2 := refSym_any b0_0 b0_1 b0_2 b0_3 b0_4
  have o1 := Of_any a1
  have o2 := refOf_any a1
  have c1 := check_any b0_0 b0_1 b0_2 b0_3 b0_4
  have c2 := refCheck_any b0_0 b0_1 b0_2 b0_3 b0_4
  have z1 := size_any b0_0 b0_1 b0_2 b0_3 b0_4
  have z2 := refSize_any b0_0 b0_1 b0_2 b0_3 b0_4
  generalize symTok b0_0 b0_1 b0_2 b0_3 b0_4 = S at s1 s2
  generalize szTok b0_0 b0_1 b0_2 b0_3 b0_4 = Z at z1 z2
  generalize chk b0_0 b0_1 b0_2 b0_3 b0_4 = C at s1 s2 c1 c2
  generalize ofK a1 = K at o1 o2
  generalize ofB a1 = B at o1 o2
  generalize ofR a1 = R at o1 o2
  generalize ofS a1 = SS at o1 o2
  generalize ofE a1 = E at o1 o2
  have S1 := Lib.hid s1; have S2 := Lib.hid s2; have O1 := Lib.hid o1; have O2 := Lib.hid o2; have C1 := Lib.hid c1; have C2 := Lib.hid c2; have Z1 := Lib.hid z1; have Z2 := Lib.hid z2
  clear s1 s2 o1 o2 c1 c2 z1 z2
  go_enter Try.func5, Try.ntmps5
  go_wp2_with fail
  refine (S1.out _).mono ?_; rintro e w1 ⟨rfl, hb1⟩
  obtain ⟨q0, q1, q2, q3, q4, hlt⟩ := box_start hb1
  have hc1 := below_box hb1; clear hb1
  go_wp2_with fail
  refine (S2.out _).mono ?_; rintro e w2 ⟨rfl, hb2⟩
  obtain ⟨r0, r1, r2, r3, r4, hlt2⟩ := box_keep hb2 ⟨q0, q1, q2, q3, q4, hlt⟩
  have hc2 := hc1.trans (hb2.mono hc1.size); clear hc1 hb2 q0 q1 q2 q3 q4 hlt
  go_wp2_with fail
  refine (O1.out _).mono ?_; rintro e w' ⟨rfl, rfl⟩
  go_wp2_with fail
  refine (O2.out _).mono ?_; rintro e w' ⟨rfl, rfl⟩
  go_wp2_with fail
  have hB : w.heap.size ≤ w2.heap.size := hc2.size
  go_region_held3 (fun w' => w'.cell? ⟨w.heap.size, 0, none⟩ = some (.int .i64 b0_0) ∧ w'.cell? ⟨w.heap.size, 1, none⟩ = some (.int .i64 b0_1) ∧ w'.cell? ⟨w.heap.size, 2, none⟩ = some (.int .i64 b0_2) ∧ w'.cell? ⟨w.heap.size, 3, none⟩ = some (.int .i64 b0_3) ∧ w'.cell? ⟨w.heap.size, 4, none⟩ = some (.int .i64 b0_4) ∧ w.heap.size < w'.heap.size ∧ w.heap.size ≤ w'.heap.size ∧ Below w.heap.size w w') (first | exact keepS (by assumption) (by assumption) | exact ⟨r0, r1, r2, r3, r4, hlt2, hB, hc2.drew⟩ | exact ⟨r0, r1, r2, r3, r4, hlt2, hB, hc2⟩ | go_keep) (first | (go_at_call 28; refine (C1.out _).mono ?_; rintro e wx ⟨rfl, hbx⟩) | (go_at_call 29; refine (C2.out _).mono ?_; rintro e wx ⟨rfl, hbx⟩) | (go_at_call 30; refine (Z1.out _).mono ?_; rintro e wx ⟨rfl, hbx⟩) | (go_at_call 31; refine (Z2.out _).mono ?_; rintro e wx ⟨rfl, hbx⟩) | (go_at_call 32; refine (awake16 _).mono ?_; rintro e wx ⟨rfl, hbx⟩))
  rename_i K hK v1 g1 v2 g2 v3 g3 v4 g4 hH
  simp only [Exit.then]
  refine hK _ _ ?_
  go_wp2_with fail
  go_ret
  exact ⟨rfl, hH.2.2.2.2.2.2.2⟩

theorem lifted (os : Os) (started : os.Started) (H : Type) (enc : TypeId × Value → H) :
    ReturnsInHanded {} Try.checked os 5 .any (Rows.tokenLooksSpec.pre6 enc Try.prog Try.f5 Rows.tokenLooksRow.domain false) (Rows.tokenLooksSpec.post enc Try.prog Try.f5 false true false false) := by
  refine returnsInHanded_of_change (C := Try.checked) own started (by kernel_rfl) Try.func5
    (ChangeSpec.witness6 (enc := enc) (C := Try.checked) false ⟨#[], #[.agg #[.int .i64 0, .int .i64 0, .int .i64 0, .int .i64 0, .int .i64 0], .int .i64 0], []⟩ 8 (by kernel_rfl) (by kernel_rfl) (by kernel_rfl) (by kernel_rfl)) ?_
  intro W base args ds gs before hval0 hW hcnd _
  have hval : ∀ (j : Nat) t v, Try.f5.params[j]? = some t → args[j]? = some v → Value.okWide Try.prog W .any base t v := hval0
  have hW' := hW
  obtain ⟨p, q, hA0, hV, rfl, hfz, hnd⟩ := hW
  have hA : DataW.TrodAll enc Try.prog W 0 (fun _ => true) true Try.f5.params.toList args.toList ds p := hA0
  rw [Try.params5] at hA hval
  obtain ⟨v0, vs0, d0, ds0, p0, q0, hargs, rfl, rfl, h0, r0⟩ := trodAll_cons hA
  obtain ⟨v1, vs1, d1, ds1, p1, q1, rfl, rfl, rfl, h1, r1⟩ := trodAll_cons r0
  obtain ⟨rfl, rfl, rfl⟩ := trodAll_nil r1
  obtain rfl : args = #[v0, v1] := by cases args; simp_all
  obtain ⟨rfl, rfl⟩ := trodVars_none hV
  have k0 := h0
  have lt0 : ∀ x ∈ p0, x.block < W.heap.size := by obtain ⟨m, hm⟩ := k0; exact DataW.trod_lt m _ _ _ hm
  obtain ⟨l, rfl, hl, hcs⟩ := agg_struct Try.underlying31 (by kernel_rfl) (by kernel_rfl) (hval 0 31 v0 rfl rfl) h0
  obtain ⟨x0, x1, x2, x3, x4, rfl⟩ := len5 l hl
  obtain ⟨n0, c, y, hc, hy⟩ := hcs 0 _ rfl
  simp only [List.getElem?_cons_zero, Option.some.injEq] at hc
  subst hc
  obtain ⟨b0_0, hc, -, w0_0⟩ := DataW.trod_int Try.underlying3 hy
  simp only [List.cons.injEq, and_true] at hc
  subst hc
  clear hy
  obtain ⟨n1, c, y, hc, hy⟩ := hcs 1 _ rfl
  simp only [List.getElem?_cons_zero, List.getElem?_cons_succ, Option.some.injEq] at hc
  subst hc
  obtain ⟨b0_1, hc, -, w0_1⟩ := DataW.trod_int Try.underlying3 hy
  simp only [List.cons.injEq, and_true] at hc
  subst hc
  clear hy
  obtain ⟨n2, c, y, hc, hy⟩ := hcs 2 _ rfl
  simp only [List.getElem?_cons_zero, List.getElem?_cons_succ, Option.some.injEq] at hc
  subst hc
  obtain ⟨b0_2, hc, -, w0_2⟩ := DataW.trod_int Try.underlying3 hy
  simp only [List.cons.injEq, and_true] at hc
  subst hc
  clear hy
  obtain ⟨n3, c, y, hc, hy⟩ := hcs 3 _ rfl
  simp only [List.getElem?_cons_zero, List.getElem?_cons_succ, Option.some.injEq] at hc
  subst hc
  obtain ⟨b0_3, hc, -, w0_3⟩ := DataW.trod_int Try.underlying3 hy
  simp only [List.cons.injEq, and_true] at hc
  subst hc
  clear hy
  obtain ⟨n4, c, y, hc, hy⟩ := hcs 4 _ rfl
  simp only [List.getElem?_cons_zero, List.getElem?_cons_succ, Option.some.injEq] at hc
  subst hc
  obtain ⟨b0_4, hc, -, w0_4⟩ := DataW.trod_int Try.underlying3 hy
  simp only [List.cons.injEq, and_true] at hc
  subst hc
  clear hy
  clear hl hcs
  have k1 := h1
  have lt1 : ∀ x ∈ p1, x.block < W.heap.size := by obtain ⟨m, hm⟩ := k1; exact DataW.trod_lt m _ _ _ hm
  obtain ⟨a1, rfl, rfl, rfl, w1⟩ := open_int Try.underlying3 (hval 1 3 v1 rfl rfl) h1
  clear hA0 hval0
  refine (walk b0_0 b0_1 b0_2 b0_3 b0_4 a1 W w0_0 w0_1 w0_2 w0_3 w0_4 w1).mono fun e W' ⟨he, bel⟩ => ?_
  subst he
  exact ⟨_, rfl, _, _, _, [], _, [], hW', trodAll_mk1 (shut_bool Try.underlying4 _), (trodAll_cons_mk (Below.trod laidOut (by kernel_rfl) (of_decide_eq_true (by kernel_rfl)) k0 bel lt0) (trodAll_cons_mk (Below.trod laidOut (by kernel_rfl) (of_decide_eq_true (by kernel_rfl)) k1 bel lt1) trodAll_mk0)), rfl, bel.frame _, fun h => by cases h⟩

theorem over : Rows.tokenLooksRow.holds Try.pinned (OpenSpec.ofChange Rows.tokenLooksSpec) :=
  OpenClaim.holds_of_wide 5 Try.f5 rfl rfl rfl rfl rfl rfl rfl ⟨rfl, rfl, rfl, rfl, rfl⟩ rfl rfl rfl rfl rfl (by kernel_rfl) Try.func5 (by kernel_rfl)
    (of_decide_eq_true (by kernel_rfl)) (by unfold Func.isWrapper; first | (rw [if_pos (by decide +kernel)]; kernel_rfl) | (rw [if_neg (by decide +kernel)]; exact ⟨rfl, rfl⟩))
    (fun os started H enc _ => lifted os started H enc)

theorem proved : Rows.TokenLooksSaid := over
#print axioms proved
end Go.Proofs.Ytmpmioffngonjaa.tokenLooks
