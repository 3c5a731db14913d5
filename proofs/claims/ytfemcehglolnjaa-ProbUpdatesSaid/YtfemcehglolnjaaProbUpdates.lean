/- It is proved that the law 'ProbUpdates' of the program returns true for every input, with no condition, and leaves what was handed in as it was. The frame was written by a program; the walk is by hand. -/
import Derived.Test.YtfemcehglolnjaaRows
import Derived.WalkKit
import Derived.ProofKit
import Derived.OpenShut
import Derived.ShutString
import Derived.ChangeOld
import Derived.Below
import Derived.Test.YtfemcehglolnjaaBase
import Derived.Deep.Grids
import Derived.Test.YtfemcehglolnjaaPs
namespace Go.Proofs.Ytfemcehglolnjaa.probUpdates
open Go.ChangeShapes Go.WideShapes Go.ChangeAt Go.RowKit Go.Deep
open Go.ChangeMaps (open_string shut_string)
set_option linter.unusedVariables false
set_option maxRecDepth 100000

theorem own : ownKnob Try.prog.godebug = none := by kernel_rfl
theorem laidOut : laidOutB Try.prog = true := by kernel_rfl

/-- What the walk is told of a slice of bools that came in. -/
def IsBools (w : World) (a : Option Addr) (len : Nat) (bs : List Bool) : Prop :=
  bs.length = len ∧ len ≤ maxLen ∧ (bs = [] ∨ ∃ x, a = some x ∧ ∀ i, i < bs.length → w.cell? (x.add i) = some (.bool (bs.getD i false)))



set_option maxHeartbeats 3200000 in
theorem walk (a0 : Int) (a1 : Option Addr) (len1 cap1 : Nat) (z1 : List Bool) (w : World) (w0 : (Lit.int .i64 a0).wf = true) (w1 : IsBools w a1 len1 z1) :
    Calls Try.prog 11 #[.int .i64 a0, .slice a1 len1 cap1] w fun e w' => e = .returned (.bool true) ∧ Below w.heap.size w w' := by
  obtain ⟨hn, hm, hr⟩ := w1
  have hrow : Row w a1 (bools z1) := by
    rcases hr with h | ⟨x, h, hc⟩
    · exact .inl (by rw [h]; rfl)
    · exact .inr ⟨x, h, fun i hi => by rw [bools_len] at hi; rw [bools_getD z1 i hi]; exact hc i hi⟩
  clear hr
  unfold maxLen at hm
  by_cases hs : 500 < len1
  · go_enter Try.func11, Try.ntmps11
    go_wp2_with fail
    refine (awake44 _).mono ?_; rintro e w3 ⟨rfl, hb3⟩
    go_wp2_with fail
    go_ret
    exact ⟨rfl, hb3⟩
  · have HN := Lib.hid hn; have HR := Lib.hid hrow
    have HL := Lib.hid (probsL_len z1)
    clear hn hrow
    have U : ∃ x y : Int, (∀ w, Calls Try.prog 35 #[.int .i64 a0, .bool false] w fun e w' => e = .returned (.tuple #[.int .i64 x, .int .i64 y]) ∧ w = w') ∧ (∀ w, Calls Try.prog 36 #[.int .i64 a0, .bool false] w fun e w' => e = .returned (.tuple #[.int .i64 x, .int .i64 y]) ∧ w = w') := by
      by_cases h : a0 < 1 ∨ 2048 ≤ a0
      · exact ⟨0, 2, update_out a0 false h, refUpdate_out a0 false h⟩
      · obtain ⟨p, rfl⟩ := Int.eq_ofNat_of_zero_le (show 0 ≤ a0 by omega)
        exact ⟨_, 0, update_in p false (by omega) (by omega), refUpdate_in p false (by omega) (by omega)⟩
    have V : ∃ x y : Int, (∀ w, Calls Try.prog 35 #[.int .i64 a0, .bool true] w fun e w' => e = .returned (.tuple #[.int .i64 x, .int .i64 y]) ∧ w = w') ∧ (∀ w, Calls Try.prog 36 #[.int .i64 a0, .bool true] w fun e w' => e = .returned (.tuple #[.int .i64 x, .int .i64 y]) ∧ w = w') := by
      by_cases h : a0 < 1 ∨ 2048 ≤ a0
      · exact ⟨0, 2, update_out a0 true h, refUpdate_out a0 true h⟩
      · obtain ⟨p, rfl⟩ := Int.eq_ofNat_of_zero_le (show 0 ≤ a0 by omega)
        exact ⟨_, 0, update_in p true (by omega) (by omega), refUpdate_in p true (by omega) (by omega)⟩
    obtain ⟨x0, y0, u1, u2⟩ := U
    obtain ⟨x1, y1, v1, v2⟩ := V
    have U1 := Lib.hid u1; have U2 := Lib.hid u2; have V1 := Lib.hid v1; have V2 := Lib.hid v2
    clear u1 u2 v1 v2
    go_enter Try.func11, Try.ntmps11
    go_wp2_with fail
    go_loop [5] (fun i => ∃ k : Nat, k ≤ 2 ∧ i = .int .i64 k) (fun i => 2 - (intOf i).toNat)
    case atStart => exact ⟨0, by omega, rfl⟩
    case round =>
      obtain ⟨k, hk, rfl⟩ := hrel
      rcases (show k = 0 ∨ k = 1 ∨ k = 2 by omega) with rfl | rfl | rfl
      · go_wp2_with fail
        refine (U1.out _).mono ?_; rintro e w' ⟨rfl, rfl⟩
        go_wp2_with fail
        refine (U2.out _).mono ?_; rintro e w' ⟨rfl, rfl⟩
        go_wp2
        go_round
        case rel => exact ⟨1, by omega, rfl⟩
        case measure => simp [intOf]
      · go_wp2_with fail
        refine (V1.out _).mono ?_; rintro e w' ⟨rfl, rfl⟩
        go_wp2_with fail
        refine (V2.out _).mono ?_; rintro e w' ⟨rfl, rfl⟩
        go_wp2
        go_round
        case rel => exact ⟨2, by omega, rfl⟩
        case measure => simp [intOf]
      · go_wp2_with fail
        refine (of_any a1 len1 cap1 z1 _ HN.out (by omega) HR.out).mono ?_; rintro e w1 ⟨v, rfl, hown1, hb1⟩
        go_wp2_with fail
        refine (refOf_any a1 len1 cap1 z1 _ HN.out (by omega) (HR.out.below hb1)).mono ?_; rintro e w2 ⟨v', rfl, hown2, hb2⟩
        obtain ⟨A, c, rfl, hrow1, hl1⟩ := row_of_own hown1
        obtain ⟨A', c', rfl, hrow2, hl2⟩ := row_of_own hown2
        have hrow1' := hrow1.below hb2
        have hbb : Below w.heap.size w w2 := hb1.trans (hb2.mono hb1.size)
        clear hown1 hown2 hb1 hb2 hrow1 hl1 hl2
        go_wp2_with fail
        refine (Ints_at true _ _ _ _ _ _ (probsL z1) (probsL z1) _ (by simp) rfl rfl (by rw [HL.out, HN.out]; omega) (by rw [HL.out, HN.out]; omega) hrow1' hrow2).mono ?_
        rintro e w3 ⟨rfl, hb3⟩
        have hb4 := hbb.trans (hb3.mono hbb.size)
        clear hbb hb3 hrow1' hrow2
        go_wp2_with fail
        refine (awake44 _).mono ?_; rintro e w4 ⟨rfl, hb5⟩
        go_wp2_with fail
        go_ret
        exact ⟨rfl, hb4.trans (hb5.mono hb4.size)⟩

theorem lifted (os : Os) (started : os.Started) (H : Type) (enc : TypeId × Value → H) :
    ReturnsInHanded {} Try.checked os 11 .any (Rows.probUpdatesSpec.pre6 enc Try.prog Try.f11 Rows.probUpdatesRow.domain false) (Rows.probUpdatesSpec.post enc Try.prog Try.f11 false true false false) := by
  refine returnsInHanded_of_change (C := Try.checked) own started (by kernel_rfl) Try.func11
    (ChangeSpec.witness6 (enc := enc) (C := Try.checked) false ⟨#[], #[.int .i64 0, .slice none 0 0], []⟩ 8 (by kernel_rfl) (by kernel_rfl) (by kernel_rfl) (by kernel_rfl)) ?_
  intro W base args ds gs before hval0 hW hcnd _
  have hval : ∀ (j : Nat) t v, Try.f11.params[j]? = some t → args[j]? = some v → Value.okWide Try.prog W .any base t v := hval0
  have hW' := hW
  obtain ⟨p, q, hA0, hV, rfl, hfz, hnd⟩ := hW
  have hA : DataW.TrodAll enc Try.prog W 0 (fun _ => true) true Try.f11.params.toList args.toList ds p := hA0
  rw [Try.params11] at hA hval
  obtain ⟨v0, vs0, d0, ds0, p0, q0, hargs, rfl, rfl, h0, r0⟩ := trodAll_cons hA
  obtain ⟨v1, vs1, d1, ds1, p1, q1, rfl, rfl, rfl, h1, r1⟩ := trodAll_cons r0
  obtain ⟨rfl, rfl, rfl⟩ := trodAll_nil r1
  obtain rfl : args = #[v0, v1] := by cases args; simp_all
  obtain ⟨rfl, rfl⟩ := trodVars_none hV
  have k0 := h0
  have lt0 : ∀ x ∈ p0, x.block < W.heap.size := by obtain ⟨m, hm⟩ := k0; exact DataW.trod_lt m _ _ _ hm
  obtain ⟨a0, rfl, rfl, rfl, w0⟩ := open_int Try.underlying3 (hval 0 3 v0 rfl rfl) h0
  obtain ⟨a1, len1, cap1, rfl⟩ := okWide_slice Try.underlying48 (hval 1 48 v1 rfl rfl)
  have k1 := h1
  have lt1 : ∀ x ∈ p1, x.block < W.heap.size := by obtain ⟨m, hm⟩ := k1; exact DataW.trod_lt m _ _ _ hm
  obtain ⟨z1, w1⟩ : ∃ zs, IsBools W a1 len1 zs := by
    obtain ⟨fuel, hf⟩ := h1
    rcases open_bools Try.underlying48 Try.underlying4 (by kernel_rfl) hf with ⟨hcs, _⟩ | ⟨x, l, c, B, hcs, _, hl, hm, _, hcell⟩
    · simp [Value.cells] at hcs
      obtain ⟨rfl, rfl, rfl⟩ := hcs
      exact ⟨[], rfl, Nat.zero_le _, .inl rfl⟩
    · simp [Value.cells] at hcs
      obtain ⟨rfl, rfl, rfl⟩ := hcs
      exact ⟨(List.range len1).map B, by simp, by omega, .inr ⟨_, rfl, fun i hi => by rw [hcell i (by simp at hi; omega)]; simp at hi; simp [List.getD, hi]⟩⟩
  clear hA0 hval0
  refine (walk a0 a1 len1 cap1 z1 W w0 w1).mono fun e W' ⟨he, bel⟩ => ?_
  subst he
  exact ⟨_, rfl, _, _, _, [], _, [], hW', trodAll_mk1 (shut_bool Try.underlying4 _), (trodAll_cons_mk (Below.trod laidOut (by kernel_rfl) (of_decide_eq_true (by kernel_rfl)) k0 bel lt0) (trodAll_cons_mk (Below.trod laidOut (by kernel_rfl) (of_decide_eq_true (by kernel_rfl)) k1 bel lt1) trodAll_mk0)), rfl, bel.frame _, fun h => by cases h⟩

theorem over : Rows.probUpdatesRow.holds Try.pinned (OpenSpec.ofChange Rows.probUpdatesSpec) :=
  OpenClaim.holds_of_wide 11 Try.f11 rfl rfl rfl rfl rfl rfl rfl ⟨rfl, rfl, rfl, rfl, rfl⟩ rfl rfl rfl rfl rfl (by kernel_rfl) Try.func11 (by kernel_rfl)
    (of_decide_eq_true (by kernel_rfl)) (by unfold Func.isWrapper; first | (rw [if_pos (by decide +kernel)]; kernel_rfl) | (rw [if_neg (by decide +kernel)]; exact ⟨rfl, rfl⟩))
    (fun os started H enc _ => lifted os started H enc)

theorem proved : Rows.ProbUpdatesSaid := over
#print axioms proved
end Go.Proofs.Ytfemcehglolnjaa.probUpdates
