/- It is proved that the law 'DenoteParts' of the program returns true for every input, with no condition, and leaves what was handed in as it was. The frame was written by a program; the walk is by hand. -/
import Derived.Test.YtjpmfaodkldobaaRows
import Derived.WalkKit
import Derived.ProofKit
import Derived.OpenShut
import Derived.ShutString
import Derived.ChangeOld
import Derived.Below
import Derived.Test.YtjpmfaodkldobaaBase
import Derived.Test.YtjpmfaodkldobaaB2
import Derived.Test.YtjpmfaodkldobaaB3
import Derived.Test.YtjpmfaodkldobaaT18
namespace Go.Proofs.Ytjpmfaodkldobaa.denoteParts
open Go.ChangeShapes Go.WideShapes Go.ChangeAt Go.RowKit Go.Deep
open Go.ChangeMaps (open_string shut_string)
set_option linter.unusedVariables false
set_option linter.unusedSimpArgs false
set_option maxRecDepth 100000

theorem own : ownKnob Try.prog.godebug = none := by kernel_rfl
theorem laidOut : laidOutB Try.prog = true := by kernel_rfl

/-- What the walk is told of the slice of structs that came in at place 0_2: nil, or elements at their places. -/
def IsRows0_2 (w : World) (a : Option Addr) (len cap : Nat) (F0 : Nat → Int) (F1 : Nat → Int) (F2 : Nat → Int) (F3 : Nat → Int) (F4 : Nat → Int) : Prop :=
  (a = none ∧ len = 0 ∧ cap = 0) ∨ ∃ x, a = some x ∧ len ≤ cap ∧ cap ≤ maxLen ∧ ∀ i, i < len → (w.cell? ((x.add (i * 5)).add 0) = some (.int .i64 (F0 i)) ∧ (Lit.int .i64 (F0 i)).wf = true) ∧ (w.cell? ((x.add (i * 5)).add 1) = some (.int .i64 (F1 i)) ∧ (Lit.int .i64 (F1 i)).wf = true) ∧ (w.cell? ((x.add (i * 5)).add 2) = some (.int .i64 (F2 i)) ∧ (Lit.int .i64 (F2 i)).wf = true) ∧ (w.cell? ((x.add (i * 5)).add 3) = some (.int .i64 (F3 i)) ∧ (Lit.int .i64 (F3 i)).wf = true) ∧ (w.cell? ((x.add (i * 5)).add 4) = some (.int .i64 (F4 i)) ∧ (Lit.int .i64 (F4 i)).wf = true)



set_option maxHeartbeats 1600000 in
theorem walk (b0_0 : ByteArray) (b0_1_0 : Int) (b0_1_1 : Int) (b0_1_2 : Int) (b0_1_3 : Int) (s0_2 : Option Addr) (len0_2 cap0_2 : Nat) (F0_2_0 : Nat → Int) (F0_2_1 : Nat → Int) (F0_2_2 : Nat → Int) (F0_2_3 : Nat → Int) (F0_2_4 : Nat → Int) (b0_3 : Int) (a1 : Int) (w : World) (w0_0 : b0_0.size ≤ maxLen) (w0_1_0 : (Lit.int .i64 b0_1_0).wf = true) (w0_1_1 : (Lit.int .i64 b0_1_1).wf = true) (w0_1_2 : (Lit.int .i64 b0_1_2).wf = true) (w0_1_3 : (Lit.int .i64 b0_1_3).wf = true) (w0_2 : IsRows0_2 w s0_2 len0_2 cap0_2 F0_2_0 F0_2_1 F0_2_2 F0_2_3 F0_2_4) (w0_3 : (Lit.int .i64 b0_3).wf = true) (w1 : (Lit.int .u8 a1).wf = true) :
    Calls Try.prog 6 #[.agg #[.string b0_0, .int .i64 b0_1_0, .int .i64 b0_1_1, .int .i64 b0_1_2, .int .i64 b0_1_3, .slice s0_2 len0_2 cap0_2, .int .i64 b0_3], .int .u8 a1] w fun e w' => e = .returned (.bool true) ∧ Below w.heap.size w w' := by
  obtain ⟨h0, h255⟩ : 0 ≤ a1 ∧ a1 ≤ 255 := by
    have := w1
    simp [Lit.wf, IntKind.min, IntKind.max, IntKind.bits, IntKind.signed] at this
    omega
  obtain ⟨A, rfl⟩ : ∃ A : Nat, a1 = A := ⟨a1.toNat, by omega⟩
  by_cases h1 : 500 < b0_0.size
  · go_enter Try.func6, Try.ntmps6
    go_wp2_with fail
    refine (awake18 _).mono ?_; rintro e w1 ⟨rfl, hb⟩
    have hb := below_box hb
    go_wp2_with fail
    go_ret
    exact ⟨rfl, hb⟩
  · have hH : b0_0.data.toList.length ≤ 500 := by rw [Array.length_toList]; exact Nat.le_of_not_lt h1
    rcases w0_2 with ⟨rfl, rfl, rfl⟩ | ⟨x, rfl, hlc, hcm, hr⟩
    · have h := parts_none b0_0.data.toList ⟨b0_1_0, b0_1_1, b0_1_2, b0_1_3⟩ b0_3 A w (by omega) hH
      rw [sOf_self] at h
      exact h
    · obtain ⟨l, hl, hrow⟩ : ∃ l : List Tk, l.length = len0_2 ∧ IsTk w (some x) l :=
        ⟨rowTk F0_2_0 F0_2_1 F0_2_2 F0_2_3 F0_2_4 len0_2, rowTk_len _ _ _ _ _ _, rowTk_is fun i hi => ⟨(hr i hi).1.1, (hr i hi).2.1.1, (hr i hi).2.2.1.1, (hr i hi).2.2.2.1.1, (hr i hi).2.2.2.2.1⟩⟩
      subst hl
      clear hr
      by_cases h2 : 60 < l.length
      · go_enter Try.func6, Try.ntmps6
        go_wp2_with fail
        refine (awake18 _).mono ?_; rintro e w1 ⟨rfl, hb⟩
        have hb := below_box hb
        go_wp2_with fail
        go_ret
        exact ⟨rfl, hb⟩
      · have h := parts_walk b0_0.data.toList ⟨b0_1_0, b0_1_1, b0_1_2, b0_1_3⟩ x cap0_2 l b0_3 A w (by omega) hrow hlc (by unfold maxLen at hcm; omega) hH (by omega)
        rw [sOf_self] at h
        exact h

theorem lifted (os : Os) (started : os.Started) (H : Type) (enc : TypeId × Value → H) :
    ReturnsInHanded {} Try.checked os 6 .any (Rows.denotePartsSpec.pre6 enc Try.prog Try.f6 Rows.denotePartsRow.domain false) (Rows.denotePartsSpec.post enc Try.prog Try.f6 false true false false) := by
  refine returnsInHanded_of_change (C := Try.checked) own started (by kernel_rfl) Try.func6
    (ChangeSpec.witness6 (enc := enc) (C := Try.checked) false ⟨#[], #[.agg #[.string ByteArray.empty, .int .i64 0, .int .i64 0, .int .i64 0, .int .i64 0, .slice none 0 0, .int .i64 0], .int .u8 0], []⟩ 8 (by kernel_rfl) (by kernel_rfl) (by kernel_rfl) (by kernel_rfl)) ?_
  intro W base args ds gs before hval0 hW hcnd _
  have hval : ∀ (j : Nat) t v, Try.f6.params[j]? = some t → args[j]? = some v → Value.okWide Try.prog W .any base t v := hval0
  have hW' := hW
  obtain ⟨p, q, hA0, hV, rfl, hfz, hnd⟩ := hW
  have hA : DataW.TrodAll enc Try.prog W 0 (fun _ => true) true Try.f6.params.toList args.toList ds p := hA0
  rw [Try.params6] at hA hval
  obtain ⟨v0, vs0, d0, ds0, p0, q0, hargs, rfl, rfl, h0, r0⟩ := trodAll_cons hA
  obtain ⟨v1, vs1, d1, ds1, p1, q1, rfl, rfl, rfl, h1, r1⟩ := trodAll_cons r0
  obtain ⟨rfl, rfl, rfl⟩ := trodAll_nil r1
  obtain rfl : args = #[v0, v1] := by cases args; simp_all
  obtain ⟨rfl, rfl⟩ := trodVars_none hV
  have k0 := h0
  have lt0 : ∀ x ∈ p0, x.block < W.heap.size := by obtain ⟨m, hm⟩ := k0; exact DataW.trod_lt m _ _ _ hm
  obtain ⟨l, rfl, hl, hcs⟩ := agg_wide Try.underlying44 (m := 7) (by kernel_rfl) (hval 0 44 v0 rfl rfl) h0
  obtain ⟨x0, x1, x2, x3, x4, x5, x6, rfl⟩ := len7 l hl
  obtain ⟨n0, y, hy⟩ := hcs 0 _ rfl
  change DataW.trod enc Try.prog W 0 (fun _ => true) true n0 9 (List.take (Try.prog.cellsOf 9) (List.drop 0 _)) = some y at hy
  rw [show Try.prog.cellsOf 9 = 1 from by kernel_rfl] at hy
  simp only [List.drop_succ_cons, List.drop_zero, List.take_succ_cons, List.take_zero] at hy
  obtain ⟨b0_0, hc, -, w0_0⟩ := DataW.trod_string Try.underlying9 hy
  simp only [List.cons.injEq, and_true] at hc
  subst hc
  clear hy
  obtain ⟨n1, y, hy⟩ := hcs 1 _ rfl
  change DataW.trod enc Try.prog W 0 (fun _ => true) true n1 41 (List.take (Try.prog.cellsOf 41) (List.drop 1 _)) = some y at hy
  rw [show Try.prog.cellsOf 41 = 4 from by kernel_rfl] at hy
  simp only [List.drop_succ_cons, List.drop_zero, List.take_succ_cons, List.take_zero] at hy
  have ha := arr_one Try.underlying41 (by kernel_rfl) hy rfl
  obtain ⟨n, c, z, hc, hz⟩ := ha 0 (by decide)
  simp only [List.getElem?_cons_zero, Option.some.injEq] at hc
  subst hc
  obtain ⟨b0_1_0, hc, -, w0_1_0⟩ := DataW.trod_int Try.underlying3 hz
  clear hz
  simp only [List.cons.injEq, and_true] at hc
  subst hc
  obtain ⟨n, c, z, hc, hz⟩ := ha 1 (by decide)
  simp only [List.getElem?_cons_zero, List.getElem?_cons_succ, Option.some.injEq] at hc
  subst hc
  obtain ⟨b0_1_1, hc, -, w0_1_1⟩ := DataW.trod_int Try.underlying3 hz
  clear hz
  simp only [List.cons.injEq, and_true] at hc
  subst hc
  obtain ⟨n, c, z, hc, hz⟩ := ha 2 (by decide)
  simp only [List.getElem?_cons_zero, List.getElem?_cons_succ, Option.some.injEq] at hc
  subst hc
  obtain ⟨b0_1_2, hc, -, w0_1_2⟩ := DataW.trod_int Try.underlying3 hz
  clear hz
  simp only [List.cons.injEq, and_true] at hc
  subst hc
  obtain ⟨n, c, z, hc, hz⟩ := ha 3 (by decide)
  simp only [List.getElem?_cons_zero, List.getElem?_cons_succ, Option.some.injEq] at hc
  subst hc
  obtain ⟨b0_1_3, hc, -, w0_1_3⟩ := DataW.trod_int Try.underlying3 hz
  clear hz
  simp only [List.cons.injEq, and_true] at hc
  subst hc
  clear ha hy
  obtain ⟨n2, y, hy⟩ := hcs 2 _ rfl
  change DataW.trod enc Try.prog W 0 (fun _ => true) true n2 42 (List.take (Try.prog.cellsOf 42) (List.drop 5 _)) = some y at hy
  rw [show Try.prog.cellsOf 42 = 1 from by kernel_rfl] at hy
  simp only [List.drop_succ_cons, List.drop_zero, List.take_succ_cons, List.take_zero] at hy
  obtain ⟨s0_2, len0_2, cap0_2, F0_2_0, F0_2_1, F0_2_2, F0_2_3, F0_2_4, hc, w0_2⟩ : ∃ (a : Option Addr) (len cap : Nat) (F0 : Nat → Int) (F1 : Nat → Int) (F2 : Nat → Int) (F3 : Nat → Int) (F4 : Nat → Int), [x5] = [.slice a len cap] ∧ IsRows0_2 W a len cap F0 F1 F2 F3 F4 := by
    rcases open_rows Try.underlying42 Try.underlying53 (by kernel_rfl) (by kernel_rfl) hy with hcs | ⟨x, l, c, hcs, hl, hm, hr⟩
    · exact ⟨none, 0, 0, fun _ => 0, fun _ => 0, fun _ => 0, fun _ => 0, fun _ => 0, hcs, .inl ⟨rfl, rfl, rfl⟩⟩
    · obtain ⟨G0, g0⟩ := hr.int 0 _ rfl Try.underlying3
      obtain ⟨G1, g1⟩ := hr.int 1 _ rfl Try.underlying3
      obtain ⟨G2, g2⟩ := hr.int 2 _ rfl Try.underlying3
      obtain ⟨G3, g3⟩ := hr.int 3 _ rfl Try.underlying3
      obtain ⟨G4, g4⟩ := hr.int 4 _ rfl Try.underlying3
      exact ⟨_, _, _, G0, G1, G2, G3, G4, hcs, .inr ⟨_, rfl, hl, hm, fun i hi => ⟨g0 i hi, g1 i hi, g2 i hi, g3 i hi, g4 i hi⟩⟩⟩
  simp only [List.cons.injEq, and_true] at hc
  subst hc
  clear hy
  obtain ⟨n3, y, hy⟩ := hcs 3 _ rfl
  change DataW.trod enc Try.prog W 0 (fun _ => true) true n3 3 (List.take (Try.prog.cellsOf 3) (List.drop 6 _)) = some y at hy
  rw [show Try.prog.cellsOf 3 = 1 from by kernel_rfl] at hy
  simp only [List.drop_succ_cons, List.drop_zero, List.take_succ_cons, List.take_zero] at hy
  obtain ⟨b0_3, hc, -, w0_3⟩ := DataW.trod_int Try.underlying3 hy
  simp only [List.cons.injEq, and_true] at hc
  subst hc
  clear hy
  clear hl hcs
  have k1 := h1
  have lt1 : ∀ x ∈ p1, x.block < W.heap.size := by obtain ⟨m, hm⟩ := k1; exact DataW.trod_lt m _ _ _ hm
  obtain ⟨a1, rfl, rfl, rfl, w1⟩ := open_int Try.underlying5 (hval 1 5 v1 rfl rfl) h1
  clear hA0 hval0
  refine (walk b0_0 b0_1_0 b0_1_1 b0_1_2 b0_1_3 s0_2 len0_2 cap0_2 F0_2_0 F0_2_1 F0_2_2 F0_2_3 F0_2_4 b0_3 a1 W w0_0 w0_1_0 w0_1_1 w0_1_2 w0_1_3 w0_2 w0_3 w1).mono fun e W' ⟨he, bel⟩ => ?_
  subst he
  exact ⟨_, rfl, _, _, _, [], _, [], hW', trodAll_mk1 (shut_bool Try.underlying4 _), (trodAll_cons_mk (Below.trod laidOut (by kernel_rfl) (of_decide_eq_true (by kernel_rfl)) k0 bel lt0) (trodAll_cons_mk (Below.trod laidOut (by kernel_rfl) (of_decide_eq_true (by kernel_rfl)) k1 bel lt1) trodAll_mk0)), rfl, bel.frame _, fun h => by cases h⟩

theorem over : Rows.denotePartsRow.holds Try.pinned (OpenSpec.ofChange Rows.denotePartsSpec) :=
  OpenClaim.holds_of_wide 6 Try.f6 rfl rfl rfl rfl rfl rfl rfl ⟨rfl, rfl, rfl, rfl, rfl⟩ rfl rfl rfl rfl rfl (by kernel_rfl) Try.func6 (by kernel_rfl)
    (of_decide_eq_true (by kernel_rfl)) (by unfold Func.isWrapper; first | (rw [if_pos (by decide +kernel)]; kernel_rfl) | (rw [if_neg (by decide +kernel)]; exact ⟨rfl, rfl⟩))
    (fun os started H enc _ => lifted os started H enc)

theorem proved : Rows.DenotePartsSaid := over
#print axioms proved
end Go.Proofs.Ytjpmfaodkldobaa.denoteParts
