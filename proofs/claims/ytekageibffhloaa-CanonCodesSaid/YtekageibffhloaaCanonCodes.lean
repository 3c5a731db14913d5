/- It is proved that the law 'CanonCodes' of the program returns true for every input, with no condition, and leaves what was handed in as it was. The frame was written by a program; the walk is by hand. -/
import Derived.Test.YtekageibffhloaaRows
import Derived.WalkKit
import Derived.ProofKit
import Derived.OpenShut
import Derived.ShutString
import Derived.ChangeOld
import Derived.Below
import Derived.Test.YtekageibffhloaaBase
import Derived.Test.YtekageibffhloaaCh
namespace Go.Proofs.Ytekageibffhloaa.canonCodes
open Go.ChangeShapes Go.WideShapes Go.ChangeAt Go.RowKit Go.Deep
open Go.ChangeMaps (open_string shut_string)
set_option linter.unusedVariables false
set_option maxRecDepth 100000

theorem own : ownKnob Try.prog.godebug = none := by kernel_rfl
theorem laidOut : laidOutB Try.prog = true := by kernel_rfl

/-- What the walk is told of a slice of integers that came in: nil, or a row of 'cap' cells that hold the numbers zs, each fitting its kind. -/
def IsRow (k : IntKind) (w : World) (a : Option Addr) (len cap : Nat) (zs : List Int) : Prop :=
  (a = none ∧ len = 0 ∧ cap = 0 ∧ zs = []) ∨
  ∃ x, a = some x ∧ len ≤ cap ∧ cap ≤ maxLen ∧ zs.length = cap ∧ (∀ i, i < zs.length → w.cell? (x.add i) = some (.int k (zs.getD i 0))) ∧ ∀ n ∈ zs, (Lit.int k n).wf = true

open KraftMath CanonMath TurnMath
theorem ints_of {w : World} {a : Option Addr} {len cap : Nat} {zs : List Int} (h : IsRow .i64 w a len cap zs) : ∃ l : List Int, l.length = len ∧ len ≤ maxLen ∧ (l.length ≤ 70368744177664 → IsInts w a l) := by
  rcases h with ⟨rfl, rfl, rfl, rfl⟩ | ⟨x, rfl, hlc, hcm, hz, hc, -⟩
  · exact ⟨[], rfl, Nat.zero_le _, fun _ => ⟨by simp, .inl rfl⟩⟩
  · have e : (zs.take len).length = len := by rw [List.length_take]; omega
    refine ⟨zs.take len, e, by omega, fun h11 => ⟨by omega, .inr ⟨x, rfl, fun i hi => ?_⟩⟩⟩
    rw [e] at hi
    rw [hc i (by omega)]
    simp [List.getD, hi]
theorem tellsR {F : Value → Value} {r : List Int} {w w' : World} {e : Ending} (h : Tells F r w e w') : ∃ v', e = .returned (F v') ∧ IsL w' v' r ∧ Below w.heap.size w w' := h
theorem in_walk (a0 : Option Addr) (c0 : Nat) (l : List Int) (c n : Int) (w : World) (h0 : IsInts w a0 l) (hl : l.length ≤ 1100) :
    Calls Try.prog 3 #[.slice a0 l.length c0, .int .i64 c, .int .i64 n] w fun e w' => e = .returned (.bool true) ∧ Below w.heap.size w w' := by
  obtain ⟨E, hE⟩ : ∃ E, check l 16 = E := ⟨_, rfl⟩
  obtain ⟨R, hR⟩ : ∃ R, codesL l = R := ⟨_, rfl⟩
  obtain ⟨O, hO⟩ : ∃ O, orderL l = O := ⟨_, rfl⟩
  obtain ⟨V, hV⟩ : ∃ V, turnI c n = V := ⟨_, rfl⟩
  have C1 := fun w (h : IsInts w a0 l) => codesT a0 c0 l R E w h hR hE
  have C2 := fun w (h : IsInts w a0 l) => rCodes a0 c0 l w h hl
  rw [hR, hE] at C2
  have C3 := fun w (h : IsInts w a0 l) => orderT a0 c0 l O w h hO
  have C4 := fun w (h : IsInts w a0 l) => rOrder a0 c0 l w h hl
  rw [hO] at C4
  have C5 := bTurnedA c n V hV
  have C6 := bRefA c n V hV
  have hOl : O.length ≤ 70368744177664 := by
    rw [← hO]; unfold orderL; split
    · have := ordTo_len l 16; omega
    · simp
  have C1_ := Lib.hid C1
  have C2_ := Lib.hid C2
  have C3_ := Lib.hid C3
  have C4_ := Lib.hid C4
  have C5_ := Lib.hid C5
  have C6_ := Lib.hid C6
  have h0_ := Lib.hid h0
  clear C1 C2 C3 C4 C5 C6 h0
  clear hE hR hO hV
  go_enter Try.func3, Try.ntmps3
  go_wp2_with fail
  refine (C1_.out w h0_.out).mono ?_; rintro e w1 ⟨v1, rfl, h1, hb⟩
  have hI := Lib.hid (h0_.out.kept hb)
  have h1_ := Lib.hid h1
  clear h1
  go_wp2_with fail
  refine (C2_.out w1 hI.out).mono ?_; rintro e w2 ⟨v2, rfl, h2, hb2⟩
  have h1 := Lib.hid (h1_.out.kept hb2)
  have hI := Lib.hid (hI.out.kept hb2)
  have hb := hb.trans (hb2.mono hb.size)
  have h2_ := Lib.hid h2
  clear h2
  clear hb2 h1_
  go_wp2_with fail
  refine (intsB h1.out h2_.out true (by simp)).mono ?_; rintro e w3 ⟨rfl, hb2⟩
  have hI := Lib.hid (hI.out.kept hb2)
  have hb := hb.trans (hb2.mono hb.size)
  clear hb2 h1 h2_
  go_wp2_with fail
  refine (C3_.out w3 hI.out).mono ?_; rintro e w4 ⟨v4, rfl, h4, hb2⟩
  have hI := Lib.hid (hI.out.kept hb2)
  have hb := hb.trans (hb2.mono hb.size)
  have h4_ := Lib.hid h4
  clear h4
  clear hb2
  go_wp2_with fail
  refine (C4_.out w4 hI.out).mono ?_; rintro e w5 ⟨v5, rfl, h5, hb2⟩
  have h4 := Lib.hid (h4_.out.kept hb2)
  have hb := hb.trans (hb2.mono hb.size)
  have h5 := Lib.hid (h5.isL hOl)
  clear hb2 h4_
  go_wp2_with fail
  refine (intsB h4.out h5.out true (by simp)).mono ?_; rintro e w6 ⟨rfl, hb2⟩
  have hb := hb.trans (hb2.mono hb.size)
  clear hb2 h4 h5
  go_wp2_with fail
  refine (C5_.out w6).mono ?_; rintro e w7 ⟨rfl, rfl⟩
  go_wp2_with fail
  refine (C6_.out w7).mono ?_; rintro e w8 ⟨rfl, rfl⟩
  go_wp2_with fail
  refine (awake08 _).mono ?_; rintro e w9 ⟨rfl, hb2⟩
  go_wp2_with fail
  go_ret
  exact ⟨rfl, hb.trans (hb2.mono hb.size)⟩

set_option maxHeartbeats 3200000 in
theorem walk (a0 : Option Addr) (len0 cap0 : Nat) (z0 : List Int) (a1 : Int) (a2 : Int) (w : World) (w0 : IsRow .i64 w a0 len0 cap0 z0) (w1 : (Lit.int .i64 a1).wf = true) (w2 : (Lit.int .i64 a2).wf = true) :
    Calls Try.prog 3 #[.slice a0 len0 cap0, .int .i64 a1, .int .i64 a2] w fun e w' => e = .returned (.bool true) ∧ Below w.heap.size w w' := by
  obtain ⟨l, hl, hmax, h0⟩ := ints_of w0
  clear w0 w1 w2
  subst hl
  by_cases hlong : 1100 < l.length
  · unfold maxLen at hmax
    go_enter Try.func3, Try.ntmps3
    go_wp2_with fail
    refine (awake08 _).mono ?_; rintro e w1 ⟨rfl, hb⟩
    go_wp2_with fail
    go_ret
    exact ⟨rfl, hb⟩
  · exact in_walk a0 cap0 l a1 a2 w (h0 (by omega)) (by omega)

theorem lifted (os : Os) (started : os.Started) (H : Type) (enc : TypeId × Value → H) :
    ReturnsInHanded {} Try.checked os 3 .any (Rows.canonCodesSpec.pre6 enc Try.prog Try.f3 Rows.canonCodesRow.domain false) (Rows.canonCodesSpec.post enc Try.prog Try.f3 false true false false) := by
  refine returnsInHanded_of_change (C := Try.checked) own started (by kernel_rfl) Try.func3
    (ChangeSpec.witness6 (enc := enc) (C := Try.checked) false ⟨#[], #[.slice none 0 0, .int .i64 0, .int .i64 0], []⟩ 8 (by kernel_rfl) (by kernel_rfl) (by kernel_rfl) (by kernel_rfl)) ?_
  intro W base args ds gs before hval0 hW hcnd _
  have hval : ∀ (j : Nat) t v, Try.f3.params[j]? = some t → args[j]? = some v → Value.okWide Try.prog W .any base t v := hval0
  have hW' := hW
  obtain ⟨p, q, hA0, hV, rfl, hfz, hnd⟩ := hW
  have hA : DataW.TrodAll enc Try.prog W 0 (fun _ => true) true Try.f3.params.toList args.toList ds p := hA0
  rw [Try.params3] at hA hval
  obtain ⟨v0, vs0, d0, ds0, p0, q0, hargs, rfl, rfl, h0, r0⟩ := trodAll_cons hA
  obtain ⟨v1, vs1, d1, ds1, p1, q1, rfl, rfl, rfl, h1, r1⟩ := trodAll_cons r0
  obtain ⟨v2, vs2, d2, ds2, p2, q2, rfl, rfl, rfl, h2, r2⟩ := trodAll_cons r1
  obtain ⟨rfl, rfl, rfl⟩ := trodAll_nil r2
  obtain rfl : args = #[v0, v1, v2] := by cases args; simp_all
  obtain ⟨rfl, rfl⟩ := trodVars_none hV
  obtain ⟨a0, len0, cap0, rfl⟩ := okWide_slice Try.underlying22 (hval 0 22 v0 rfl rfl)
  have k0 := h0
  have lt0 : ∀ x ∈ p0, x.block < W.heap.size := by obtain ⟨m, hm⟩ := k0; exact DataW.trod_lt m _ _ _ hm
  obtain ⟨z0, w0⟩ : ∃ zs, IsRow .i64 W a0 len0 cap0 zs := by
    obtain ⟨fuel, hf⟩ := h0
    rcases open_ints Try.underlying22 Try.underlying3 (by kernel_rfl) hf with ⟨hcs, _⟩ | ⟨x, l, c, zs, hcs, _, hl, hm, hz, _, hcell, hwz⟩
    · simp [Value.cells] at hcs
      obtain ⟨rfl, rfl, rfl⟩ := hcs
      exact ⟨[], .inl ⟨rfl, rfl, rfl, rfl⟩⟩
    · simp [Value.cells] at hcs
      obtain ⟨rfl, rfl, rfl⟩ := hcs
      exact ⟨zs, .inr ⟨_, rfl, hl, hm, by simpa using hz, hcell, hwz⟩⟩
  have k1 := h1
  have lt1 : ∀ x ∈ p1, x.block < W.heap.size := by obtain ⟨m, hm⟩ := k1; exact DataW.trod_lt m _ _ _ hm
  obtain ⟨a1, rfl, rfl, rfl, w1⟩ := open_int Try.underlying3 (hval 1 3 v1 rfl rfl) h1
  have k2 := h2
  have lt2 : ∀ x ∈ p2, x.block < W.heap.size := by obtain ⟨m, hm⟩ := k2; exact DataW.trod_lt m _ _ _ hm
  obtain ⟨a2, rfl, rfl, rfl, w2⟩ := open_int Try.underlying3 (hval 2 3 v2 rfl rfl) h2
  clear hA0 hval0
  refine (walk a0 len0 cap0 z0 a1 a2 W w0 w1 w2).mono fun e W' ⟨he, bel⟩ => ?_
  subst he
  exact ⟨_, rfl, _, _, _, [], _, [], hW', trodAll_mk1 (shut_bool Try.underlying4 _), (trodAll_cons_mk (Below.trod laidOut (by kernel_rfl) (of_decide_eq_true (by kernel_rfl)) k0 bel lt0) (trodAll_cons_mk (Below.trod laidOut (by kernel_rfl) (of_decide_eq_true (by kernel_rfl)) k1 bel lt1) (trodAll_cons_mk (Below.trod laidOut (by kernel_rfl) (of_decide_eq_true (by kernel_rfl)) k2 bel lt2) trodAll_mk0))), rfl, bel.frame _, fun h => by cases h⟩

theorem over : Rows.canonCodesRow.holds Try.pinned (OpenSpec.ofChange Rows.canonCodesSpec) :=
  OpenClaim.holds_of_wide 3 Try.f3 rfl rfl rfl rfl rfl rfl rfl ⟨rfl, rfl, rfl, rfl, rfl⟩ rfl rfl rfl rfl rfl (by kernel_rfl) Try.func3 (by kernel_rfl)
    (of_decide_eq_true (by kernel_rfl)) (by unfold Func.isWrapper; first | (rw [if_pos (by decide +kernel)]; kernel_rfl) | (rw [if_neg (by decide +kernel)]; exact ⟨rfl, rfl⟩))
    (fun os started H enc _ => lifted os started H enc)

theorem proved : Rows.CanonCodesSaid := over
#print axioms proved
end Go.Proofs.Ytekageibffhloaa.canonCodes
