/- It is proved that the law 'ZerosPacks' of the program returns true for every input, with no condition, and leaves what was handed in as it was. The frame was written by a program; the walk is by hand. -/
import Derived.Test.YtekageibffhloaaRows
import Derived.WalkKit
import Derived.ProofKit
import Derived.OpenShut
import Derived.ShutString
import Derived.ChangeOld
import Derived.Below
import Derived.Test.YtekageibffhloaaBase
import Derived.Test.YtekageibffhloaaZw
namespace Go.Proofs.Ytekageibffhloaa.zerosPacks
open Go.ChangeShapes Go.WideShapes Go.ChangeAt Go.RowKit Go.Deep
open Go.ChangeMaps (open_string shut_string)
set_option linter.unusedVariables false
set_option maxRecDepth 100000

theorem own : ownKnob Try.prog.godebug = none := by kernel_rfl
theorem laidOut : laidOutB Try.prog = true := by kernel_rfl

/-- What the walk is told of a slice of integers that came in: nil, or a row of 'cap' cells that hold the numbers zs, each fitting its kind. -/
def IsRow (k : IntKind) (w : World) (a : Option Addr) (len cap : Nat) (zs : List Int) : Prop :=
  (a = none ∧ len = 0 ∧ cap = 0 ∧ zs = []) ∨
  ∃ x, a = some x ∧ len ≤ cap ∧ cap ≤ maxLen ∧ zs.length = cap ∧ (∀ i, i < zs.length → w.cell? (x.add i) = some (.int k (zs.getD i 0))) ∧ ∀ n ∈ zs, (Lit.int k n).wf = true

open ZerosMath
theorem ints_of {w : World} {a : Option Addr} {len cap : Nat} {zs : List Int} (h : IsRow .i64 w a len cap zs) : ∃ l : List Int, l.length = len ∧ len ≤ maxLen ∧ (l.length ≤ 4000 → IsInts w a l) := by
  rcases h with ⟨rfl, rfl, rfl, rfl⟩ | ⟨x, rfl, hlc, hcm, hz, hc, -⟩
  · exact ⟨[], rfl, Nat.zero_le _, fun _ => ⟨by simp, .inl rfl⟩⟩
  · have e : (zs.take len).length = len := by rw [List.length_take]; omega
    refine ⟨zs.take len, e, by omega, fun h11 => ⟨by omega, .inr ⟨x, rfl, fun i hi => ?_⟩⟩⟩
    rw [e] at hi
    rw [hc i (by omega)]
    simp [List.getD, hi]
set_option maxHeartbeats 1600000 in
theorem in_walk (a0 : Option Addr) (c0 : Nat) (l : List Int) (a1 : Option Addr) (c1 : Nat) (m : List Int) (w : World) (h0 : IsInts w a0 l) (h1 : IsInts w a1 m) (hl : l.length ≤ 1000) (hm : m.length ≤ 60) :
    Calls Try.prog 12 #[.slice a0 l.length c0, .slice a1 m.length c1] w fun e w' => e = .returned (.bool true) ∧ Below w.heap.size w w' := by
  have g0 : IsL w (.slice a0 l.length c0) l := ⟨_, _, rfl, h0⟩
  have g1 : IsL w (.slice a1 m.length c1) m := ⟨_, _, rfl, h1⟩
  clear h0 h1
  obtain ⟨PE, hPE⟩ : ∃ E, packE l = E := ⟨_, rfl⟩
  obtain ⟨PR, hPR⟩ : ∃ E, packR l = E := ⟨_, rfl⟩
  obtain ⟨UE, hUE⟩ : ∃ E, unE m = E := ⟨_, rfl⟩
  obtain ⟨UR, hUR⟩ : ∃ E, unR m = E := ⟨_, rfl⟩
  have C1 := fun w (h : IsL w (.slice a0 l.length c0) l) => zPackA h (by omega)
  have C2 := fun w (h : IsL w (.slice a0 l.length c0) l) => rPackA h (by omega)
  have C3 := fun w (h : IsL w (.slice a1 m.length c1) m) => zUnA h (by omega)
  have C4 := fun w (h : IsL w (.slice a1 m.length c1) m) => rUnA h (by omega)
  rw [hPE, hPR] at C1 C2
  rw [hUE, hUR] at C3 C4
  have C1 := Lib.hid C1; have C2 := Lib.hid C2; have C3 := Lib.hid C3; have C4 := Lib.hid C4
  have G0 := Lib.hid g0; have G1 := Lib.hid g1
  clear hPE hPR hUE hUR g0 g1
  go_enter Try.func12, Try.ntmps12
  go_wp2_with fail
  refine (C1.out _ G0.out).mono ?_; rintro e w1 ⟨v1, rfl, h1, hb⟩
  go_wp2_with fail
  refine (C2.out _ (G0.out.kept hb)).mono ?_; rintro e w2 ⟨v2, rfl, h2, hb2⟩
  have h1 := h1.kept hb2
  have hb := hb.trans (hb2.mono hb.size)
  clear hb2
  go_wp2_with fail
  refine (C3.out _ (G1.out.kept hb)).mono ?_; rintro e w3 ⟨v3, rfl, h3, hb2⟩
  have h1 := h1.kept hb2; have h2 := h2.kept hb2
  have hb := hb.trans (hb2.mono hb.size)
  clear hb2
  go_wp2_with fail
  refine (C4.out _ (G1.out.kept hb)).mono ?_; rintro e w4 ⟨v4, rfl, h4, hb2⟩
  have h1 := h1.kept hb2; have h2 := h2.kept hb2; have h3 := h3.kept hb2
  have hb := hb.trans (hb2.mono hb.size)
  clear hb2
  go_wp2_with fail
  refine (intsL h1 h2 true (by simp)).mono ?_; rintro e w5 ⟨rfl, q1, rfl⟩
  go_wp2_with fail
  refine (intsL (h3.drewN q1) (h4.drewN q1) true (by simp)).mono ?_; rintro e w5 ⟨rfl, q2, rfl⟩
  go_wp2_with fail
  refine (awake49 _).mono ?_; rintro e w6 ⟨rfl, hb2⟩
  go_wp2_with fail
  go_ret
  exact ⟨rfl, (below_drewN hb _).trans (hb2.mono (by simpa using hb.size))⟩

set_option maxHeartbeats 3200000 in
theorem walk (a0 : Option Addr) (len0 cap0 : Nat) (z0 : List Int) (a1 : Option Addr) (len1 cap1 : Nat) (z1 : List Int) (w : World) (w0 : IsRow .i64 w a0 len0 cap0 z0) (w1 : IsRow .i64 w a1 len1 cap1 z1) :
    Calls Try.prog 12 #[.slice a0 len0 cap0, .slice a1 len1 cap1] w fun e w' => e = .returned (.bool true) ∧ Below w.heap.size w w' := by
  obtain ⟨l, hl, hmax, hI⟩ := ints_of w0
  obtain ⟨m, hm, hmax2, hJ⟩ := ints_of w1
  clear w0 w1
  subst hl
  subst hm
  by_cases hlong : 1000 < l.length ∨ 60 < m.length
  · unfold maxLen at hmax hmax2
    by_cases h1 : 1000 < l.length
    · go_enter Try.func12, Try.ntmps12
      go_wp2_with fail
      refine (awake49 _).mono ?_; rintro e w1 ⟨rfl, hb⟩
      go_wp2_with fail
      go_ret
      exact ⟨rfl, hb⟩
    · have h2 : 60 < m.length := by omega
      go_enter Try.func12, Try.ntmps12
      go_wp2_with fail
      refine (awake49 _).mono ?_; rintro e w1 ⟨rfl, hb⟩
      go_wp2_with fail
      go_ret
      exact ⟨rfl, hb⟩
  · exact in_walk a0 cap0 l a1 cap1 m w (hI (by omega)) (hJ (by omega)) (by omega) (by omega)

theorem lifted (os : Os) (started : os.Started) (H : Type) (enc : TypeId × Value → H) :
    ReturnsInHanded {} Try.checked os 12 .any (Rows.zerosPacksSpec.pre6 enc Try.prog Try.f12 Rows.zerosPacksRow.domain false) (Rows.zerosPacksSpec.post enc Try.prog Try.f12 false true false false) := by
  refine returnsInHanded_of_change (C := Try.checked) own started (by kernel_rfl) Try.func12
    (ChangeSpec.witness6 (enc := enc) (C := Try.checked) false ⟨#[], #[.slice none 0 0, .slice none 0 0], []⟩ 8 (by kernel_rfl) (by kernel_rfl) (by kernel_rfl) (by kernel_rfl)) ?_
  intro W base args ds gs before hval0 hW hcnd _
  have hval : ∀ (j : Nat) t v, Try.f12.params[j]? = some t → args[j]? = some v → Value.okWide Try.prog W .any base t v := hval0
  have hW' := hW
  obtain ⟨p, q, hA0, hV, rfl, hfz, hnd⟩ := hW
  have hA : DataW.TrodAll enc Try.prog W 0 (fun _ => true) true Try.f12.params.toList args.toList ds p := hA0
  rw [Try.params12] at hA hval
  obtain ⟨v0, vs0, d0, ds0, p0, q0, hargs, rfl, rfl, h0, r0⟩ := trodAll_cons hA
  obtain ⟨v1, vs1, d1, ds1, p1, q1, rfl, rfl, rfl, h1, r1⟩ := trodAll_cons r0
  obtain ⟨rfl, rfl, rfl⟩ := trodAll_nil r1
  obtain rfl : args = #[v0, v1] := by cases args; simp_all
  obtain ⟨rfl, rfl⟩ := trodVars_none hV
  obtain ⟨a0, len0, cap0, rfl⟩ := okWide_slice Try.underlying22 (hval 0 22 v0 rfl rfl)
  have k0 := h0
  have lt0 : ∀ x ∈ p0, x.block < W.heap.size := by obtain ⟨m, hm⟩ := k0; exact DataW.trod_lt m _ _ _ hm
  obtain ⟨z0, w0⟩ : ∃ zs, IsRow .i64 W a0 len0 cap0 zs := by
    obtain ⟨fuel, hf⟩ := h0
    rcases open_ints Try.underlying22 Try.underlying3 (by kernel_rfl) hf with ⟨hcs, _⟩ | ⟨x, l, c, zs, hcs, _, hl, hm, hz, _, hcell, hwz⟩
    · simp [Value.cells] at hcs
      obtain ⟨rfl, rfl, rfl⟩ := hcs
      exact ⟨[], .inl ⟨rfl, rfl, rfl, rfl⟩⟩
    · simp [Value.cells] at hcs
      obtain ⟨rfl, rfl, rfl⟩ := hcs
      exact ⟨zs, .inr ⟨_, rfl, hl, hm, by simpa using hz, hcell, hwz⟩⟩
  obtain ⟨a1, len1, cap1, rfl⟩ := okWide_slice Try.underlying22 (hval 1 22 v1 rfl rfl)
  have k1 := h1
  have lt1 : ∀ x ∈ p1, x.block < W.heap.size := by obtain ⟨m, hm⟩ := k1; exact DataW.trod_lt m _ _ _ hm
  obtain ⟨z1, w1⟩ : ∃ zs, IsRow .i64 W a1 len1 cap1 zs := by
    obtain ⟨fuel, hf⟩ := h1
    rcases open_ints Try.underlying22 Try.underlying3 (by kernel_rfl) hf with ⟨hcs, _⟩ | ⟨x, l, c, zs, hcs, _, hl, hm, hz, _, hcell, hwz⟩
    · simp [Value.cells] at hcs
      obtain ⟨rfl, rfl, rfl⟩ := hcs
      exact ⟨[], .inl ⟨rfl, rfl, rfl, rfl⟩⟩
    · simp [Value.cells] at hcs
      obtain ⟨rfl, rfl, rfl⟩ := hcs
      exact ⟨zs, .inr ⟨_, rfl, hl, hm, by simpa using hz, hcell, hwz⟩⟩
  clear hA0 hval0
  refine (walk a0 len0 cap0 z0 a1 len1 cap1 z1 W w0 w1).mono fun e W' ⟨he, bel⟩ => ?_
  subst he
  exact ⟨_, rfl, _, _, _, [], _, [], hW', trodAll_mk1 (shut_bool Try.underlying4 _), (trodAll_cons_mk (Below.trod laidOut (by kernel_rfl) (of_decide_eq_true (by kernel_rfl)) k0 bel lt0) (trodAll_cons_mk (Below.trod laidOut (by kernel_rfl) (of_decide_eq_true (by kernel_rfl)) k1 bel lt1) trodAll_mk0)), rfl, bel.frame _, fun h => by cases h⟩

theorem over : Rows.zerosPacksRow.holds Try.pinned (OpenSpec.ofChange Rows.zerosPacksSpec) :=
  OpenClaim.holds_of_wide 12 Try.f12 rfl rfl rfl rfl rfl rfl rfl ⟨rfl, rfl, rfl, rfl, rfl⟩ rfl rfl rfl rfl rfl (by kernel_rfl) Try.func12 (by kernel_rfl)
    (of_decide_eq_true (by kernel_rfl)) (by unfold Func.isWrapper; first | (rw [if_pos (by decide +kernel)]; kernel_rfl) | (rw [if_neg (by decide +kernel)]; exact ⟨rfl, rfl⟩))
    (fun os started H enc _ => lifted os started H enc)

theorem proved : Rows.ZerosPacksSaid := over
#print axioms proved
end Go.Proofs.Ytekageibffhloaa.zerosPacks
