/- It is proved that the law 'CountFreqs' of the program returns true for every input, with no condition, and leaves what was handed in as it was. The frame was written by a program; the walk is by hand. -/
import Derived.Test.YtpmlfanckconnaaRows
import Derived.WalkKit
import Derived.ProofKit
import Derived.OpenShut
import Derived.ShutString
import Derived.ChangeOld
import Derived.Below
import Derived.Test.YtpmlfanckconnaaBase
import Derived.Test.YtpmlfanckconnaaB2
import Derived.Test.YtpmlfanckconnaaAF17
namespace Go.Proofs.Ytpmlfanckconnaa.countFreqs
open Go.ChangeShapes Go.WideShapes Go.ChangeAt Go.RowKit Go.Deep
open Go.ChangeMaps (open_string shut_string)
set_option linter.unusedVariables false
set_option maxRecDepth 100000

theorem own : ownKnob Try.prog.godebug = none := by kernel_rfl
theorem laidOut : laidOutB Try.prog = true := by kernel_rfl

/-- What the walk is told of a slice of integers that came in: nil, or a row of 'cap' cells that hold the numbers zs, each fitting its kind. -/
def IsRow (k : IntKind) (w : World) (a : Option Addr) (len cap : Nat) (zs : List Int) : Prop :=
  (a = none ∧ len = 0 ∧ cap = 0 ∧ zs = []) ∨
  ∃ x, a = some x ∧ len ≤ cap ∧ cap ≤ maxLen ∧ zs.length = cap ∧ (∀ i, i < zs.length → w.cell? (x.add i) = some (.int k (zs.getD i 0))) ∧ ∀ n ∈ zs, (Lit.int k n).wf = true

/-- What the walk is told of the slice of structs that came in at place 0: nil, or elements at their places. -/
def IsRows0 (w : World) (a : Option Addr) (len cap : Nat) (F0 : Nat → Int) (F1 : Nat → Int) (F2 : Nat → Int) (F3 : Nat → Int) (F4 : Nat → Int) : Prop :=
  (a = none ∧ len = 0 ∧ cap = 0) ∨ ∃ x, a = some x ∧ len ≤ cap ∧ cap ≤ maxLen ∧ ∀ i, i < len → (w.cell? ((x.add (i * 5)).add 0) = some (.int .i64 (F0 i)) ∧ (Lit.int .i64 (F0 i)).wf = true) ∧ (w.cell? ((x.add (i * 5)).add 1) = some (.int .i64 (F1 i)) ∧ (Lit.int .i64 (F1 i)).wf = true) ∧ (w.cell? ((x.add (i * 5)).add 2) = some (.int .i64 (F2 i)) ∧ (Lit.int .i64 (F2 i)).wf = true) ∧ (w.cell? ((x.add (i * 5)).add 3) = some (.int .i64 (F3 i)) ∧ (Lit.int .i64 (F3 i)).wf = true) ∧ (w.cell? ((x.add (i * 5)).add 4) = some (.int .i64 (F4 i)) ∧ (Lit.int .i64 (F4 i)).wf = true)

theorem ints_of {w : World} {a : Option Addr} {len cap : Nat} {zs : List Int} (h : IsRow .i64 w a len cap zs) : ∃ l : List Int, l.length = len ∧ len ≤ maxLen ∧ (l.length ≤ 70368744177664 → IsInts w a l) := by
  rcases h with ⟨rfl, rfl, rfl, rfl⟩ | ⟨x, rfl, hlc, hcm, hz, hc, -⟩
  · exact ⟨[], rfl, Nat.zero_le _, fun _ => ⟨by simp, .inl rfl⟩⟩
  · have e : (zs.take len).length = len := by rw [List.length_take]; omega
    refine ⟨zs.take len, e, by omega, fun h11 => ⟨by omega, .inr ⟨x, rfl, fun i hi => ?_⟩⟩⟩
    rw [e] at hi
    rw [hc i (by omega)]
    simp [List.getD, hi]
def rowTk (F0 F1 F2 F3 F4 : Nat → Int) (n : Nat) : List Tk := (List.range n).map fun i => ⟨F0 i, F1 i, F2 i, F3 i, F4 i⟩
theorem rowTk_len (F0 F1 F2 F3 F4 : Nat → Int) (n : Nat) : (rowTk F0 F1 F2 F3 F4 n).length = n := by unfold rowTk; simp
theorem rowTk_is {w : World} {x : Addr} {F0 F1 F2 F3 F4 : Nat → Int} {n : Nat}
    (h : ∀ i, i < n → w.cell? ((x.add (i * 5)).add 0) = some (.int .i64 (F0 i)) ∧ w.cell? ((x.add (i * 5)).add 1) = some (.int .i64 (F1 i)) ∧ w.cell? ((x.add (i * 5)).add 2) = some (.int .i64 (F2 i)) ∧ w.cell? ((x.add (i * 5)).add 3) = some (.int .i64 (F3 i)) ∧ w.cell? ((x.add (i * 5)).add 4) = some (.int .i64 (F4 i))) : IsTk w (some x) (rowTk F0 F1 F2 F3 F4 n) := by
  refine .inr ⟨x, rfl, fun i t ht => ?_⟩
  have hi : i < n := by have := (List.getElem?_eq_some_iff.1 ht).1; rwa [rowTk_len] at this
  have e : t = ⟨F0 i, F1 i, F2 i, F3 i, F4 i⟩ := by
    unfold rowTk at ht
    rw [List.getElem?_map, List.getElem?_range hi] at ht
    simpa using ht.symm
  subst e
  obtain ⟨h0, h1, h2, h3, h4⟩ := h i hi
  have e0 : (x.add (i * 5)).add 0 = x.add (i * 5) := by simp [Addr.add]
  rw [e0] at h0
  exact ⟨h0, h1, h2, h3, h4⟩

set_option maxHeartbeats 3200000 in
theorem walk (a0 : Option Addr) (len0 cap0 : Nat) (F0_0 : Nat → Int) (F0_1 : Nat → Int) (F0_2 : Nat → Int) (F0_3 : Nat → Int) (F0_4 : Nat → Int) (a1 : Option Addr) (len1 cap1 : Nat) (z1 : List Int) (a2 : Option Addr) (len2 cap2 : Nat) (z2 : List Int) (w : World) (w0 : IsRows0 w a0 len0 cap0 F0_0 F0_1 F0_2 F0_3 F0_4) (w1 : IsRow .i64 w a1 len1 cap1 z1) (w2 : IsRow .i64 w a2 len2 cap2 z2) :
    Calls Try.prog 6 #[.slice a0 len0 cap0, .slice a1 len1 cap1, .slice a2 len2 cap2] w fun e w' => e = .returned (.bool true) ∧ Below w.heap.size w w' := by
  obtain ⟨l, hl, hrow⟩ : ∃ l : List Tk, l.length = len0 ∧ IsTk w a0 l := by
    refine ⟨rowTk F0_0 F0_1 F0_2 F0_3 F0_4 len0, rowTk_len _ _ _ _ _ _, ?_⟩
    rcases w0 with ⟨rfl, rfl, -⟩ | ⟨x, rfl, -, -, h⟩
    · exact .inl rfl
    · exact rowTk_is fun i hi => ⟨(h i hi).1.1, (h i hi).2.1.1, (h i hi).2.2.1.1, (h i hi).2.2.2.1.1, (h i hi).2.2.2.2.1⟩
  obtain ⟨r1, e1, m1, i1⟩ := ints_of w1
  obtain ⟨r2, e2, m2, i2⟩ := ints_of w2
  clear w0 w1 w2
  by_cases h1 : 300 < len0
  · have h1i : (300 : Int) < len0 := by omega
    have d1 : decide ((300 : Int) < len0) = true := decide_eq_true h1i
    have d1n : decide (300 < len0) = true := decide_eq_true h1
    clear hrow i1 i2
    go_enter Try.func6, Try.ntmps6
    go_wp2_with fail
    refine (awake24 _).mono ?_; rintro e w1 ⟨rfl, hb⟩
    go_wp2_with fail
    go_ret
    exact ⟨rfl, hb⟩
  · have d1 : decide ((300 : Int) < len0) = false := decide_eq_false (by omega)
    have d1n : decide (300 < len0) = false := decide_eq_false h1
    by_cases h2 : 500 < len1
    · have d2 : decide ((500 : Int) < len1) = true := decide_eq_true (by omega)
      have d2n : decide (500 < len1) = true := decide_eq_true h2
      clear hrow i1 i2
      go_enter Try.func6, Try.ntmps6
      go_wp2_with fail
      refine (awake24 _).mono ?_; rintro e w1 ⟨rfl, hb⟩
      go_wp2_with fail
      go_ret
      exact ⟨rfl, hb⟩
    · have d2 : decide ((500 : Int) < len1) = false := decide_eq_false (by omega)
      have d2n : decide (500 < len1) = false := decide_eq_false h2
      by_cases h3 : 500 < len2
      · have d3 : decide ((500 : Int) < len2) = true := decide_eq_true (by omega)
        have d3n : decide (500 < len2) = true := decide_eq_true h3
        clear hrow i1 i2
        go_enter Try.func6, Try.ntmps6
        go_wp2_with fail
        refine (awake24 _).mono ?_; rintro e w1 ⟨rfl, hb⟩
        go_wp2_with fail
        go_ret
        exact ⟨rfl, hb⟩
      · exact freqs_walk a0 a1 a2 cap0 cap1 cap2 len0 len1 len2 l r1 r2 w hl e1 e2 hrow (i1 (by omega)) (i2 (by omega)) (by omega) (by omega) (by omega)

theorem lifted (os : Os) (started : os.Started) (H : Type) (enc : TypeId × Value → H) :
    ReturnsInHanded {} Try.checked os 6 .any (Rows.countFreqsSpec.pre6 enc Try.prog Try.f6 Rows.countFreqsRow.domain false) (Rows.countFreqsSpec.post enc Try.prog Try.f6 false true false false) := by
  refine returnsInHanded_of_change (C := Try.checked) own started (by kernel_rfl) Try.func6
    (ChangeSpec.witness6 (enc := enc) (C := Try.checked) false ⟨#[], #[.slice none 0 0, .slice none 0 0, .slice none 0 0], []⟩ 8 (by kernel_rfl) (by kernel_rfl) (by kernel_rfl) (by kernel_rfl)) ?_
  intro W base args ds gs before hval0 hW hcnd _
  have hval : ∀ (j : Nat) t v, Try.f6.params[j]? = some t → args[j]? = some v → Value.okWide Try.prog W .any base t v := hval0
  have hW' := hW
  obtain ⟨p, q, hA0, hV, rfl, hfz, hnd⟩ := hW
  have hA : DataW.TrodAll enc Try.prog W 0 (fun _ => true) true Try.f6.params.toList args.toList ds p := hA0
  rw [Try.params6] at hA hval
  obtain ⟨v0, vs0, d0, ds0, p0, q0, hargs, rfl, rfl, h0, r0⟩ := trodAll_cons hA
  obtain ⟨v1, vs1, d1, ds1, p1, q1, rfl, rfl, rfl, h1, r1⟩ := trodAll_cons r0
  obtain ⟨v2, vs2, d2, ds2, p2, q2, rfl, rfl, rfl, h2, r2⟩ := trodAll_cons r1
  obtain ⟨rfl, rfl, rfl⟩ := trodAll_nil r2
  obtain rfl : args = #[v0, v1, v2] := by cases args; simp_all
  obtain ⟨rfl, rfl⟩ := trodVars_none hV
  obtain ⟨a0, len0, cap0, rfl⟩ := okWide_slice Try.underlying42 (hval 0 42 v0 rfl rfl)
  have k0 := h0
  have lt0 : ∀ x ∈ p0, x.block < W.heap.size := by obtain ⟨m, hm⟩ := k0; exact DataW.trod_lt m _ _ _ hm
  obtain ⟨F0_0, F0_1, F0_2, F0_3, F0_4, w0⟩ : ∃ F0 F1 F2 F3 F4, IsRows0 W a0 len0 cap0 F0 F1 F2 F3 F4 := by
    obtain ⟨fuel, hf⟩ := h0
    rcases open_rows Try.underlying42 Try.underlying74 (by kernel_rfl) (by kernel_rfl) hf with hcs | ⟨x, l, c, hcs, hl, hm, hr⟩
    · simp [Value.cells] at hcs
      obtain ⟨rfl, rfl, rfl⟩ := hcs
      exact ⟨fun _ => 0, fun _ => 0, fun _ => 0, fun _ => 0, fun _ => 0, .inl ⟨rfl, rfl, rfl⟩⟩
    · simp [Value.cells] at hcs
      obtain ⟨rfl, rfl, rfl⟩ := hcs
      obtain ⟨G0, g0⟩ := hr.int 0 _ rfl Try.underlying3
      obtain ⟨G1, g1⟩ := hr.int 1 _ rfl Try.underlying3
      obtain ⟨G2, g2⟩ := hr.int 2 _ rfl Try.underlying3
      obtain ⟨G3, g3⟩ := hr.int 3 _ rfl Try.underlying3
      obtain ⟨G4, g4⟩ := hr.int 4 _ rfl Try.underlying3
      exact ⟨G0, G1, G2, G3, G4, .inr ⟨_, rfl, hl, hm, fun i hi => ⟨g0 i hi, g1 i hi, g2 i hi, g3 i hi, g4 i hi⟩⟩⟩
  obtain ⟨a1, len1, cap1, rfl⟩ := okWide_slice Try.underlying30 (hval 1 30 v1 rfl rfl)
  have k1 := h1
  have lt1 : ∀ x ∈ p1, x.block < W.heap.size := by obtain ⟨m, hm⟩ := k1; exact DataW.trod_lt m _ _ _ hm
  obtain ⟨z1, w1⟩ : ∃ zs, IsRow .i64 W a1 len1 cap1 zs := by
    obtain ⟨fuel, hf⟩ := h1
    rcases open_ints Try.underlying30 Try.underlying3 (by kernel_rfl) hf with ⟨hcs, _⟩ | ⟨x, l, c, zs, hcs, _, hl, hm, hz, _, hcell, hwz⟩
    · simp [Value.cells] at hcs
      obtain ⟨rfl, rfl, rfl⟩ := hcs
      exact ⟨[], .inl ⟨rfl, rfl, rfl, rfl⟩⟩
    · simp [Value.cells] at hcs
      obtain ⟨rfl, rfl, rfl⟩ := hcs
      exact ⟨zs, .inr ⟨_, rfl, hl, hm, by simpa using hz, hcell, hwz⟩⟩
  obtain ⟨a2, len2, cap2, rfl⟩ := okWide_slice Try.underlying30 (hval 2 30 v2 rfl rfl)
  have k2 := h2
  have lt2 : ∀ x ∈ p2, x.block < W.heap.size := by obtain ⟨m, hm⟩ := k2; exact DataW.trod_lt m _ _ _ hm
  obtain ⟨z2, w2⟩ : ∃ zs, IsRow .i64 W a2 len2 cap2 zs := by
    obtain ⟨fuel, hf⟩ := h2
    rcases open_ints Try.underlying30 Try.underlying3 (by kernel_rfl) hf with ⟨hcs, _⟩ | ⟨x, l, c, zs, hcs, _, hl, hm, hz, _, hcell, hwz⟩
    · simp [Value.cells] at hcs
      obtain ⟨rfl, rfl, rfl⟩ := hcs
      exact ⟨[], .inl ⟨rfl, rfl, rfl, rfl⟩⟩
    · simp [Value.cells] at hcs
      obtain ⟨rfl, rfl, rfl⟩ := hcs
      exact ⟨zs, .inr ⟨_, rfl, hl, hm, by simpa using hz, hcell, hwz⟩⟩
  clear hA0 hval0
  refine (walk a0 len0 cap0 F0_0 F0_1 F0_2 F0_3 F0_4 a1 len1 cap1 z1 a2 len2 cap2 z2 W w0 w1 w2).mono fun e W' ⟨he, bel⟩ => ?_
  subst he
  exact ⟨_, rfl, _, _, _, [], _, [], hW', trodAll_mk1 (shut_bool Try.underlying4 _), (trodAll_cons_mk (Below.trod laidOut (by kernel_rfl) (of_decide_eq_true (by kernel_rfl)) k0 bel lt0) (trodAll_cons_mk (Below.trod laidOut (by kernel_rfl) (of_decide_eq_true (by kernel_rfl)) k1 bel lt1) (trodAll_cons_mk (Below.trod laidOut (by kernel_rfl) (of_decide_eq_true (by kernel_rfl)) k2 bel lt2) trodAll_mk0))), rfl, bel.frame _, fun h => by cases h⟩

theorem over : Rows.countFreqsRow.holds Try.pinned (OpenSpec.ofChange Rows.countFreqsSpec) :=
  OpenClaim.holds_of_wide 6 Try.f6 rfl rfl rfl rfl rfl rfl rfl ⟨rfl, rfl, rfl, rfl, rfl⟩ rfl rfl rfl rfl rfl (by kernel_rfl) Try.func6 (by kernel_rfl)
    (of_decide_eq_true (by kernel_rfl)) (by unfold Func.isWrapper; first | (rw [if_pos (by decide +kernel)]; kernel_rfl) | (rw [if_neg (by decide +kernel)]; exact ⟨rfl, rfl⟩))
    (fun os started H enc _ => lifted os started H enc)

theorem proved : Rows.CountFreqsSaid := over
#print axioms proved
end Go.Proofs.Ytpmlfanckconnaa.countFreqs
