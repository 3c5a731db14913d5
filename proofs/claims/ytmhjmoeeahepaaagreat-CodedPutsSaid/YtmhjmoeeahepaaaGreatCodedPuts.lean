import Derived.Test.YtmhjmoeeahepaaaGreatRows
import Derived.WalkKit
import Derived.ProofKit
import Derived.OpenShut
import Derived.ShutString
import Derived.ChangeOld
import Derived.Below
import Derived.Test.YtmhjmoeeahepaaaGreatPP01
import Derived.Test.YtmhjmoeeahepaaaGreatPP45
/- It is proved that the law 'CodedPuts' of the program returns true for every input, with no condition, and leaves what was handed in as it was. The frame was written by a program; the walk is by hand. -/
namespace Go.Proofs.YtmhjmoeeahepaaaGreat.codedPuts
open Go.ChangeShapes Go.WideShapes Go.ChangeAt Go.RowKit Go.Deep
open Go.ChangeMaps (open_string shut_string)
set_option linter.unusedVariables false
set_option maxRecDepth 100000

theorem own : ownKnob Tryz.prog.godebug = none := by kernel_rfl
theorem laidOut : laidOutB Tryz.prog = true := by kernel_rfl

/-- What the walk is told of the slice of structs that came in at place 0: nil, or elements at their places. -/
def IsRows0 (w : World) (a : Option Addr) (len cap : Nat) (F0 : Nat → Int) (F1 : Nat → Int) (F2 : Nat → Int) (F3 : Nat → Int) (F4 : Nat → Int) : Prop :=
  (a = none ∧ len = 0 ∧ cap = 0) ∨ ∃ x, a = some x ∧ len ≤ cap ∧ cap ≤ maxLen ∧ ∀ i, i < len → (w.cell? ((x.add (i * 5)).add 0) = some (.int .i64 (F0 i)) ∧ (Lit.int .i64 (F0 i)).wf = true) ∧ (w.cell? ((x.add (i * 5)).add 1) = some (.int .i64 (F1 i)) ∧ (Lit.int .i64 (F1 i)).wf = true) ∧ (w.cell? ((x.add (i * 5)).add 2) = some (.int .i64 (F2 i)) ∧ (Lit.int .i64 (F2 i)).wf = true) ∧ (w.cell? ((x.add (i * 5)).add 3) = some (.int .i64 (F3 i)) ∧ (Lit.int .i64 (F3 i)).wf = true) ∧ (w.cell? ((x.add (i * 5)).add 4) = some (.int .i64 (F4 i)) ∧ (Lit.int .i64 (F4 i)).wf = true)

def rowTk (F0 F1 F2 F3 F4 : Nat → Int) (n : Nat) : List Tk := (List.range n).map fun i => ⟨F0 i, F1 i, F2 i, F3 i, F4 i⟩
theorem rowTk_len (F0 F1 F2 F3 F4 : Nat → Int) (n : Nat) : (rowTk F0 F1 F2 F3 F4 n).length = n := by unfold rowTk; simp
theorem rowTk_is {w : World} {x : Addr} {F0 F1 F2 F3 F4 : Nat → Int} {n : Nat}
    (h : ∀ i, i < n → w.cell? ((x.add (i * 5)).add 0) = some (.int .i64 (F0 i)) ∧ w.cell? ((x.add (i * 5)).add 1) = some (.int .i64 (F1 i)) ∧ w.cell? ((x.add (i * 5)).add 2) = some (.int .i64 (F2 i)) ∧ w.cell? ((x.add (i * 5)).add 3) = some (.int .i64 (F3 i)) ∧ w.cell? ((x.add (i * 5)).add 4) = some (.int .i64 (F4 i))) : IsTk w (some x) (rowTk F0 F1 F2 F3 F4 n) := by
  refine .inr ⟨x, rfl, fun i t ht => ?_⟩
  have hi : i < n := by have := (List.getElem?_eq_some_iff.1 ht).1; rwa [rowTk_len] at this
  have e : t = ⟨F0 i, F1 i, F2 i, F3 i, F4 i⟩ := by
    unfold rowTk at ht
    rw [List.getElem?_map, List.getElem?_range hi] at ht
    simpa using ht.symm
  subst e
  obtain ⟨h0, h1, h2, h3, h4⟩ := h i hi
  have e0 : (x.add (i * 5)).add 0 = x.add (i * 5) := by simp [Addr.add]
  rw [e0] at h0
  exact ⟨h0, h1, h2, h3, h4⟩

set_option maxHeartbeats 3200000 in
theorem walk (a0 : Option Addr) (len0 cap0 : Nat) (F0_0 : Nat → Int) (F0_1 : Nat → Int) (F0_2 : Nat → Int) (F0_3 : Nat → Int) (F0_4 : Nat → Int) (w : World) (w0 : IsRows0 w a0 len0 cap0 F0_0 F0_1 F0_2 F0_3 F0_4) :
    Calls Tryz.prog 3 #[.slice a0 len0 cap0] w fun e w' => e = .returned (.bool true) ∧ Below w.heap.size w w' := by
  obtain ⟨l, hl, hrow⟩ : ∃ l : List Tk, l.length = len0 ∧ IsTk w a0 l := by
    refine ⟨rowTk F0_0 F0_1 F0_2 F0_3 F0_4 len0, rowTk_len _ _ _ _ _ _, ?_⟩
    rcases w0 with ⟨rfl, rfl, -⟩ | ⟨x, rfl, -, -, h⟩
    · exact .inl rfl
    · exact rowTk_is fun i hi => ⟨(h i hi).1.1, (h i hi).2.1.1, (h i hi).2.2.1.1, (h i hi).2.2.2.1.1, (h i hi).2.2.2.2.1⟩
  exact puts27_walk a0 cap0 len0 l hl w hrow

theorem lifted (os : Os) (started : os.Started) (H : Type) (enc : TypeId × Value → H) :
    ReturnsInHanded {} Tryz.checked os 3 .any (Rows.codedPutsSpec.pre6 enc Tryz.prog Tryz.f3 Rows.codedPutsRow.domain false) (Rows.codedPutsSpec.post enc Tryz.prog Tryz.f3 false true false false) := by
  refine returnsInHanded_of_change (C := Tryz.checked) own started (by kernel_rfl) Tryz.func3
    (ChangeSpec.witness6 (enc := enc) (C := Tryz.checked) false ⟨#[], #[.slice none 0 0], []⟩ 8 (by kernel_rfl) (by kernel_rfl) (by kernel_rfl) (by kernel_rfl)) ?_
  intro W base args ds gs before hval0 hW hcnd _
  have hval : ∀ (j : Nat) t v, Tryz.f3.params[j]? = some t → args[j]? = some v → Value.okWide Tryz.prog W .any base t v := hval0
  have hW' := hW
  obtain ⟨p, q, hA0, hV, rfl, hfz, hnd⟩ := hW
  have hA : DataW.TrodAll enc Tryz.prog W 0 (fun _ => true) true Tryz.f3.params.toList args.toList ds p := hA0
  rw [Tryz.params3] at hA hval
  obtain ⟨v0, vs0, d0, ds0, p0, q0, hargs, rfl, rfl, h0, r0⟩ := trodAll_cons hA
  obtain ⟨rfl, rfl, rfl⟩ := trodAll_nil r0
  obtain rfl : args = #[v0] := by cases args; simp_all
  obtain ⟨rfl, rfl⟩ := trodVars_none hV
  obtain ⟨a0, len0, cap0, rfl⟩ := okWide_slice Tryz.underlying22 (hval 0 22 v0 rfl rfl)
  have k0 := h0
  have lt0 : ∀ x ∈ p0, x.block < W.heap.size := by obtain ⟨m, hm⟩ := k0; exact DataW.trod_lt m _ _ _ hm
  obtain ⟨F0_0, F0_1, F0_2, F0_3, F0_4, w0⟩ : ∃ F0 F1 F2 F3 F4, IsRows0 W a0 len0 cap0 F0 F1 F2 F3 F4 := by
    obtain ⟨fuel, hf⟩ := h0
    rcases open_rows Tryz.underlying22 Tryz.underlying35 (by kernel_rfl) (by kernel_rfl) hf with hcs | ⟨x, l, c, hcs, hl, hm, hr⟩
    · simp [Value.cells] at hcs
      obtain ⟨rfl, rfl, rfl⟩ := hcs
      exact ⟨fun _ => 0, fun _ => 0, fun _ => 0, fun _ => 0, fun _ => 0, .inl ⟨rfl, rfl, rfl⟩⟩
    · simp [Value.cells] at hcs
      obtain ⟨rfl, rfl, rfl⟩ := hcs
      obtain ⟨G0, g0⟩ := hr.int 0 _ rfl Tryz.underlying3
      obtain ⟨G1, g1⟩ := hr.int 1 _ rfl Tryz.underlying3
      obtain ⟨G2, g2⟩ := hr.int 2 _ rfl Tryz.underlying3
      obtain ⟨G3, g3⟩ := hr.int 3 _ rfl Tryz.underlying3
      obtain ⟨G4, g4⟩ := hr.int 4 _ rfl Tryz.underlying3
      exact ⟨G0, G1, G2, G3, G4, .inr ⟨_, rfl, hl, hm, fun i hi => ⟨g0 i hi, g1 i hi, g2 i hi, g3 i hi, g4 i hi⟩⟩⟩
  clear hA0 hval0
  refine (walk a0 len0 cap0 F0_0 F0_1 F0_2 F0_3 F0_4 W w0).mono fun e W' ⟨he, bel⟩ => ?_
  subst he
  exact ⟨_, rfl, _, _, _, [], _, [], hW', trodAll_mk1 (shut_bool Tryz.underlying4 _), (trodAll_cons_mk (Below.trod laidOut (by kernel_rfl) (of_decide_eq_true (by kernel_rfl)) k0 bel lt0) trodAll_mk0), rfl, bel.frame _, fun h => by cases h⟩

theorem over : Rows.codedPutsRow.holds Tryz.pinned (OpenSpec.ofChange Rows.codedPutsSpec) :=
  OpenClaim.holds_of_wide 3 Tryz.f3 rfl rfl rfl rfl rfl rfl rfl ⟨rfl, rfl, rfl, rfl, rfl⟩ rfl rfl rfl rfl rfl (by kernel_rfl) Tryz.func3 (by kernel_rfl)
    (of_decide_eq_true (by kernel_rfl)) (by unfold Func.isWrapper; first | (rw [if_pos (by decide +kernel)]; kernel_rfl) | (rw [if_neg (by decide +kernel)]; exact ⟨rfl, rfl⟩))
    (fun os started H enc _ => lifted os started H enc)

theorem proved : Rows.CodedPutsSaid := over
#print axioms proved
end Go.Proofs.YtmhjmoeeahepaaaGreat.codedPuts
