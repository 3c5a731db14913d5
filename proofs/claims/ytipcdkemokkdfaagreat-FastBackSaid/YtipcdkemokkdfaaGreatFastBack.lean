import Derived.Test.YtipcdkemokkdfaaGreatRows
import Derived.WalkKit
import Derived.ProofKit
import Derived.OpenShut
import Derived.ShutString
import Derived.ChangeOld
import Derived.Below
import Derived.Test.YtipcdkemokkdfaaGreatK01
import Derived.Test.YtipcdkemokkdfaaGreatK04
import Derived.Test.YtipcdkemokkdfaaGreatK47
/- It is proved that the law 'FastBack' of the program returns true for every input, with no condition, and leaves what was handed in as it was. The frame was written by a program; the walk is by hand. -/
namespace Go.Proofs.YtipcdkemokkdfaaGreat.fastBack
open Go.ChangeShapes Go.WideShapes Go.ChangeAt Go.RowKit Go.Deep
open Go.ChangeMaps (open_string shut_string)
set_option linter.unusedVariables false
set_option linter.unusedSimpArgs false
set_option maxRecDepth 100000

theorem own : ownKnob Tryz.prog.godebug = none := by kernel_rfl
theorem laidOut : laidOutB Tryz.prog = true := by kernel_rfl

/-- What the walk is told of the slice of structs that came in at place 1: nil, or elements at their places. -/
def IsRows1 (w : World) (a : Option Addr) (len cap : Nat) (F0 : Nat → Int) (F1 : Nat → Int) (F2 : Nat → Int) (F3 : Nat → Int) (F4 : Nat → Int) : Prop :=
  (a = none ∧ len = 0 ∧ cap = 0) ∨ ∃ x, a = some x ∧ len ≤ cap ∧ cap ≤ maxLen ∧ ∀ i, i < len → (w.cell? ((x.add (i * 5)).add 0) = some (.int .i64 (F0 i)) ∧ (Lit.int .i64 (F0 i)).wf = true) ∧ (w.cell? ((x.add (i * 5)).add 1) = some (.int .i64 (F1 i)) ∧ (Lit.int .i64 (F1 i)).wf = true) ∧ (w.cell? ((x.add (i * 5)).add 2) = some (.int .i64 (F2 i)) ∧ (Lit.int .i64 (F2 i)).wf = true) ∧ (w.cell? ((x.add (i * 5)).add 3) = some (.int .i64 (F3 i)) ∧ (Lit.int .i64 (F3 i)).wf = true) ∧ (w.cell? ((x.add (i * 5)).add 4) = some (.int .i64 (F4 i)) ∧ (Lit.int .i64 (F4 i)).wf = true)

def rowTk (F0 F1 F2 F3 F4 : Nat → Int) (n : Nat) : List Tk := (List.range n).map fun i => ⟨F0 i, F1 i, F2 i, F3 i, F4 i⟩
theorem rowTk_len (F0 F1 F2 F3 F4 : Nat → Int) (n : Nat) : (rowTk F0 F1 F2 F3 F4 n).length = n := by unfold rowTk; simp
theorem rowTk_is {w : World} {x : Addr} {F0 F1 F2 F3 F4 : Nat → Int} {n : Nat}
    (h : ∀ i, i < n → w.cell? ((x.add (i * 5)).add 0) = some (.int .i64 (F0 i)) ∧ w.cell? ((x.add (i * 5)).add 1) = some (.int .i64 (F1 i)) ∧ w.cell? ((x.add (i * 5)).add 2) = some (.int .i64 (F2 i)) ∧ w.cell? ((x.add (i * 5)).add 3) = some (.int .i64 (F3 i)) ∧ w.cell? ((x.add (i * 5)).add 4) = some (.int .i64 (F4 i))) : IsTk w (some x) (rowTk F0 F1 F2 F3 F4 n) := by
  refine .inr ⟨x, rfl, fun i t ht => ?_⟩
  have hi : i < n := by have := (List.getElem?_eq_some_iff.1 ht).1; rwa [rowTk_len] at this
  have e : t = ⟨F0 i, F1 i, F2 i, F3 i, F4 i⟩ := by
    unfold rowTk at ht
    rw [List.getElem?_map, List.getElem?_range hi] at ht
    simpa using ht.symm
  subst e
  obtain ⟨h0, h1, h2, h3, h4⟩ := h i hi
  have e0 : (x.add (i * 5)).add 0 = x.add (i * 5) := by simp [Addr.add]
  rw [e0] at h0
  exact ⟨h0, h1, h2, h3, h4⟩

set_option maxHeartbeats 3200000 in
theorem walk (b0_0 : Int) (b0_1 : ByteArray) (b0_2_0 : Int) (b0_2_1 : Int) (b0_2_2 : Int) (b0_2_3 : Int) (b0_3 : Int) (a1 : Option Addr) (len1 cap1 : Nat) (F1_0 : Nat → Int) (F1_1 : Nat → Int) (F1_2 : Nat → Int) (F1_3 : Nat → Int) (F1_4 : Nat → Int) (w : World) (w0_0 : (Lit.int .i64 b0_0).wf = true) (w0_1 : b0_1.size ≤ maxLen) (w0_2_0 : (Lit.int .i64 b0_2_0).wf = true) (w0_2_1 : (Lit.int .i64 b0_2_1).wf = true) (w0_2_2 : (Lit.int .i64 b0_2_2).wf = true) (w0_2_3 : (Lit.int .i64 b0_2_3).wf = true) (w0_3 : (Lit.int .i64 b0_3).wf = true) (w1 : IsRows1 w a1 len1 cap1 F1_0 F1_1 F1_2 F1_3 F1_4) :
    Calls Tryz.prog 3 #[.agg #[.int .i64 b0_0, .string b0_1, .int .i64 b0_2_0, .int .i64 b0_2_1, .int .i64 b0_2_2, .int .i64 b0_2_3, .int .i64 b0_3], .slice a1 len1 cap1] w fun e w' => e = .returned (.bool true) ∧ Below w.heap.size w w' := by
  obtain ⟨l, hl, hrow⟩ : ∃ l : List Tk, l.length = len1 ∧ IsTk w a1 l := by
    refine ⟨rowTk F1_0 F1_1 F1_2 F1_3 F1_4 len1, rowTk_len _ _ _ _ _ _, ?_⟩
    rcases w1 with ⟨rfl, rfl, -⟩ | ⟨x, rfl, -, -, h⟩
    · exact .inl rfl
    · exact rowTk_is fun i hi => ⟨(h i hi).1.1, (h i hi).2.1.1, (h i hi).2.2.1.1, (h i hi).2.2.2.1.1, (h i hi).2.2.2.2.1⟩
  have hl46 : len1 ≤ 9223372036854775807 := by
    rcases w1 with ⟨-, rfl, -⟩ | ⟨x, -, h1, h2, -⟩
    · decide
    · have h3 : cap1 ≤ 9223372036854775807 := h2
      omega
  by_cases hb : 500 < b0_1.size ∨ 60 < len1 ∨ b0_0 < 1 ∨ 1000 < b0_0
  · exact fast_awake b0_0 b0_3 b0_1 ⟨b0_2_0, b0_2_1, b0_2_2, b0_2_3⟩ a1 cap1 len1 w0_1 hl46 w hb
  · obtain ⟨sz, rfl⟩ : ∃ m : Nat, b0_0 = m := ⟨b0_0.toNat, by omega⟩
    exact fast_walk sz b0_3 b0_1 ⟨b0_2_0, b0_2_1, b0_2_2, b0_2_3⟩ a1 cap1 len1 l hl (by omega) (by omega) (by omega) (by omega) w hrow

theorem lifted (os : Os) (started : os.Started) (H : Type) (enc : TypeId × Value → H) :
    ReturnsInHanded {} Tryz.checked os 3 .any (Rows.fastBackSpec.pre6 enc Tryz.prog Tryz.f3 Rows.fastBackRow.domain false) (Rows.fastBackSpec.post enc Tryz.prog Tryz.f3 false true false false) := by
  refine returnsInHanded_of_change (C := Tryz.checked) own started (by kernel_rfl) Tryz.func3
    (ChangeSpec.witness6 (enc := enc) (C := Tryz.checked) false ⟨#[], #[.agg #[.int .i64 0, .string ByteArray.empty, .int .i64 0, .int .i64 0, .int .i64 0, .int .i64 0, .int .i64 0], .slice none 0 0], []⟩ 8 (by kernel_rfl) (by kernel_rfl) (by kernel_rfl) (by kernel_rfl)) ?_
  intro W base args ds gs before hval0 hW hcnd _
  have hval : ∀ (j : Nat) t v, Tryz.f3.params[j]? = some t → args[j]? = some v → Value.okWide Tryz.prog W .any base t v := hval0
  have hW' := hW
  obtain ⟨p, q, hA0, hV, rfl, hfz, hnd⟩ := hW
  have hA : DataW.TrodAll enc Tryz.prog W 0 (fun _ => true) true Tryz.f3.params.toList args.toList ds p := hA0
  rw [Tryz.params3] at hA hval
  obtain ⟨v0, vs0, d0, ds0, p0, q0, hargs, rfl, rfl, h0, r0⟩ := trodAll_cons hA
  obtain ⟨v1, vs1, d1, ds1, p1, q1, rfl, rfl, rfl, h1, r1⟩ := trodAll_cons r0
  obtain ⟨rfl, rfl, rfl⟩ := trodAll_nil r1
  obtain rfl : args = #[v0, v1] := by cases args; simp_all
  obtain ⟨rfl, rfl⟩ := trodVars_none hV
  have k0 := h0
  have lt0 : ∀ x ∈ p0, x.block < W.heap.size := by obtain ⟨m, hm⟩ := k0; exact DataW.trod_lt m _ _ _ hm
  obtain ⟨l, rfl, hl, hcs⟩ := agg_wide Tryz.underlying25 (m := 7) (by kernel_rfl) (hval 0 25 v0 rfl rfl) h0
  obtain ⟨x0, x1, x2, x3, x4, x5, x6, rfl⟩ := len7 l hl
  obtain ⟨n0, y, hy⟩ := hcs 0 _ rfl
  change DataW.trod enc Tryz.prog W 0 (fun _ => true) true n0 3 (List.take (Tryz.prog.cellsOf 3) (List.drop 0 _)) = some y at hy
  rw [show Tryz.prog.cellsOf 3 = 1 from by kernel_rfl] at hy
  simp only [List.drop_succ_cons, List.drop_zero, List.take_succ_cons, List.take_zero] at hy
  obtain ⟨b0_0, hc, -, w0_0⟩ := DataW.trod_int Tryz.underlying3 hy
  simp only [List.cons.injEq, and_true] at hc
  subst hc
  clear hy
  obtain ⟨n1, y, hy⟩ := hcs 1 _ rfl
  change DataW.trod enc Tryz.prog W 0 (fun _ => true) true n1 9 (List.take (Tryz.prog.cellsOf 9) (List.drop 1 _)) = some y at hy
  rw [show Tryz.prog.cellsOf 9 = 1 from by kernel_rfl] at hy
  simp only [List.drop_succ_cons, List.drop_zero, List.take_succ_cons, List.take_zero] at hy
  obtain ⟨b0_1, hc, -, w0_1⟩ := DataW.trod_string Tryz.underlying9 hy
  simp only [List.cons.injEq, and_true] at hc
  subst hc
  clear hy
  obtain ⟨n2, y, hy⟩ := hcs 2 _ rfl
  change DataW.trod enc Tryz.prog W 0 (fun _ => true) true n2 23 (List.take (Tryz.prog.cellsOf 23) (List.drop 2 _)) = some y at hy
  rw [show Tryz.prog.cellsOf 23 = 4 from by kernel_rfl] at hy
  simp only [List.drop_succ_cons, List.drop_zero, List.take_succ_cons, List.take_zero] at hy
  have ha := arr_one Tryz.underlying23 (by kernel_rfl) hy rfl
  obtain ⟨n, c, z, hc, hz⟩ := ha 0 (by decide)
  simp only [List.getElem?_cons_zero, Option.some.injEq] at hc
  subst hc
  obtain ⟨b0_2_0, hc, -, w0_2_0⟩ := DataW.trod_int Tryz.underlying3 hz
  clear hz
  simp only [List.cons.injEq, and_true] at hc
  subst hc
  obtain ⟨n, c, z, hc, hz⟩ := ha 1 (by decide)
  simp only [List.getElem?_cons_zero, List.getElem?_cons_succ, Option.some.injEq] at hc
  subst hc
  obtain ⟨b0_2_1, hc, -, w0_2_1⟩ := DataW.trod_int Tryz.underlying3 hz
  clear hz
  simp only [List.cons.injEq, and_true] at hc
  subst hc
  obtain ⟨n, c, z, hc, hz⟩ := ha 2 (by decide)
  simp only [List.getElem?_cons_zero, List.getElem?_cons_succ, Option.some.injEq] at hc
  subst hc
  obtain ⟨b0_2_2, hc, -, w0_2_2⟩ := DataW.trod_int Tryz.underlying3 hz
  clear hz
  simp only [List.cons.injEq, and_true] at hc
  subst hc
  obtain ⟨n, c, z, hc, hz⟩ := ha 3 (by decide)
  simp only [List.getElem?_cons_zero, List.getElem?_cons_succ, Option.some.injEq] at hc
  subst hc
  obtain ⟨b0_2_3, hc, -, w0_2_3⟩ := DataW.trod_int Tryz.underlying3 hz
  clear hz
  simp only [List.cons.injEq, and_true] at hc
  subst hc
  clear ha hy
  obtain ⟨n3, y, hy⟩ := hcs 3 _ rfl
  change DataW.trod enc Tryz.prog W 0 (fun _ => true) true n3 3 (List.take (Tryz.prog.cellsOf 3) (List.drop 6 _)) = some y at hy
  rw [show Tryz.prog.cellsOf 3 = 1 from by kernel_rfl] at hy
  simp only [List.drop_succ_cons, List.drop_zero, List.take_succ_cons, List.take_zero] at hy
  obtain ⟨b0_3, hc, -, w0_3⟩ := DataW.trod_int Tryz.underlying3 hy
  simp only [List.cons.injEq, and_true] at hc
  subst hc
  clear hy
  clear hl hcs
  obtain ⟨a1, len1, cap1, rfl⟩ := okWide_slice Tryz.underlying26 (hval 1 26 v1 rfl rfl)
  have k1 := h1
  have lt1 : ∀ x ∈ p1, x.block < W.heap.size := by obtain ⟨m, hm⟩ := k1; exact DataW.trod_lt m _ _ _ hm
  obtain ⟨F1_0, F1_1, F1_2, F1_3, F1_4, w1⟩ : ∃ F0 F1 F2 F3 F4, IsRows1 W a1 len1 cap1 F0 F1 F2 F3 F4 := by
    obtain ⟨fuel, hf⟩ := h1
    rcases open_rows Tryz.underlying26 Tryz.underlying42 (by kernel_rfl) (by kernel_rfl) hf with hcs | ⟨x, l, c, hcs, hl, hm, hr⟩
    · simp [Value.cells] at hcs
      obtain ⟨rfl, rfl, rfl⟩ := hcs
      exact ⟨fun _ => 0, fun _ => 0, fun _ => 0, fun _ => 0, fun _ => 0, .inl ⟨rfl, rfl, rfl⟩⟩
    · simp [Value.cells] at hcs
      obtain ⟨rfl, rfl, rfl⟩ := hcs
      obtain ⟨G0, g0⟩ := hr.int 0 _ rfl Tryz.underlying3
      obtain ⟨G1, g1⟩ := hr.int 1 _ rfl Tryz.underlying3
      obtain ⟨G2, g2⟩ := hr.int 2 _ rfl Tryz.underlying3
      obtain ⟨G3, g3⟩ := hr.int 3 _ rfl Tryz.underlying3
      obtain ⟨G4, g4⟩ := hr.int 4 _ rfl Tryz.underlying3
      exact ⟨G0, G1, G2, G3, G4, .inr ⟨_, rfl, hl, hm, fun i hi => ⟨g0 i hi, g1 i hi, g2 i hi, g3 i hi, g4 i hi⟩⟩⟩
  clear hA0 hval0
  refine (walk b0_0 b0_1 b0_2_0 b0_2_1 b0_2_2 b0_2_3 b0_3 a1 len1 cap1 F1_0 F1_1 F1_2 F1_3 F1_4 W w0_0 w0_1 w0_2_0 w0_2_1 w0_2_2 w0_2_3 w0_3 w1).mono fun e W' ⟨he, bel⟩ => ?_
  subst he
  exact ⟨_, rfl, _, _, _, [], _, [], hW', trodAll_mk1 (shut_bool Tryz.underlying4 _), (trodAll_cons_mk (Below.trod laidOut (by kernel_rfl) (of_decide_eq_true (by kernel_rfl)) k0 bel lt0) (trodAll_cons_mk (Below.trod laidOut (by kernel_rfl) (of_decide_eq_true (by kernel_rfl)) k1 bel lt1) trodAll_mk0)), rfl, bel.frame _, fun h => by cases h⟩

theorem over : Rows.fastBackRow.holds Tryz.pinned (OpenSpec.ofChange Rows.fastBackSpec) :=
  OpenClaim.holds_of_wide 3 Tryz.f3 rfl rfl rfl rfl rfl rfl rfl ⟨rfl, rfl, rfl, rfl, rfl⟩ rfl rfl rfl rfl rfl (by kernel_rfl) Tryz.func3 (by kernel_rfl)
    (of_decide_eq_true (by kernel_rfl)) (by unfold Func.isWrapper; first | (rw [if_pos (by decide +kernel)]; kernel_rfl) | (rw [if_neg (by decide +kernel)]; exact ⟨rfl, rfl⟩))
    (fun os started H enc _ => lifted os started H enc)

theorem proved : Rows.FastBackSaid := over
#print axioms proved
end Go.Proofs.YtipcdkemokkdfaaGreat.fastBack
