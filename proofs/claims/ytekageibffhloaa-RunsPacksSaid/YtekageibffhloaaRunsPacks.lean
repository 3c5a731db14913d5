/- It is proved that the law 'RunsPacks' of the program returns true for every input, with no condition, and leaves what was handed in as it was. The frame was written by a program; the walk is by hand. -/
import Derived.Test.YtekageibffhloaaRows
import Derived.WalkKit
import Derived.ProofKit
import Derived.OpenShut
import Derived.ShutString
import Derived.ChangeOld
import Derived.Below
import Derived.Test.YtekageibffhloaaBase
import Derived.Test.YtekageibffhloaaB2
import Derived.Test.YtekageibffhloaaR8
namespace Go.Proofs.Ytekageibffhloaa.runsPacks
open Go.ChangeShapes Go.WideShapes Go.ChangeAt Go.RowKit Go.Deep
open Go.ChangeMaps (open_string shut_string)
set_option linter.unusedVariables false
set_option maxRecDepth 100000

theorem own : ownKnob Try.prog.godebug = none := by kernel_rfl
theorem laidOut : laidOutB Try.prog = true := by kernel_rfl

/-- What the walk is told of a slice of integers that came in: nil, or a row of 'cap' cells that hold the numbers zs, each fitting its kind. -/
def IsRow (k : IntKind) (w : World) (a : Option Addr) (len cap : Nat) (zs : List Int) : Prop :=
  (a = none ∧ len = 0 ∧ cap = 0 ∧ zs = []) ∨
  ∃ x, a = some x ∧ len ≤ cap ∧ cap ≤ maxLen ∧ zs.length = cap ∧ (∀ i, i < zs.length → w.cell? (x.add i) = some (.int k (zs.getD i 0))) ∧ ∀ n ∈ zs, (Lit.int k n).wf = true

/-- What the walk is told of the slice of structs that came in at place 1: nil, or elements at their places. -/
def IsRows1 (w : World) (a : Option Addr) (len cap : Nat) (F0 : Nat → Int) (F1 : Nat → Int) : Prop :=
  (a = none ∧ len = 0 ∧ cap = 0) ∨ ∃ x, a = some x ∧ len ≤ cap ∧ cap ≤ maxLen ∧ ∀ i, i < len → (w.cell? ((x.add (i * 2)).add 0) = some (.int .i64 (F0 i)) ∧ (Lit.int .i64 (F0 i)).wf = true) ∧ (w.cell? ((x.add (i * 2)).add 1) = some (.int .i64 (F1 i)) ∧ (Lit.int .i64 (F1 i)).wf = true)

open RunsMath
theorem ints_of {w : World} {a : Option Addr} {len cap : Nat} {zs : List Int} (h : IsRow .i64 w a len cap zs) : ∃ l : List Int, l.length = len ∧ len ≤ maxLen ∧ (l.length ≤ 70368744177664 → IsInts w a l) := by
  rcases h with ⟨rfl, rfl, rfl, rfl⟩ | ⟨x, rfl, hlc, hcm, hz, hc, -⟩
  · exact ⟨[], rfl, Nat.zero_le _, fun _ => ⟨by simp, .inl rfl⟩⟩
  · have e : (zs.take len).length = len := by rw [List.length_take]; omega
    refine ⟨zs.take len, e, by omega, fun h11 => ⟨by omega, .inr ⟨x, rfl, fun i hi => ?_⟩⟩⟩
    rw [e] at hi
    rw [hc i (by omega)]
    simp [List.getD, hi]
theorem runs_of {w : World} {a : Option Addr} {len cap : Nat} {F G : Nat → Int} (h : IsRows1 w a len cap F G) : ∃ l : List Run, l.length = len ∧ len ≤ maxLen ∧ (l.length ≤ 70368744177664 → IsRuns w a l) := by
  refine ⟨(List.range len).map (fun i => (F i, G i)), by simp, ?_, fun hl => ⟨hl, ?_⟩⟩
  · rcases h with ⟨-, h, -⟩ | ⟨_, _, h1, h2, _⟩ <;> omega
  · rcases h with ⟨rfl, rfl, rfl⟩ | ⟨x, rfl, hlc, hcm, hc⟩
    · exact .inl rfl
    · refine .inr ⟨x, rfl, fun i hi => ?_⟩
      simp only [List.length_map, List.length_range] at hi
      obtain ⟨⟨h1, -⟩, h2, -⟩ := hc i hi
      have e0 : (x.add (i * 2)).add 0 = x.add (i * 2) := by simp [Addr.add]
      rw [e0] at h1
      have e1 : (x.add (i * 2)).add 1 = ⟨(x.add (i * 2)).block, (x.add (i * 2)).off + 1, none⟩ := rfl
      rw [e1] at h2
      have hg : ((List.range len).map (fun i => (F i, G i))).getD i (0, 0) = (F i, G i) := by simp [List.getD_eq_getElem?_getD, hi]
      rw [hg]
      exact ⟨h1, h2⟩
set_option maxHeartbeats 1600000 in
theorem in_walk (a0 : Option Addr) (c0 : Nat) (l : List Int) (a1 : Option Addr) (c1 : Nat) (r : List Run) (n : Int) (w : World) (h0 : IsInts w a0 l) (h1 : IsRuns w a1 r) (hl : l.length ≤ 1100) (hr : r.length ≤ 200) :
    Calls Try.prog 6 #[.slice a0 l.length c0, .slice a1 r.length c1, .int .i64 n] w fun e w' => e = .returned (.bool true) ∧ Below w.heap.size w w' := by
  have g0 : IsL w (.slice a0 l.length c0) l := ⟨_, _, rfl, h0⟩
  have g1 : IsR w (.slice a1 r.length c1) r := ⟨_, _, rfl, h1⟩
  obtain ⟨⟨E, U⟩, hU⟩ : ∃ p, unpack r n = p := ⟨_, rfl⟩
  obtain ⟨P, hP⟩ : ∃ P, packL l = P := ⟨_, rfl⟩
  obtain ⟨X, hX⟩ : ∃ X, ((extra n : Nat) : Int) = X := ⟨_, rfl⟩
  have C1 := fun W (h : IsR W (.slice a1 r.length c1) r) => unpT n E U h (by omega) hU
  have C2 := fun W (h : IsR W (.slice a1 r.length c1) r) => dunpT n E U h (by omega) hU
  have C3 := fun W (h : IsL W (.slice a0 l.length c0) l) => packT P h (by omega) hP
  have C4 := fun W (h : IsL W (.slice a0 l.length c0) l) => dpackT P h (by omega) hP
  have C5 := rExtra n X hX
  have C6 := dExtra n X hX
  have C1_ := Lib.hid C1
  have C2_ := Lib.hid C2
  have C3_ := Lib.hid C3
  have C4_ := Lib.hid C4
  have C5_ := Lib.hid C5
  have C6_ := Lib.hid C6
  have g0_ := Lib.hid g0
  have g1_ := Lib.hid g1
  clear C1 C2 C3 C4 C5 C6 g0 g1
  clear h0 h1 hU hP hX
  go_enter Try.func6, Try.ntmps6
  go_wp2_with fail
  refine (C1_.out w g1_.out).mono ?_; rintro e w1 ⟨v1, rfl, h1, hb⟩
  have g0 := Lib.hid (g0_.out.kept hb); have g1 := Lib.hid (g1_.out.kept hb)
  have h1_ := Lib.hid h1
  clear h1
  clear g0_ g1_
  go_wp2_with fail
  refine (C2_.out w1 g1.out).mono ?_; rintro e w2 ⟨v2, rfl, h2, hb2⟩
  have g0 := Lib.hid (g0.out.kept hb2); have h1 := Lib.hid (h1_.out.kept hb2)
  have hb := hb.trans (hb2.mono hb.size)
  have h2_ := Lib.hid h2
  clear h2
  clear hb2 g1 h1_
  go_wp2_with fail
  refine (C3_.out w2 g0.out).mono ?_; rintro e w3 ⟨v3, rfl, h3, hb2⟩
  have g0 := Lib.hid (g0.out.kept hb2); have h1 := Lib.hid (h1.out.kept hb2); have h2 := Lib.hid (h2_.out.kept hb2)
  have hb := hb.trans (hb2.mono hb.size)
  have h3_ := Lib.hid h3
  clear h3
  clear hb2 h2_
  go_wp2_with fail
  refine (C4_.out w3 g0.out).mono ?_; rintro e w4 ⟨v4, rfl, h4, hb2⟩
  have h1 := Lib.hid (h1.out.kept hb2); have h2 := Lib.hid (h2.out.kept hb2); have h3 := Lib.hid (h3_.out.kept hb2)
  have hb := hb.trans (hb2.mono hb.size)
  have h4_ := Lib.hid h4
  clear h4
  clear hb2 h3_ g0
  go_wp2_with fail
  refine (dSameB h3.out h4_.out true (by simp)).mono ?_; rintro e w5 ⟨rfl, hb2⟩
  have h1 := Lib.hid (h1.out.kept hb2); have h2 := Lib.hid (h2.out.kept hb2)
  have hb := hb.trans (hb2.mono hb.size)
  clear hb2 h3 h4_
  go_wp2_with fail
  refine (intsB h1.out h2.out true (by simp)).mono ?_; rintro e w6 ⟨rfl, hb2⟩
  have hb := hb.trans (hb2.mono hb.size)
  clear hb2 h1 h2
  go_wp2_with fail
  refine (C5_.out w6).mono ?_; rintro e w7 ⟨rfl, rfl⟩
  go_wp2_with fail
  refine (C6_.out w7).mono ?_; rintro e w8 ⟨rfl, rfl⟩
  go_wp2_with fail
  refine (awake12 _).mono ?_; rintro e w9 ⟨rfl, hb2⟩
  go_wp2_with fail
  go_ret
  exact ⟨rfl, hb.trans (hb2.mono hb.size)⟩

set_option maxHeartbeats 3200000 in
theorem walk (a0 : Option Addr) (len0 cap0 : Nat) (z0 : List Int) (a1 : Option Addr) (len1 cap1 : Nat) (F1_0 : Nat → Int) (F1_1 : Nat → Int) (a2 : Int) (w : World) (w0 : IsRow .i64 w a0 len0 cap0 z0) (w1 : IsRows1 w a1 len1 cap1 F1_0 F1_1) (w2 : (Lit.int .i64 a2).wf = true) :
    Calls Try.prog 6 #[.slice a0 len0 cap0, .slice a1 len1 cap1, .int .i64 a2] w fun e w' => e = .returned (.bool true) ∧ Below w.heap.size w w' := by
  obtain ⟨l, hl, hmax, h0⟩ := ints_of w0
  obtain ⟨r, hr, hmax2, h1⟩ := runs_of w1
  clear w0 w1 w2
  subst hl
  subst hr
  unfold maxLen at hmax hmax2
  by_cases hlong : 1100 < l.length
  · go_enter Try.func6, Try.ntmps6
    go_wp2_with fail
    refine (awake12 _).mono ?_; rintro e w1 ⟨rfl, hb⟩
    go_wp2_with fail
    go_ret
    exact ⟨rfl, hb⟩
  · by_cases hlong2 : 200 < r.length
    · go_enter Try.func6, Try.ntmps6
      go_wp2_with fail
      refine (awake12 _).mono ?_; rintro e w1 ⟨rfl, hb⟩
      go_wp2_with fail
      go_ret
      exact ⟨rfl, hb⟩
    · exact in_walk a0 cap0 l a1 cap1 r a2 w (h0 (by omega)) (h1 (by omega)) (by omega) (by omega)

theorem lifted (os : Os) (started : os.Started) (H : Type) (enc : TypeId × Value → H) :
    ReturnsInHanded {} Try.checked os 6 .any (Rows.runsPacksSpec.pre6 enc Try.prog Try.f6 Rows.runsPacksRow.domain false) (Rows.runsPacksSpec.post enc Try.prog Try.f6 false true false false) := by
  refine returnsInHanded_of_change (C := Try.checked) own started (by kernel_rfl) Try.func6
    (ChangeSpec.witness6 (enc := enc) (C := Try.checked) false ⟨#[], #[.slice none 0 0, .slice none 0 0, .int .i64 0], []⟩ 8 (by kernel_rfl) (by kernel_rfl) (by kernel_rfl) (by kernel_rfl)) ?_
  intro W base args ds gs before hval0 hW hcnd _
  have hval : ∀ (j : Nat) t v, Try.f6.params[j]? = some t → args[j]? = some v → Value.okWide Try.prog W .any base t v := hval0
  have hW' := hW
  obtain ⟨p, q, hA0, hV, rfl, hfz, hnd⟩ := hW
  have hA : DataW.TrodAll enc Try.prog W 0 (fun _ => true) true Try.f6.params.toList args.toList ds p := hA0
  rw [Try.params6] at hA hval
  obtain ⟨v0, vs0, d0, ds0, p0, q0, hargs, rfl, rfl, h0, r0⟩ := trodAll_cons hA
  obtain ⟨v1, vs1, d1, ds1, p1, q1, rfl, rfl, rfl, h1, r1⟩ := trodAll_cons r0
  obtain ⟨v2, vs2, d2, ds2, p2, q2, rfl, rfl, rfl, h2, r2⟩ := trodAll_cons r1
  obtain ⟨rfl, rfl, rfl⟩ := trodAll_nil r2
  obtain rfl : args = #[v0, v1, v2] := by cases args; simp_all
  obtain ⟨rfl, rfl⟩ := trodVars_none hV
  obtain ⟨a0, len0, cap0, rfl⟩ := okWide_slice Try.underlying22 (hval 0 22 v0 rfl rfl)
  have k0 := h0
  have lt0 : ∀ x ∈ p0, x.block < W.heap.size := by obtain ⟨m, hm⟩ := k0; exact DataW.trod_lt m _ _ _ hm
  obtain ⟨z0, w0⟩ : ∃ zs, IsRow .i64 W a0 len0 cap0 zs := by
    obtain ⟨fuel, hf⟩ := h0
    rcases open_ints Try.underlying22 Try.underlying3 (by kernel_rfl) hf with ⟨hcs, _⟩ | ⟨x, l, c, zs, hcs, _, hl, hm, hz, _, hcell, hwz⟩
    · simp [Value.cells] at hcs
      obtain ⟨rfl, rfl, rfl⟩ := hcs
      exact ⟨[], .inl ⟨rfl, rfl, rfl, rfl⟩⟩
    · simp [Value.cells] at hcs
      obtain ⟨rfl, rfl, rfl⟩ := hcs
      exact ⟨zs, .inr ⟨_, rfl, hl, hm, by simpa using hz, hcell, hwz⟩⟩
  obtain ⟨a1, len1, cap1, rfl⟩ := okWide_slice Try.underlying37 (hval 1 37 v1 rfl rfl)
  have k1 := h1
  have lt1 : ∀ x ∈ p1, x.block < W.heap.size := by obtain ⟨m, hm⟩ := k1; exact DataW.trod_lt m _ _ _ hm
  obtain ⟨F1_0, F1_1, w1⟩ : ∃ F0 F1, IsRows1 W a1 len1 cap1 F0 F1 := by
    obtain ⟨fuel, hf⟩ := h1
    rcases open_rows Try.underlying37 Try.underlying88 (by kernel_rfl) (by kernel_rfl) hf with hcs | ⟨x, l, c, hcs, hl, hm, hr⟩
    · simp [Value.cells] at hcs
      obtain ⟨rfl, rfl, rfl⟩ := hcs
      exact ⟨fun _ => 0, fun _ => 0, .inl ⟨rfl, rfl, rfl⟩⟩
    · simp [Value.cells] at hcs
      obtain ⟨rfl, rfl, rfl⟩ := hcs
      obtain ⟨G0, g0⟩ := hr.int 0 _ rfl Try.underlying3
      obtain ⟨G1, g1⟩ := hr.int 1 _ rfl Try.underlying3
      exact ⟨G0, G1, .inr ⟨_, rfl, hl, hm, fun i hi => ⟨g0 i hi, g1 i hi⟩⟩⟩
  have k2 := h2
  have lt2 : ∀ x ∈ p2, x.block < W.heap.size := by obtain ⟨m, hm⟩ := k2; exact DataW.trod_lt m _ _ _ hm
  obtain ⟨a2, rfl, rfl, rfl, w2⟩ := open_int Try.underlying3 (hval 2 3 v2 rfl rfl) h2
  clear hA0 hval0
  refine (walk a0 len0 cap0 z0 a1 len1 cap1 F1_0 F1_1 a2 W w0 w1 w2).mono fun e W' ⟨he, bel⟩ => ?_
  subst he
  exact ⟨_, rfl, _, _, _, [], _, [], hW', trodAll_mk1 (shut_bool Try.underlying4 _), (trodAll_cons_mk (Below.trod laidOut (by kernel_rfl) (of_decide_eq_true (by kernel_rfl)) k0 bel lt0) (trodAll_cons_mk (Below.trod laidOut (by kernel_rfl) (of_decide_eq_true (by kernel_rfl)) k1 bel lt1) (trodAll_cons_mk (Below.trod laidOut (by kernel_rfl) (of_decide_eq_true (by kernel_rfl)) k2 bel lt2) trodAll_mk0))), rfl, bel.frame _, fun h => by cases h⟩

theorem over : Rows.runsPacksRow.holds Try.pinned (OpenSpec.ofChange Rows.runsPacksSpec) :=
  OpenClaim.holds_of_wide 6 Try.f6 rfl rfl rfl rfl rfl rfl rfl ⟨rfl, rfl, rfl, rfl, rfl⟩ rfl rfl rfl rfl rfl (by kernel_rfl) Try.func6 (by kernel_rfl)
    (of_decide_eq_true (by kernel_rfl)) (by unfold Func.isWrapper; first | (rw [if_pos (by decide +kernel)]; kernel_rfl) | (rw [if_neg (by decide +kernel)]; exact ⟨rfl, rfl⟩))
    (fun os started H enc _ => lifted os started H enc)

theorem proved : Rows.RunsPacksSaid := over
#print axioms proved
end Go.Proofs.Ytekageibffhloaa.runsPacks
