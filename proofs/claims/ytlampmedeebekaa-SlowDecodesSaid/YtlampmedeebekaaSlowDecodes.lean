/- It is proved that the law 'SlowDecodes' of the program returns true for every input, with no condition, and leaves what was handed in as it was. The frame was written by a program; the walk is by hand. -/
import Derived.Test.YtlampmedeebekaaRows
import Derived.WalkKit
import Derived.ProofKit
import Derived.OpenShut
import Derived.ShutString
import Derived.ChangeOld
import Derived.Below
import Derived.Test.YtlampmedeebekaaBase
import Derived.Deep.Grids
import Derived.Test.YtlampmedeebekaaE10
namespace Go.Proofs.Ytlampmedeebekaa.slowDecodes
open Go.ChangeShapes Go.WideShapes Go.ChangeAt Go.RowKit Go.Deep
open Go.ChangeMaps (open_string shut_string)
set_option linter.unusedVariables false
set_option maxRecDepth 100000

theorem own : ownKnob Try.prog.godebug = none := by kernel_rfl
theorem laidOut : laidOutB Try.prog = true := by kernel_rfl

/-- What the walk is told of a slice of integers that came in: nil, or a row of 'cap' cells that hold the numbers zs, each fitting its kind. -/
def IsRow (k : IntKind) (w : World) (a : Option Addr) (len cap : Nat) (zs : List Int) : Prop :=
  (a = none ∧ len = 0 ∧ cap = 0 ∧ zs = []) ∨
  ∃ x, a = some x ∧ len ≤ cap ∧ cap ≤ maxLen ∧ zs.length = cap ∧ (∀ i, i < zs.length → w.cell? (x.add i) = some (.int k (zs.getD i 0))) ∧ ∀ n ∈ zs, (Lit.int k n).wf = true

/-- What the walk is told of a slice of bools that came in. -/
def IsBools (w : World) (a : Option Addr) (len : Nat) (bs : List Bool) : Prop :=
  bs.length = len ∧ len ≤ maxLen ∧ (bs = [] ∨ ∃ x, a = some x ∧ ∀ i, i < bs.length → w.cell? (x.add i) = some (.bool (bs.getD i false)))

theorem ints_of {w : World} {a : Option Addr} {len cap : Nat} {zs : List Int} (h : IsRow .i64 w a len cap zs) : ∃ l : List Int, l.length = len ∧ len ≤ maxLen ∧ (l.length ≤ 70368744177664 → IsInts w a l) := by
  rcases h with ⟨rfl, rfl, rfl, rfl⟩ | ⟨x, rfl, hlc, hcm, hz, hc, -⟩
  · exact ⟨[], rfl, Nat.zero_le _, fun _ => ⟨by simp, .inl rfl⟩⟩
  · have e : (zs.take len).length = len := by rw [List.length_take]; omega
    refine ⟨zs.take len, e, by omega, fun h11 => ⟨by omega, .inr ⟨x, rfl, fun i hi => ?_⟩⟩⟩
    rw [e] at hi
    rw [hc i (by omega)]
    simp [List.getD, hi]
theorem encS_len (l syms : List Int) (S : List Bool) (E : Int) (hs : syms.length ≤ 100) (h : encL l syms = (S, E)) : S.length ≤ 1600 := by
  unfold encL at h
  by_cases h1 : KraftMath.check l 16 ≠ 0
  · rw [if_pos h1] at h
    injection h with e1 e2
    rw [← e1]; simp
  · rw [if_neg h1] at h
    by_cases h2 : syms.all (goodS l) = true
    · rw [if_pos h2] at h
      injection h with e1 e2
      have := encT_len (l := l) (by simpa using h1) syms h2
      rw [← e1]; omega
    · rw [if_neg h2] at h
      injection h with e1 e2
      rw [← e1]; simp
set_option maxHeartbeats 1600000 in
theorem dec_walk (v1 v2 v3 : Value) (l : List Int) (row : List Bool) (syms : List Int) (a0 a1 a2 : Option Addr) (c0 c1 c2 : Nat) (e1 : v1 = .slice a0 l.length c0) (e2 : v2 = .slice a1 row.length c1) (e3 : v3 = .slice a2 syms.length c2) (w : World) (h1 : IsInts w a0 l) (h2 : IsBoo w a1 row) (h3 : IsInts w a2 syms) (hl : l.length ≤ 200) (hr : row.length ≤ 200) (hs : syms.length ≤ 100) :
    Calls Try.prog 3 #[v1, v2, v3] w fun e w' => e = .returned (.bool true) ∧ Below w.heap.size w w' := by
  have g1 : IsL w v1 l := ⟨_, _, e1, h1⟩
  have g2 : IsB w v2 row := ⟨_, _, e2, h2⟩
  have g3 : IsL w v3 syms := ⟨_, _, e3, h3⟩
  obtain ⟨⟨X, Y, E⟩, hD⟩ : ∃ r, decL l row = r := ⟨_, rfl⟩
  obtain ⟨⟨S, F⟩, hE⟩ : ∃ r, encL l syms = r := ⟨_, rfl⟩
  have HSL := Lib.hid (encS_len l syms S F hs hE)
  have C1 := Lib.hid (fun W (a : IsL W v1 l) (b : IsB W v2 row) => sDecT a b (by omega) X Y E hD)
  have C2 := Lib.hid (fun W (a : IsL W v1 l) (b : IsB W v2 row) => dDecT a b (by omega) (by omega) X Y E hD)
  have C3 := Lib.hid (fun W (a : IsL W v1 l) (b : IsL W v3 syms) => sEncT a b (by omega) S F hE)
  have C4 := Lib.hid (fun W (a : IsL W v1 l) (b : IsL W v3 syms) => dEncT a b (by omega) (by omega) S F hE)
  subst e1 e2 e3
  have G1 := Lib.hid g1; have G2 := Lib.hid g2; have G3 := Lib.hid g3
  clear g1 g2 g3 h1 h2 h3 hD hE
  go_enter Try.func3, Try.ntmps3
  go_wp2_with fail
  refine (C1.out _ G1.out G2.out).mono ?_; rintro e w1 ⟨rfl, hb1⟩
  have hb := hb1
  have G1 := Lib.hid (G1.out.kept hb1); have G2 := Lib.hid (G2.out.kept hb1); have G3 := Lib.hid (G3.out.kept hb1)
  clear hb1
  go_wp2_with fail
  refine (C2.out _ G1.out G2.out).mono ?_; rintro e w2 ⟨rfl, hb1⟩
  have hb := hb.trans (hb1.mono hb.size)
  have G1 := Lib.hid (G1.out.kept hb1); have G3 := Lib.hid (G3.out.kept hb1)
  clear hb1 G2
  go_wp2_with fail
  refine (C3.out _ G1.out G3.out).mono ?_; rintro e w3 ⟨v4, rfl, ho4, hb1⟩
  have hb := hb.trans (hb1.mono hb.size)
  have G1 := Lib.hid (G1.out.kept hb1); have G3 := Lib.hid (G3.out.kept hb1)
  have B4 := Lib.hid ho4.isB
  clear hb1 ho4
  go_wp2_with fail
  refine (C4.out _ G1.out G3.out).mono ?_; rintro e w4 ⟨v5, rfl, ho5, hb1⟩
  have hb := hb.trans (hb1.mono hb.size)
  have B4 := Lib.hid (B4.out.kept hb1)
  have B5 := Lib.hid ho5.isB
  clear hb1 ho5 G1 G3
  go_wp2_with fail
  refine (dBoolsT B4.out B5.out (by have := HSL.out; omega) (by have := HSL.out; omega) true (by simp)).mono ?_; rintro e w5 ⟨rfl, k5, rfl⟩
  have hb := below_dn hb k5
  go_wp2_with fail
  refine (awake09 _).mono ?_; rintro e w6 ⟨rfl, hb6⟩
  go_wp2_with fail
  go_ret
  exact ⟨rfl, hb.trans (hb6.mono hb.size)⟩

set_option maxHeartbeats 1600000 in
theorem walk (a0 : Option Addr) (len0 cap0 : Nat) (z0 : List Int) (a1 : Option Addr) (len1 cap1 : Nat) (z1 : List Bool) (a2 : Option Addr) (len2 cap2 : Nat) (z2 : List Int) (w : World) (w0 : IsRow .i64 w a0 len0 cap0 z0) (w1 : IsBools w a1 len1 z1) (w2 : IsRow .i64 w a2 len2 cap2 z2) :
    Calls Try.prog 3 #[.slice a0 len0 cap0, .slice a1 len1 cap1, .slice a2 len2 cap2] w fun e w' => e = .returned (.bool true) ∧ Below w.heap.size w w' := by
  obtain ⟨l, hl, hmax, h0⟩ := ints_of w0
  obtain ⟨hz, hm1, h1⟩ := w1
  obtain ⟨l2, hl2, hmax2, h2⟩ := ints_of w2
  subst hl
  subst hl2
  subst hz
  unfold maxLen at hmax hmax2 hm1
  by_cases hlong : 200 < l.length
  · go_enter Try.func3, Try.ntmps3
    go_wp2_with fail
    refine (awake09 _).mono ?_; rintro e w1 ⟨rfl, hb⟩
    go_wp2_with fail
    go_ret
    exact ⟨rfl, hb⟩
  · by_cases hlong2 : 200 < z1.length
    · go_enter Try.func3, Try.ntmps3
      go_wp2_with fail
      refine (awake09 _).mono ?_; rintro e w1 ⟨rfl, hb⟩
      go_wp2_with fail
      go_ret
      exact ⟨rfl, hb⟩
    · by_cases hlong3 : 100 < l2.length
      · go_enter Try.func3, Try.ntmps3
        go_wp2_with fail
        refine (awake09 _).mono ?_; rintro e w1 ⟨rfl, hb⟩
        go_wp2_with fail
        go_ret
        exact ⟨rfl, hb⟩
      · exact dec_walk _ _ _ l z1 l2 a0 a1 a2 cap0 cap1 cap2 rfl rfl rfl w (h0 (by omega)) h1 (h2 (by omega)) (by omega) (by omega) (by omega)

theorem lifted (os : Os) (started : os.Started) (H : Type) (enc : TypeId × Value → H) :
    ReturnsInHanded {} Try.checked os 3 .any (Rows.slowDecodesSpec.pre6 enc Try.prog Try.f3 Rows.slowDecodesRow.domain false) (Rows.slowDecodesSpec.post enc Try.prog Try.f3 false true false false) := by
  refine returnsInHanded_of_change (C := Try.checked) own started (by kernel_rfl) Try.func3
    (ChangeSpec.witness6 (enc := enc) (C := Try.checked) false ⟨#[], #[.slice none 0 0, .slice none 0 0, .slice none 0 0], []⟩ 8 (by kernel_rfl) (by kernel_rfl) (by kernel_rfl) (by kernel_rfl)) ?_
  intro W base args ds gs before hval0 hW hcnd _
  have hval : ∀ (j : Nat) t v, Try.f3.params[j]? = some t → args[j]? = some v → Value.okWide Try.prog W .any base t v := hval0
  have hW' := hW
  obtain ⟨p, q, hA0, hV, rfl, hfz, hnd⟩ := hW
  have hA : DataW.TrodAll enc Try.prog W 0 (fun _ => true) true Try.f3.params.toList args.toList ds p := hA0
  rw [Try.params3] at hA hval
  obtain ⟨v0, vs0, d0, ds0, p0, q0, hargs, rfl, rfl, h0, r0⟩ := trodAll_cons hA
  obtain ⟨v1, vs1, d1, ds1, p1, q1, rfl, rfl, rfl, h1, r1⟩ := trodAll_cons r0
  obtain ⟨v2, vs2, d2, ds2, p2, q2, rfl, rfl, rfl, h2, r2⟩ := trodAll_cons r1
  obtain ⟨rfl, rfl, rfl⟩ := trodAll_nil r2
  obtain rfl : args = #[v0, v1, v2] := by cases args; simp_all
  obtain ⟨rfl, rfl⟩ := trodVars_none hV
  obtain ⟨a0, len0, cap0, rfl⟩ := okWide_slice Try.underlying22 (hval 0 22 v0 rfl rfl)
  have k0 := h0
  have lt0 : ∀ x ∈ p0, x.block < W.heap.size := by obtain ⟨m, hm⟩ := k0; exact DataW.trod_lt m _ _ _ hm
  obtain ⟨z0, w0⟩ : ∃ zs, IsRow .i64 W a0 len0 cap0 zs := by
    obtain ⟨fuel, hf⟩ := h0
    rcases open_ints Try.underlying22 Try.underlying3 (by kernel_rfl) hf with ⟨hcs, _⟩ | ⟨x, l, c, zs, hcs, _, hl, hm, hz, _, hcell, hwz⟩
    · simp [Value.cells] at hcs
      obtain ⟨rfl, rfl, rfl⟩ := hcs
      exact ⟨[], .inl ⟨rfl, rfl, rfl, rfl⟩⟩
    · simp [Value.cells] at hcs
      obtain ⟨rfl, rfl, rfl⟩ := hcs
      exact ⟨zs, .inr ⟨_, rfl, hl, hm, by simpa using hz, hcell, hwz⟩⟩
  obtain ⟨a1, len1, cap1, rfl⟩ := okWide_slice Try.underlying23 (hval 1 23 v1 rfl rfl)
  have k1 := h1
  have lt1 : ∀ x ∈ p1, x.block < W.heap.size := by obtain ⟨m, hm⟩ := k1; exact DataW.trod_lt m _ _ _ hm
  obtain ⟨z1, w1⟩ : ∃ zs, IsBools W a1 len1 zs := by
    obtain ⟨fuel, hf⟩ := h1
    rcases open_bools Try.underlying23 Try.underlying4 (by kernel_rfl) hf with ⟨hcs, _⟩ | ⟨x, l, c, B, hcs, _, hl, hm, _, hcell⟩
    · simp [Value.cells] at hcs
      obtain ⟨rfl, rfl, rfl⟩ := hcs
      exact ⟨[], rfl, Nat.zero_le _, .inl rfl⟩
    · simp [Value.cells] at hcs
      obtain ⟨rfl, rfl, rfl⟩ := hcs
      exact ⟨(List.range len1).map B, by simp, by omega, .inr ⟨_, rfl, fun i hi => by rw [hcell i (by simp at hi; omega)]; simp at hi; simp [List.getD, hi]⟩⟩
  obtain ⟨a2, len2, cap2, rfl⟩ := okWide_slice Try.underlying22 (hval 2 22 v2 rfl rfl)
  have k2 := h2
  have lt2 : ∀ x ∈ p2, x.block < W.heap.size := by obtain ⟨m, hm⟩ := k2; exact DataW.trod_lt m _ _ _ hm
  obtain ⟨z2, w2⟩ : ∃ zs, IsRow .i64 W a2 len2 cap2 zs := by
    obtain ⟨fuel, hf⟩ := h2
    rcases open_ints Try.underlying22 Try.underlying3 (by kernel_rfl) hf with ⟨hcs, _⟩ | ⟨x, l, c, zs, hcs, _, hl, hm, hz, _, hcell, hwz⟩
    · simp [Value.cells] at hcs
      obtain ⟨rfl, rfl, rfl⟩ := hcs
      exact ⟨[], .inl ⟨rfl, rfl, rfl, rfl⟩⟩
    · simp [Value.cells] at hcs
      obtain ⟨rfl, rfl, rfl⟩ := hcs
      exact ⟨zs, .inr ⟨_, rfl, hl, hm, by simpa using hz, hcell, hwz⟩⟩
  clear hA0 hval0
  refine (walk a0 len0 cap0 z0 a1 len1 cap1 z1 a2 len2 cap2 z2 W w0 w1 w2).mono fun e W' ⟨he, bel⟩ => ?_
  subst he
  exact ⟨_, rfl, _, _, _, [], _, [], hW', trodAll_mk1 (shut_bool Try.underlying4 _), (trodAll_cons_mk (Below.trod laidOut (by kernel_rfl) (of_decide_eq_true (by kernel_rfl)) k0 bel lt0) (trodAll_cons_mk (Below.trod laidOut (by kernel_rfl) (of_decide_eq_true (by kernel_rfl)) k1 bel lt1) (trodAll_cons_mk (Below.trod laidOut (by kernel_rfl) (of_decide_eq_true (by kernel_rfl)) k2 bel lt2) trodAll_mk0))), rfl, bel.frame _, fun h => by cases h⟩

theorem over : Rows.slowDecodesRow.holds Try.pinned (OpenSpec.ofChange Rows.slowDecodesSpec) :=
  OpenClaim.holds_of_wide 3 Try.f3 rfl rfl rfl rfl rfl rfl rfl ⟨rfl, rfl, rfl, rfl, rfl⟩ rfl rfl rfl rfl rfl (by kernel_rfl) Try.func3 (by kernel_rfl)
    (of_decide_eq_true (by kernel_rfl)) (by unfold Func.isWrapper; first | (rw [if_pos (by decide +kernel)]; kernel_rfl) | (rw [if_neg (by decide +kernel)]; exact ⟨rfl, rfl⟩))
    (fun os started H enc _ => lifted os started H enc)

theorem proved : Rows.SlowDecodesSaid := over
#print axioms proved
end Go.Proofs.Ytlampmedeebekaa.slowDecodes
