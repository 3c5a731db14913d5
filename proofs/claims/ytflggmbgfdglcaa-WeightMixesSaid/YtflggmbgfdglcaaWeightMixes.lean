/- It is proved that the law 'WeightMixes' of the program returns true for every input, with no condition, and leaves what was handed in as it was. The frame was written by a program; the walk is by hand. -/
import Derived.Test.YtflggmbgfdglcaaRows
import Derived.WalkKit
import Derived.ProofKit
import Derived.OpenShut
import Derived.ShutString
import Derived.ChangeOld
import Derived.Below
import Derived.Test.YtflggmbgfdglcaaBase
import Derived.Test.YtflggmbgfdglcaaB4
import Derived.Test.YtflggmbgfdglcaaAO11
namespace Go.Proofs.Ytflggmbgfdglcaa.weightMixes
open Go.ChangeShapes Go.WideShapes Go.ChangeAt Go.RowKit Go.Deep
open Go.ChangeMaps (open_string shut_string)
set_option linter.unusedVariables false
set_option maxRecDepth 100000

theorem own : ownKnob Try.prog.godebug = none := by kernel_rfl
theorem laidOut : laidOutB Try.prog = true := by kernel_rfl

/-- What the walk is told of a slice of integers that came in: nil, or a row of 'cap' cells that hold the numbers zs, each fitting its kind. -/
def IsRow (k : IntKind) (w : World) (a : Option Addr) (len cap : Nat) (zs : List Int) : Prop :=
  (a = none ∧ len = 0 ∧ cap = 0 ∧ zs = []) ∨
  ∃ x, a = some x ∧ len ≤ cap ∧ cap ≤ maxLen ∧ zs.length = cap ∧ (∀ i, i < zs.length → w.cell? (x.add i) = some (.int k (zs.getD i 0))) ∧ ∀ n ∈ zs, (Lit.int k n).wf = true

open Ieee
theorem ints_of {w : World} {a : Option Addr} {len cap : Nat} {zs : List Int} (h : IsRow .i64 w a len cap zs) : ∃ l : List Int, l.length = len ∧ len ≤ maxLen ∧ (l.length ≤ 70368744177664 → IsInts w a l) := by
  rcases h with ⟨rfl, rfl, rfl, rfl⟩ | ⟨x, rfl, hlc, hcm, hz, hc, -⟩
  · exact ⟨[], rfl, Nat.zero_le _, fun _ => ⟨by simp, .inl rfl⟩⟩
  · have e : (zs.take len).length = len := by rw [List.length_take]; omega
    refine ⟨zs.take len, e, by omega, fun h11 => ⟨by omega, .inr ⟨x, rfl, fun i hi => ?_⟩⟩⟩
    rw [e] at hi
    rw [hc i (by omega)]
    simp [List.getD, hi]
set_option maxHeartbeats 3200000 in
theorem mixes_walk (a b : Option Addr) (la lb ca cb : Nat) (x : Nat) (w : World) (hla : la ≤ 300) (hlb : lb ≤ 300) (out : List Int) (E : Int)
    (C : Calls Try.prog 15 #[.slice a la ca, .slice b lb cb, .float .f64 x] w fun e w' => ∃ v, e = .returned (.tuple #[v, .int .i64 E]) ∧ IsL w' v out ∧ Below w.heap.size w w')
    (D : ∀ W, Below w.heap.size w W → Calls Try.prog 16 #[.slice a la ca, .slice b lb cb, .float .f64 x] W fun e w' => ∃ v, e = .returned (.tuple #[v, .int .i64 E]) ∧ IsL w' v out ∧ Below W.heap.size W w') :
    Calls Try.prog 4 #[.slice a la ca, .slice b lb cb, .float .f64 x] w fun e w' => e = .returned (.bool true) ∧ Below w.heap.size w w' := by
  have CC := Lib.hid C
  have DD := Lib.hid D
  clear C D
  go_enter Try.func4, Try.ntmps4
  go_wp2_with fail
  refine CC.out.mono ?_; rintro e w1 ⟨v1, rfl, hv1, hb1⟩
  have HB1 := Lib.hid hb1
  have HV1 := Lib.hid hv1
  clear hb1 hv1
  go_wp2_with fail
  refine (DD.out _ HB1.out).mono ?_; rintro e w2 ⟨v2, rfl, hv2, hb2⟩
  have HB2 := Lib.hid (HB1.out.trans (hb2.mono HB1.out.size))
  have HV1 := Lib.hid (HV1.out.kept hb2)
  have HV2 := Lib.hid hv2
  clear hb2 hv2
  go_wp2_with fail
  refine (intsL HV1.out HV2.out true (by simp)).mono ?_; rintro e w4 ⟨rfl, n4, rfl⟩
  have HB4 := Lib.hid (below_dn HB2.out n4)
  obtain ⟨w4, hw4⟩ : ∃ w4, w2.drewN n4 = w4 := ⟨_, rfl⟩
  rw [hw4] at HB4 ⊢
  clear hw4
  go_wp2_with fail
  refine (awake14 _).mono ?_; rintro e w6 ⟨rfl, hb6⟩
  go_wp2_with fail
  go_ret
  exact ⟨rfl, HB4.out.trans (hb6.mono HB4.out.size)⟩
theorem same_nil {f : Nat} {args : Array Value} {E : Int} {W : World} (h : Calls Try.prog f args W fun e w' => e = .returned (.tuple #[.slice none 0 0, .int .i64 E]) ∧ w' = W) : Calls Try.prog f args W fun e w' => ∃ v, e = .returned (.tuple #[v, .int .i64 E]) ∧ IsL w' v [] ∧ Below W.heap.size W w' :=
  h.mono (by rintro e w' ⟨rfl, rfl⟩; exact ⟨_, rfl, IsL.nil _, Below.refl _ _⟩)
theorem below_nil {f : Nat} {args : Array Value} {E : Int} {W : World} (h : Calls Try.prog f args W fun e w' => e = .returned (.tuple #[.slice none 0 0, .int .i64 E]) ∧ Below W.heap.size W w') : Calls Try.prog f args W fun e w' => ∃ v, e = .returned (.tuple #[v, .int .i64 E]) ∧ IsL w' v [] ∧ Below W.heap.size W w' :=
  h.mono (by rintro e w' ⟨rfl, hb⟩; exact ⟨_, rfl, IsL.nil _, hb⟩)
theorem mixL_same {old now : List Int} {x : Nat} (h : isN x = false) (ho : fineW old = true) (hn : fineW now = true) (hl : old.length = now.length) : mixL old now (clampC x) = mixL old now (clampD x) := by
  unfold mixL
  refine List.map_congr_left fun i hi => ?_
  have hi := List.mem_range.1 hi
  have h1 := fineW_at ho i hi
  have h2 := fineW_at hn i (by omega)
  rw [(frac_or x h).2.2 _ (by omega)]
theorem mixes_all (a b : Option Addr) (ca cb : Nat) (old now : List Int) (x : Nat) (w : World) (h1 : old.length ≤ 300) (h2 : now.length ≤ 300) (ha : IsInts w a old) (hb : IsInts w b now) :
    Calls Try.prog 4 #[.slice a old.length ca, .slice b now.length cb, .float .f64 x] w fun e w' => e = .returned (.bool true) ∧ Below w.heap.size w w' := by
  by_cases hN : isN x = true
  · exact mixes_walk a b _ _ ca cb x w h1 h2 [] 8 (same_nil (cMixN a b _ _ ca cb x hN w)) (fun W _ => same_nil (dMixN a b _ _ ca cb x hN W))
  · rw [Bool.not_eq_true] at hN
    by_cases hl : old.length = now.length
    · by_cases hf : (fineW old && fineW now) = true
      · rw [Bool.and_eq_true] at hf
        refine mixes_walk a b _ _ ca cb x w h1 h2 (mixL old now (clampD x)) 0 ?_ (fun W hW => dMixOk a b ca cb old now x hN hl h1 W (ha.kept hW) (hb.kept hW) hf.1 hf.2)
        have := cMixOk a b ca cb old now x hN hl h1 w ha hb hf.1 hf.2
        rw [mixL_same hN hf.1 hf.2 hl] at this
        exact this
      · rw [Bool.not_eq_true] at hf
        exact mixes_walk a b _ _ ca cb x w h1 h2 [] 2 (below_nil (cMixF a b ca cb old now x hN hl h1 w ha hb hf)) (fun W hW => below_nil (dMixF a b ca cb old now x hN hl h1 W (ha.kept hW) (hb.kept hW) hf))
    · exact mixes_walk a b _ _ ca cb x w h1 h2 [] 1 (same_nil (cMixL a b _ _ ca cb x hN hl w)) (fun W _ => same_nil (dMixL a b _ _ ca cb x hN hl W))

set_option maxHeartbeats 3200000 in
theorem walk (a0 : Option Addr) (len0 cap0 : Nat) (z0 : List Int) (a1 : Option Addr) (len1 cap1 : Nat) (z1 : List Int) (a2 : Nat) (w : World) (w0 : IsRow .i64 w a0 len0 cap0 z0) (w1 : IsRow .i64 w a1 len1 cap1 z1) (w2 : (Lit.float .f64 a2).wf = true) :
    Calls Try.prog 4 #[.slice a0 len0 cap0, .slice a1 len1 cap1, .float .f64 a2] w fun e w' => e = .returned (.bool true) ∧ Below w.heap.size w w' := by
  obtain ⟨old, hl, hmax, h0⟩ := ints_of w0
  obtain ⟨now, hm, hmax2, h1⟩ := ints_of w1
  subst hl
  subst hm
  unfold maxLen at hmax hmax2
  by_cases hlong : 300 < old.length
  · go_enter Try.func4, Try.ntmps4
    go_wp2_with fail
    refine (awake14 _).mono ?_; rintro e w1 ⟨rfl, hb⟩
    go_wp2_with fail
    go_ret
    exact ⟨rfl, hb⟩
  · by_cases hlong2 : 300 < now.length
    · go_enter Try.func4, Try.ntmps4
      go_wp2_with fail
      refine (awake14 _).mono ?_; rintro e w1 ⟨rfl, hb⟩
      go_wp2_with fail
      go_ret
      exact ⟨rfl, hb⟩
    · exact mixes_all a0 a1 cap0 cap1 old now a2 w (by omega) (by omega) (h0 (by omega)) (h1 (by omega))

theorem lifted (os : Os) (started : os.Started) (H : Type) (enc : TypeId × Value → H) :
    ReturnsInHanded {} Try.checked os 4 .any (Rows.weightMixesSpec.pre6 enc Try.prog Try.f4 Rows.weightMixesRow.domain false) (Rows.weightMixesSpec.post enc Try.prog Try.f4 false true false false) := by
  refine returnsInHanded_of_change (C := Try.checked) own started (by kernel_rfl) Try.func4
    (ChangeSpec.witness6 (enc := enc) (C := Try.checked) false ⟨#[], #[.slice none 0 0, .slice none 0 0, .float .f64 0], []⟩ 8 (by kernel_rfl) (by kernel_rfl) (by kernel_rfl) (by kernel_rfl)) ?_
  intro W base args ds gs before hval0 hW hcnd _
  have hval : ∀ (j : Nat) t v, Try.f4.params[j]? = some t → args[j]? = some v → Value.okWide Try.prog W .any base t v := hval0
  have hW' := hW
  obtain ⟨p, q, hA0, hV, rfl, hfz, hnd⟩ := hW
  have hA : DataW.TrodAll enc Try.prog W 0 (fun _ => true) true Try.f4.params.toList args.toList ds p := hA0
  rw [Try.params4] at hA hval
  obtain ⟨v0, vs0, d0, ds0, p0, q0, hargs, rfl, rfl, h0, r0⟩ := trodAll_cons hA
  obtain ⟨v1, vs1, d1, ds1, p1, q1, rfl, rfl, rfl, h1, r1⟩ := trodAll_cons r0
  obtain ⟨v2, vs2, d2, ds2, p2, q2, rfl, rfl, rfl, h2, r2⟩ := trodAll_cons r1
  obtain ⟨rfl, rfl, rfl⟩ := trodAll_nil r2
  obtain rfl : args = #[v0, v1, v2] := by cases args; simp_all
  obtain ⟨rfl, rfl⟩ := trodVars_none hV
  obtain ⟨a0, len0, cap0, rfl⟩ := okWide_slice Try.underlying30 (hval 0 30 v0 rfl rfl)
  have k0 := h0
  have lt0 : ∀ x ∈ p0, x.block < W.heap.size := by obtain ⟨m, hm⟩ := k0; exact DataW.trod_lt m _ _ _ hm
  obtain ⟨z0, w0⟩ : ∃ zs, IsRow .i64 W a0 len0 cap0 zs := by
    obtain ⟨fuel, hf⟩ := h0
    rcases open_ints Try.underlying30 Try.underlying3 (by kernel_rfl) hf with ⟨hcs, _⟩ | ⟨x, l, c, zs, hcs, _, hl, hm, hz, _, hcell, hwz⟩
    · simp [Value.cells] at hcs
      obtain ⟨rfl, rfl, rfl⟩ := hcs
      exact ⟨[], .inl ⟨rfl, rfl, rfl, rfl⟩⟩
    · simp [Value.cells] at hcs
      obtain ⟨rfl, rfl, rfl⟩ := hcs
      exact ⟨zs, .inr ⟨_, rfl, hl, hm, by simpa using hz, hcell, hwz⟩⟩
  obtain ⟨a1, len1, cap1, rfl⟩ := okWide_slice Try.underlying30 (hval 1 30 v1 rfl rfl)
  have k1 := h1
  have lt1 : ∀ x ∈ p1, x.block < W.heap.size := by obtain ⟨m, hm⟩ := k1; exact DataW.trod_lt m _ _ _ hm
  obtain ⟨z1, w1⟩ : ∃ zs, IsRow .i64 W a1 len1 cap1 zs := by
    obtain ⟨fuel, hf⟩ := h1
    rcases open_ints Try.underlying30 Try.underlying3 (by kernel_rfl) hf with ⟨hcs, _⟩ | ⟨x, l, c, zs, hcs, _, hl, hm, hz, _, hcell, hwz⟩
    · simp [Value.cells] at hcs
      obtain ⟨rfl, rfl, rfl⟩ := hcs
      exact ⟨[], .inl ⟨rfl, rfl, rfl, rfl⟩⟩
    · simp [Value.cells] at hcs
      obtain ⟨rfl, rfl, rfl⟩ := hcs
      exact ⟨zs, .inr ⟨_, rfl, hl, hm, by simpa using hz, hcell, hwz⟩⟩
  have k2 := h2
  have lt2 : ∀ x ∈ p2, x.block < W.heap.size := by obtain ⟨m, hm⟩ := k2; exact DataW.trod_lt m _ _ _ hm
  obtain ⟨a2, rfl, rfl, rfl, w2⟩ := open_float Try.underlying27 (hval 2 27 v2 rfl rfl) h2
  clear hA0 hval0
  refine (walk a0 len0 cap0 z0 a1 len1 cap1 z1 a2 W w0 w1 w2).mono fun e W' ⟨he, bel⟩ => ?_
  subst he
  exact ⟨_, rfl, _, _, _, [], _, [], hW', trodAll_mk1 (shut_bool Try.underlying4 _), (trodAll_cons_mk (Below.trod laidOut (by kernel_rfl) (of_decide_eq_true (by kernel_rfl)) k0 bel lt0) (trodAll_cons_mk (Below.trod laidOut (by kernel_rfl) (of_decide_eq_true (by kernel_rfl)) k1 bel lt1) (trodAll_cons_mk (Below.trod laidOut (by kernel_rfl) (of_decide_eq_true (by kernel_rfl)) k2 bel lt2) trodAll_mk0))), rfl, bel.frame _, fun h => by cases h⟩

theorem over : Rows.weightMixesRow.holds Try.pinned (OpenSpec.ofChange Rows.weightMixesSpec) :=
  OpenClaim.holds_of_wide 4 Try.f4 rfl rfl rfl rfl rfl rfl rfl ⟨rfl, rfl, rfl, rfl, rfl⟩ rfl rfl rfl rfl rfl (by kernel_rfl) Try.func4 (by kernel_rfl)
    (of_decide_eq_true (by kernel_rfl)) (by unfold Func.isWrapper; first | (rw [if_pos (by decide +kernel)]; kernel_rfl) | (rw [if_neg (by decide +kernel)]; exact ⟨rfl, rfl⟩))
    (fun os started H enc _ => lifted os started H enc)

theorem proved : Rows.WeightMixesSaid := over
#print axioms proved
end Go.Proofs.Ytflggmbgfdglcaa.weightMixes
