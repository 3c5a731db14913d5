/- It is proved that the law 'BittreeCodes' of the program returns true for every input, with no condition, and leaves what was handed in as it was. The frame was written by a program; the walk is by hand. -/
import Derived.Test.YtkdkedgpchcfpaaRows
import Derived.WalkKit
import Derived.ProofKit
import Derived.OpenShut
import Derived.ShutString
import Derived.ChangeOld
import Derived.Below
import Derived.Test.YtkdkedgpchcfpaaBase
import Derived.Test.YtkdkedgpchcfpaaG24
namespace Go.Proofs.Ytkdkedgpchcfpaa.bittreeCodes
open Go.ChangeShapes Go.WideShapes Go.ChangeAt Go.RowKit Go.Deep
open Go.ChangeMaps (open_string shut_string)
set_option linter.unusedVariables false
set_option maxRecDepth 100000

theorem own : ownKnob Try.prog.godebug = none := by kernel_rfl
theorem laidOut : laidOutB Try.prog = true := by kernel_rfl

/-- What the walk is told of a slice of integers that came in: nil, or a row of 'cap' cells that hold the numbers zs, each fitting its kind. -/
def IsRow (k : IntKind) (w : World) (a : Option Addr) (len cap : Nat) (zs : List Int) : Prop :=
  (a = none ∧ len = 0 ∧ cap = 0 ∧ zs = []) ∨
  ∃ x, a = some x ∧ len ≤ cap ∧ cap ≤ maxLen ∧ zs.length = cap ∧ (∀ i, i < zs.length → w.cell? (x.add i) = some (.int k (zs.getD i 0))) ∧ ∀ n ∈ zs, (Lit.int k n).wf = true

open Range
theorem ints_of {w : World} {a : Option Addr} {len cap : Nat} {zs : List Int} (h : IsRow .i64 w a len cap zs) : ∃ l : List Int, l.length = len ∧ len ≤ maxLen ∧ (l.length ≤ 70368744177664 → IsInts w a l) := by
  rcases h with ⟨rfl, rfl, rfl, rfl⟩ | ⟨x, rfl, hlc, hcm, hz, hc, -⟩
  · exact ⟨[], rfl, Nat.zero_le _, fun _ => ⟨by simp, .inl rfl⟩⟩
  · have e : (zs.take len).length = len := by rw [List.length_take]; omega
    refine ⟨zs.take len, e, by omega, fun h11 => ⟨by omega, .inr ⟨x, rfl, fun i hi => ?_⟩⟩⟩
    rw [e] at hi
    rw [hc i (by omega)]
    simp [List.getD, hi]
set_option maxHeartbeats 1600000 in
theorem codes_walk (a0 : Option Addr) (c0 : Nat) (l : List Int) (s : ByteArray) (p q : Int) (w : World) (h0 : IsInts w a0 l) (hl : l.length ≤ 300) (hs : s.size ≤ 300) (hp : p ≤ 300 ∨ 1048576 < p) :
    Calls Try.prog 7 #[.slice a0 l.length c0, .string s, .agg #[.int .i64 p, .int .i64 q]] w fun e w' => e = .returned (.bool true) ∧ Below w.heap.size w w' := by
  have g0 : IsL w (.slice a0 l.length c0) l := ⟨_, _, rfl, h0⟩
  obtain ⟨⟨S, E⟩, hr⟩ : ∃ r, encB l q = r := ⟨_, rfl⟩
  obtain ⟨⟨L, F⟩, hd⟩ : ∃ r, decB s.data.toList p q = r := ⟨_, rfl⟩
  have C1 := fun W (h : IsL W (.slice a0 l.length c0) l) => tEncodeT h (by omega) q S E hr
  have C2 := fun W (h : IsL W (.slice a0 l.length c0) l) => bEncodeT h (by omega) q S E hr
  have C3 := fun W => tDecodeT (w := W) s (by omega) p q L F hd
  have C4 := fun W => bDecodeT (w := W) s.data.toList (by simpa using (by omega : s.size ≤ 1000000)) p q L F hd
  have e4 : sB s.data.toList = s := by simp [sB]
  rw [e4] at C4
  have C1_ := Lib.hid C1
  have C2_ := Lib.hid C2
  have C3_ := Lib.hid C3
  have C4_ := Lib.hid C4
  have g0_ := Lib.hid g0
  clear C1 C2 C3 C4 g0
  clear h0 hr hd e4
  have hX : decide (300 < p) = false ∨ (decide (300 < p) = true ∧ decide (p ≤ 1048576) = false) := by
    rcases hp with h | h
    · left; simp; omega
    · right; constructor <;> simp <;> omega
  clear hp
  go_enter Try.func7, Try.ntmps7
  rcases hX with hd1 | ⟨hd1, hd2⟩
  all_goals
    go_wp2_with fail
    obtain ⟨W0, hW0⟩ : ∃ W0, w.alloc (.cells #[.int .i64 p, .int .i64 q] 51) = W0 := ⟨_, rfl⟩
    have k0 : W0.cell? ⟨w.heap.size, 0, none⟩ = some (.int .i64 p) := by rw [← hW0]; exact cell_lit (heap_alloc_new _ _) 0 _ rfl
    have k1 : W0.cell? ⟨w.heap.size, 1, none⟩ = some (.int .i64 q) := by rw [← hW0]; exact cell_lit (heap_alloc_new _ _) 1 _ rfl
    have hgl : w.heap.size < W0.heap.size := by rw [← hW0]; simp
    have hb : Below w.heap.size w W0 := by rw [← hW0]; exact (Below.refl _ _).alloc (Nat.le_refl _) _
    have G0 := Lib.hid (show IsL W0 (.slice a0 l.length c0) l by rw [← hW0]; exact g0_.out.alloc _)
    rw [hW0]
    clear hW0 g0_
    refine (C1_.out _ G0.out).mono ?_; rintro e w1 ⟨rfl, hb1⟩
    have G1 := Lib.hid (G0.out.kept hb1)
    have k0 := (hb1.cell (p := ⟨w.heap.size, 0, none⟩) hgl).trans k0
    have k1 := (hb1.cell (p := ⟨w.heap.size, 1, none⟩) hgl).trans k1
    have hb := hb.trans (hb1.mono hb.size)
    have hgl := Nat.lt_of_lt_of_le hgl hb1.size
    clear hb1 G0
    go_wp2_with fail
    refine (C2_.out _ G1.out).mono ?_; rintro e w2 ⟨rfl, hb2⟩
    have k0 := (hb2.cell (p := ⟨w.heap.size, 0, none⟩) hgl).trans k0
    have k1 := (hb2.cell (p := ⟨w.heap.size, 1, none⟩) hgl).trans k1
    have hb := hb.trans (hb2.mono hb.size)
    have hgl := Nat.lt_of_lt_of_le hgl hb2.size
    clear hb2 G1
    go_wp2_with fail
    refine (C3_.out _).mono ?_; rintro e w3 ⟨v3, rfl, i3, hb3⟩
    have k0 := (hb3.cell (p := ⟨w.heap.size, 0, none⟩) hgl).trans k0
    have k1 := (hb3.cell (p := ⟨w.heap.size, 1, none⟩) hgl).trans k1
    have hb := hb.trans (hb3.mono hb.size)
    have hgl := Nat.lt_of_lt_of_le hgl hb3.size
    have I3 := Lib.hid i3
    clear hb3 i3
    go_wp2_with fail
    refine (C4_.out _).mono ?_; rintro e w4 ⟨v4, rfl, i4, hb4⟩
    have hb := hb.trans (hb4.mono hb.size)
    have I3 := Lib.hid (I3.out.kept hb4)
    have I4 := Lib.hid i4
    clear hb4 i4 k0 k1 hgl
    go_wp2_with fail
    refine (intsL I3.out I4.out true (by simp)).mono ?_; rintro e w5 ⟨rfl, k5, rfl⟩
    have hb := below_dn hb k5
    go_wp2_with fail
    refine (awake46 _).mono ?_; rintro e w6 ⟨rfl, hb6⟩
    go_wp2_with fail
    go_ret
    exact ⟨rfl, hb.trans (hb6.mono hb.size)⟩

set_option maxHeartbeats 1600000 in
theorem walk (a0 : Option Addr) (len0 cap0 : Nat) (z0 : List Int) (a1 : ByteArray) (b2_0 : Int) (b2_1 : Int) (w : World) (w0 : IsRow .i64 w a0 len0 cap0 z0) (w1 : a1.size ≤ maxLen) (w2_0 : (Lit.int .i64 b2_0).wf = true) (w2_1 : (Lit.int .i64 b2_1).wf = true) :
    Calls Try.prog 7 #[.slice a0 len0 cap0, .string a1, .agg #[.int .i64 b2_0, .int .i64 b2_1]] w fun e w' => e = .returned (.bool true) ∧ Below w.heap.size w w' := by
  obtain ⟨l, hl, hmax, h0⟩ := ints_of w0
  subst hl
  unfold maxLen at hmax w1
  by_cases hlong : 300 < l.length
  · go_enter Try.func7, Try.ntmps7
    go_wp2_with fail
    refine (awake46 _).mono ?_; rintro e w1 ⟨rfl, hb⟩
    go_wp2_with fail
    go_ret
    exact ⟨rfl, step1 (Below.refl _ _) hb⟩
  · by_cases hlong2 : 300 < a1.size
    · go_enter Try.func7, Try.ntmps7
      go_wp2_with fail
      refine (awake46 _).mono ?_; rintro e w1 ⟨rfl, hb⟩
      go_wp2_with fail
      go_ret
      exact ⟨rfl, step1 (Below.refl _ _) hb⟩
    · by_cases hp : b2_0 ≤ 300 ∨ 1048576 < b2_0
      · exact codes_walk a0 cap0 l a1 b2_0 b2_1 w (h0 (by omega)) (by omega) (by omega) hp
      · have hd1 : decide (300 < b2_0) = true := by simp; omega
        have hd2 : decide (b2_0 ≤ 1048576) = true := by simp; omega
        clear hp
        go_enter Try.func7, Try.ntmps7
        go_wp2_with fail
        refine (awake46 _).mono ?_; rintro e w1 ⟨rfl, hb⟩
        go_wp2_with fail
        go_ret
        exact ⟨rfl, step1 (Below.refl _ _) hb⟩

theorem lifted (os : Os) (started : os.Started) (H : Type) (enc : TypeId × Value → H) :
    ReturnsInHanded {} Try.checked os 7 .any (Rows.bittreeCodesSpec.pre6 enc Try.prog Try.f7 Rows.bittreeCodesRow.domain false) (Rows.bittreeCodesSpec.post enc Try.prog Try.f7 false true false false) := by
  refine returnsInHanded_of_change (C := Try.checked) own started (by kernel_rfl) Try.func7
    (ChangeSpec.witness6 (enc := enc) (C := Try.checked) false ⟨#[], #[.slice none 0 0, .string ByteArray.empty, .agg #[.int .i64 0, .int .i64 0]], []⟩ 8 (by kernel_rfl) (by kernel_rfl) (by kernel_rfl) (by kernel_rfl)) ?_
  intro W base args ds gs before hval0 hW hcnd _
  have hval : ∀ (j : Nat) t v, Try.f7.params[j]? = some t → args[j]? = some v → Value.okWide Try.prog W .any base t v := hval0
  have hW' := hW
  obtain ⟨p, q, hA0, hV, rfl, hfz, hnd⟩ := hW
  have hA : DataW.TrodAll enc Try.prog W 0 (fun _ => true) true Try.f7.params.toList args.toList ds p := hA0
  rw [Try.params7] at hA hval
  obtain ⟨v0, vs0, d0, ds0, p0, q0, hargs, rfl, rfl, h0, r0⟩ := trodAll_cons hA
  obtain ⟨v1, vs1, d1, ds1, p1, q1, rfl, rfl, rfl, h1, r1⟩ := trodAll_cons r0
  obtain ⟨v2, vs2, d2, ds2, p2, q2, rfl, rfl, rfl, h2, r2⟩ := trodAll_cons r1
  obtain ⟨rfl, rfl, rfl⟩ := trodAll_nil r2
  obtain rfl : args = #[v0, v1, v2] := by cases args; simp_all
  obtain ⟨rfl, rfl⟩ := trodVars_none hV
  obtain ⟨a0, len0, cap0, rfl⟩ := okWide_slice Try.underlying23 (hval 0 23 v0 rfl rfl)
  have k0 := h0
  have lt0 : ∀ x ∈ p0, x.block < W.heap.size := by obtain ⟨m, hm⟩ := k0; exact DataW.trod_lt m _ _ _ hm
  obtain ⟨z0, w0⟩ : ∃ zs, IsRow .i64 W a0 len0 cap0 zs := by
    obtain ⟨fuel, hf⟩ := h0
    rcases open_ints Try.underlying23 Try.underlying3 (by kernel_rfl) hf with ⟨hcs, _⟩ | ⟨x, l, c, zs, hcs, _, hl, hm, hz, _, hcell, hwz⟩
    · simp [Value.cells] at hcs
      obtain ⟨rfl, rfl, rfl⟩ := hcs
      exact ⟨[], .inl ⟨rfl, rfl, rfl, rfl⟩⟩
    · simp [Value.cells] at hcs
      obtain ⟨rfl, rfl, rfl⟩ := hcs
      exact ⟨zs, .inr ⟨_, rfl, hl, hm, by simpa using hz, hcell, hwz⟩⟩
  have k1 := h1
  have lt1 : ∀ x ∈ p1, x.block < W.heap.size := by obtain ⟨m, hm⟩ := k1; exact DataW.trod_lt m _ _ _ hm
  obtain ⟨a1, rfl, rfl, rfl, w1⟩ := open_string Try.underlying9 (hval 1 9 v1 rfl rfl) h1
  have k2 := h2
  have lt2 : ∀ x ∈ p2, x.block < W.heap.size := by obtain ⟨m, hm⟩ := k2; exact DataW.trod_lt m _ _ _ hm
  obtain ⟨l, rfl, hl, hcs⟩ := agg_array Try.underlying51 (by kernel_rfl) (by kernel_rfl) (hval 2 51 v2 rfl rfl) h2
  obtain ⟨x0, x1, rfl⟩ := len2 l hl
  obtain ⟨n0, c, y, hc, hy⟩ := hcs 0 (by decide)
  simp only [List.getElem?_cons_zero, Option.some.injEq] at hc
  subst hc
  obtain ⟨b2_0, hc, -, w2_0⟩ := DataW.trod_int Try.underlying3 hy
  simp only [List.cons.injEq, and_true] at hc
  subst hc
  clear hy
  obtain ⟨n1, c, y, hc, hy⟩ := hcs 1 (by decide)
  simp only [List.getElem?_cons_zero, List.getElem?_cons_succ, Option.some.injEq] at hc
  subst hc
  obtain ⟨b2_1, hc, -, w2_1⟩ := DataW.trod_int Try.underlying3 hy
  simp only [List.cons.injEq, and_true] at hc
  subst hc
  clear hy
  clear hl hcs
  clear hA0 hval0
  refine (walk a0 len0 cap0 z0 a1 b2_0 b2_1 W w0 w1 w2_0 w2_1).mono fun e W' ⟨he, bel⟩ => ?_
  subst he
  exact ⟨_, rfl, _, _, _, [], _, [], hW', trodAll_mk1 (shut_bool Try.underlying4 _), (trodAll_cons_mk (Below.trod laidOut (by kernel_rfl) (of_decide_eq_true (by kernel_rfl)) k0 bel lt0) (trodAll_cons_mk (Below.trod laidOut (by kernel_rfl) (of_decide_eq_true (by kernel_rfl)) k1 bel lt1) (trodAll_cons_mk (Below.trod laidOut (by kernel_rfl) (of_decide_eq_true (by kernel_rfl)) k2 bel lt2) trodAll_mk0))), rfl, bel.frame _, fun h => by cases h⟩

theorem over : Rows.bittreeCodesRow.holds Try.pinned (OpenSpec.ofChange Rows.bittreeCodesSpec) :=
  OpenClaim.holds_of_wide 7 Try.f7 rfl rfl rfl rfl rfl rfl rfl ⟨rfl, rfl, rfl, rfl, rfl⟩ rfl rfl rfl rfl rfl (by kernel_rfl) Try.func7 (by kernel_rfl)
    (of_decide_eq_true (by kernel_rfl)) (by unfold Func.isWrapper; first | (rw [if_pos (by decide +kernel)]; kernel_rfl) | (rw [if_neg (by decide +kernel)]; exact ⟨rfl, rfl⟩))
    (fun os started H enc _ => lifted os started H enc)

theorem proved : Rows.BittreeCodesSaid := over
#print axioms proved
end Go.Proofs.Ytkdkedgpchcfpaa.bittreeCodes
