/- It is proved that the law 'SpreadQuantiles' of the program returns true for every input, with no condition, and leaves what was handed in as it was. The frame was written by a program; the walk is by hand. -/
import Derived.Test.YtjpmfaodkldobaaRows
import Derived.WalkKit
import Derived.ProofKit
import Derived.OpenShut
import Derived.ShutString
import Derived.ChangeOld
import Derived.Below
import Derived.Test.YtjpmfaodkldobaaBase
import Derived.Test.YtjpmfaodkldobaaS4
namespace Go.Proofs.Ytjpmfaodkldobaa.spreadQuantiles
open Go.ChangeShapes Go.WideShapes Go.ChangeAt Go.RowKit Go.Deep
open Go.ChangeMaps (open_string shut_string)
set_option linter.unusedVariables false
set_option maxRecDepth 100000

theorem own : ownKnob Try.prog.godebug = none := by kernel_rfl
theorem laidOut : laidOutB Try.prog = true := by kernel_rfl

/-- What the walk is told of a slice of integers that came in: nil, or a row of 'cap' cells that hold the numbers zs, each fitting its kind. -/
def IsRow (k : IntKind) (w : World) (a : Option Addr) (len cap : Nat) (zs : List Int) : Prop :=
  (a = none ∧ len = 0 ∧ cap = 0 ∧ zs = []) ∨
  ∃ x, a = some x ∧ len ≤ cap ∧ cap ≤ maxLen ∧ zs.length = cap ∧ (∀ i, i < zs.length → w.cell? (x.add i) = some (.int k (zs.getD i 0))) ∧ ∀ n ∈ zs, (Lit.int k n).wf = true

open QuantMath
theorem ints_of {w : World} {a : Option Addr} {len cap : Nat} {zs : List Int} (h : IsRow .i64 w a len cap zs) : ∃ l : List Int, l.length = len ∧ len ≤ maxLen ∧ (l.length ≤ 70368744177664 → IsInts w a l) := by
  rcases h with ⟨rfl, rfl, rfl, rfl⟩ | ⟨x, rfl, hlc, hcm, hz, hc, -⟩
  · exact ⟨[], rfl, Nat.zero_le _, fun _ => ⟨by simp, .inl rfl⟩⟩
  · have e : (zs.take len).length = len := by rw [List.length_take]; omega
    refine ⟨zs.take len, e, by omega, fun h11 => ⟨by omega, .inr ⟨x, rfl, fun i hi => ?_⟩⟩⟩
    rw [e] at hi
    rw [hc i (by omega)]
    simp [List.getD, hi]
theorem quant_mono (l : List Int) (n m o : Int) (h0 : 0 < l.length) (ho : 1 ≤ o) (hn : 0 ≤ n) (hnm : n ≤ m) (hmo : m ≤ o) : quantV l n o ≤ quantV l m o := by
  obtain ⟨K, hK, hKl⟩ := quant_at l n o h0 ho hn (by omega)
  obtain ⟨M, hM, hMl⟩ := quant_at l m o h0 ho (by omega) hmo
  unfold quantV
  rw [hK, hM]
  refine srt_le l _ _ ?_ hMl
  have h1 : n * ((l.length : Int) - 1) ≤ m * ((l.length : Int) - 1) := Int.mul_le_mul_of_nonneg_right hnm (by omega)
  have h2 := Int.ediv_le_ediv (by omega : 0 < o) h1
  omega
theorem quantS_mono (l : List Int) (n m o : Int) (h1 : (quantS l n o).2 = 0) (h2 : (quantS l m o).2 = 0) (h : n ≤ m) : (quantS l n o).1 ≤ (quantS l m o).1 := by
  unfold quantS at *
  by_cases c1 : o < 1 ∨ 1048576 < o ∨ n < 0 ∨ o < n
  · rw [if_pos c1] at h1; simp at h1
  by_cases c2 : o < 1 ∨ 1048576 < o ∨ m < 0 ∨ o < m
  · rw [if_pos c2] at h2; simp at h2
  rw [if_neg c1] at h1 ⊢
  rw [if_neg c2] at h2 ⊢
  by_cases h0 : l.length = 0
  · rw [if_pos h0] at h1; simp at h1
  · rw [if_neg h0, if_neg h0]
    exact quant_mono l n m o (by omega) (by omega) (by omega) h (by omega)
theorem in_walk (a0 : Option Addr) (c0 : Nat) (l : List Int) (n m o : Int) (w : World) (h0 : IsInts w a0 l) (hl : l.length ≤ 200) :
    Calls Try.prog 14 #[.slice a0 l.length c0, .agg #[.int .i64 n, .int .i64 m], .int .i64 o] w fun e w' => e = .returned (.bool true) ∧ Below w.heap.size w w' := by
  have C1 := fun w h => sQuant a0 c0 l n o w h (by omega) _ rfl
  have C2 := fun w h => dQuant a0 c0 l n o w h (by omega) _ rfl
  have C3 := fun w h => sQuant a0 c0 l m o w h (by omega) _ rfl
  have M1 := quantS_mono l n m o
  have M2 := quantS_mono l m n o
  have hE : m = n → quantS l m o = quantS l n o := by rintro rfl; rfl
  obtain ⟨⟨A, E⟩, hR⟩ : ∃ R, quantS l n o = R := ⟨_, rfl⟩
  obtain ⟨⟨C, F⟩, hS⟩ : ∃ R, quantS l m o = R := ⟨_, rfl⟩
  rw [hR] at C1 C2 M1 M2 hE
  rw [hS] at C3 M1 M2 hE
  clear hR hS
  have C1_ := Lib.hid C1
  have C2_ := Lib.hid C2
  have C3_ := Lib.hid C3
  have h0_ := Lib.hid h0
  have M1_ := Lib.hid M1
  have M2_ := Lib.hid M2
  have hE_ := Lib.hid hE
  clear C1 C2 C3 h0 M1 M2 hE
  have hli : ¬ (200 : Int) < (l.length : Int) := by omega
  go_enter Try.func14, Try.ntmps14
  go_wp2_with fail
  refine (C1_.out _ (h0_.out.alloc _)).mono ?_; rintro e w1 ⟨rfl, hb⟩
  have gb := (Keeps.of_below (S := fun _ => False) hb).heap (heap_alloc_new w _) (fun h => h)
  have hb := (((Below.refl _ w).alloc (Nat.le_refl _) _).trans (hb.mono (by simp)))
  obtain ⟨lb, c0, c1, -, -⟩ : w.heap.size < w1.heap.size ∧ _ ∧ _ ∧ _ ∧ _ := ⟨block_lt gb, cell_in gb 0, cell_in gb 1, free_in gb 0, free_in gb 1⟩
  simp only [List.getElem?_toArray, List.getElem?_cons_zero, List.getElem?_cons_succ] at c0 c1
  have hI := Lib.hid (h0_.out.kept hb)
  clear gb
  go_wp2_with fail
  refine (C2_.out _ hI.out).mono ?_; rintro e w2 ⟨rfl, k2, rfl⟩
  have hb := below_dn hb k2
  go_wp2_with fail
  refine (C3_.out _ (hI.out.drewN k2)).mono ?_; rintro e w3 ⟨rfl, hb2⟩
  have c0 := (hb2.cell (p := ⟨w.heap.size, 0, none⟩) lb).trans c0
  have c1 := (hb2.cell (p := ⟨w.heap.size, 1, none⟩) lb).trans c1
  have hb := hb.trans (hb2.mono hb.size)
  clear hb2 hI C1_ C2_ C3_
  have HBB := Lib.hid hb
  by_cases hE0 : E = 0
  · by_cases hF0 : F = 0
    · subst hE0 hF0
      rcases Int.lt_trichotomy n m with hnm | hnm | hnm
      · have h1 := M1_.out rfl rfl (by omega)
        have h2 : n ≤ m := by omega
        have h3 : ¬ m ≤ n := by omega
        clear M1_ M2_ hE_
        go_wp2_with fail
        refine (awake57 _).mono ?_; rintro e w4 ⟨rfl, hb4⟩
        go_wp2_with fail
        go_ret
        exact ⟨rfl, HBB.out.trans (hb4.mono HBB.out.size)⟩
      · subst hnm
        have h1 : C = A := by have := hE_.out rfl; simpa using this
        subst h1
        clear M1_ M2_ hE_
        go_wp2_with fail
        refine (awake57 _).mono ?_; rintro e w4 ⟨rfl, hb4⟩
        go_wp2_with fail
        go_ret
        exact ⟨rfl, HBB.out.trans (hb4.mono HBB.out.size)⟩
      · have h1 := M2_.out rfl rfl (by omega)
        have h2 : m ≤ n := by omega
        have h3 : ¬ n ≤ m := by omega
        clear M1_ M2_ hE_
        go_wp2_with fail
        refine (awake57 _).mono ?_; rintro e w4 ⟨rfl, hb4⟩
        go_wp2_with fail
        go_ret
        exact ⟨rfl, HBB.out.trans (hb4.mono HBB.out.size)⟩
    · clear M1_ M2_ hE_
      subst hE0
      go_wp2_with fail
      refine (awake57 _).mono ?_; rintro e w4 ⟨rfl, hb4⟩
      go_wp2_with fail
      go_ret
      exact ⟨rfl, HBB.out.trans (hb4.mono HBB.out.size)⟩
  · clear M1_ M2_ hE_
    go_wp2_with fail
    refine (awake57 _).mono ?_; rintro e w4 ⟨rfl, hb4⟩
    go_wp2_with fail
    go_ret
    exact ⟨rfl, HBB.out.trans (hb4.mono HBB.out.size)⟩

set_option maxHeartbeats 3200000 in
theorem walk (a0 : Option Addr) (len0 cap0 : Nat) (z0 : List Int) (b1_0 : Int) (b1_1 : Int) (a2 : Int) (w : World) (w0 : IsRow .i64 w a0 len0 cap0 z0) (w1_0 : (Lit.int .i64 b1_0).wf = true) (w1_1 : (Lit.int .i64 b1_1).wf = true) (w2 : (Lit.int .i64 a2).wf = true) :
    Calls Try.prog 14 #[.slice a0 len0 cap0, .agg #[.int .i64 b1_0, .int .i64 b1_1], .int .i64 a2] w fun e w' => e = .returned (.bool true) ∧ Below w.heap.size w w' := by
  obtain ⟨l, hll, hlm, hI⟩ := ints_of w0
  by_cases hl : 200 < len0
  · have hli : (200 : Int) < (len0 : Int) := by omega
    go_enter Try.func14, Try.ntmps14
    go_wp2_with fail
    refine (awake57 _).mono ?_; rintro e w4 ⟨rfl, hb4⟩
    go_wp2_with fail
    go_ret
    exact ⟨rfl, ((Below.refl _ _).alloc (Nat.le_refl _) _).trans (hb4.mono (by simp))⟩
  subst hll
  exact in_walk a0 cap0 l b1_0 b1_1 a2 w (hI (by omega)) (by omega)

theorem lifted (os : Os) (started : os.Started) (H : Type) (enc : TypeId × Value → H) :
    ReturnsInHanded {} Try.checked os 14 .any (Rows.spreadQuantilesSpec.pre6 enc Try.prog Try.f14 Rows.spreadQuantilesRow.domain false) (Rows.spreadQuantilesSpec.post enc Try.prog Try.f14 false true false false) := by
  refine returnsInHanded_of_change (C := Try.checked) own started (by kernel_rfl) Try.func14
    (ChangeSpec.witness6 (enc := enc) (C := Try.checked) false ⟨#[], #[.slice none 0 0, .agg #[.int .i64 0, .int .i64 0], .int .i64 0], []⟩ 8 (by kernel_rfl) (by kernel_rfl) (by kernel_rfl) (by kernel_rfl)) ?_
  intro W base args ds gs before hval0 hW hcnd _
  have hval : ∀ (j : Nat) t v, Try.f14.params[j]? = some t → args[j]? = some v → Value.okWide Try.prog W .any base t v := hval0
  have hW' := hW
  obtain ⟨p, q, hA0, hV, rfl, hfz, hnd⟩ := hW
  have hA : DataW.TrodAll enc Try.prog W 0 (fun _ => true) true Try.f14.params.toList args.toList ds p := hA0
  rw [Try.params14] at hA hval
  obtain ⟨v0, vs0, d0, ds0, p0, q0, hargs, rfl, rfl, h0, r0⟩ := trodAll_cons hA
  obtain ⟨v1, vs1, d1, ds1, p1, q1, rfl, rfl, rfl, h1, r1⟩ := trodAll_cons r0
  obtain ⟨v2, vs2, d2, ds2, p2, q2, rfl, rfl, rfl, h2, r2⟩ := trodAll_cons r1
  obtain ⟨rfl, rfl, rfl⟩ := trodAll_nil r2
  obtain rfl : args = #[v0, v1, v2] := by cases args; simp_all
  obtain ⟨rfl, rfl⟩ := trodVars_none hV
  obtain ⟨a0, len0, cap0, rfl⟩ := okWide_slice Try.underlying31 (hval 0 31 v0 rfl rfl)
  have k0 := h0
  have lt0 : ∀ x ∈ p0, x.block < W.heap.size := by obtain ⟨m, hm⟩ := k0; exact DataW.trod_lt m _ _ _ hm
  obtain ⟨z0, w0⟩ : ∃ zs, IsRow .i64 W a0 len0 cap0 zs := by
    obtain ⟨fuel, hf⟩ := h0
    rcases open_ints Try.underlying31 Try.underlying3 (by kernel_rfl) hf with ⟨hcs, _⟩ | ⟨x, l, c, zs, hcs, _, hl, hm, hz, _, hcell, hwz⟩
    · simp [Value.cells] at hcs
      obtain ⟨rfl, rfl, rfl⟩ := hcs
      exact ⟨[], .inl ⟨rfl, rfl, rfl, rfl⟩⟩
    · simp [Value.cells] at hcs
      obtain ⟨rfl, rfl, rfl⟩ := hcs
      exact ⟨zs, .inr ⟨_, rfl, hl, hm, by simpa using hz, hcell, hwz⟩⟩
  have k1 := h1
  have lt1 : ∀ x ∈ p1, x.block < W.heap.size := by obtain ⟨m, hm⟩ := k1; exact DataW.trod_lt m _ _ _ hm
  obtain ⟨l, rfl, hl, hcs⟩ := agg_array Try.underlying90 (by kernel_rfl) (by kernel_rfl) (hval 1 90 v1 rfl rfl) h1
  obtain ⟨x0, x1, rfl⟩ := len2 l hl
  obtain ⟨n0, c, y, hc, hy⟩ := hcs 0 (by decide)
  simp only [List.getElem?_cons_zero, Option.some.injEq] at hc
  subst hc
  obtain ⟨b1_0, hc, -, w1_0⟩ := DataW.trod_int Try.underlying3 hy
  simp only [List.cons.injEq, and_true] at hc
  subst hc
  clear hy
  obtain ⟨n1, c, y, hc, hy⟩ := hcs 1 (by decide)
  simp only [List.getElem?_cons_zero, List.getElem?_cons_succ, Option.some.injEq] at hc
  subst hc
  obtain ⟨b1_1, hc, -, w1_1⟩ := DataW.trod_int Try.underlying3 hy
  simp only [List.cons.injEq, and_true] at hc
  subst hc
  clear hy
  clear hl hcs
  have k2 := h2
  have lt2 : ∀ x ∈ p2, x.block < W.heap.size := by obtain ⟨m, hm⟩ := k2; exact DataW.trod_lt m _ _ _ hm
  obtain ⟨a2, rfl, rfl, rfl, w2⟩ := open_int Try.underlying3 (hval 2 3 v2 rfl rfl) h2
  clear hA0 hval0
  refine (walk a0 len0 cap0 z0 b1_0 b1_1 a2 W w0 w1_0 w1_1 w2).mono fun e W' ⟨he, bel⟩ => ?_
  subst he
  exact ⟨_, rfl, _, _, _, [], _, [], hW', trodAll_mk1 (shut_bool Try.underlying4 _), (trodAll_cons_mk (Below.trod laidOut (by kernel_rfl) (of_decide_eq_true (by kernel_rfl)) k0 bel lt0) (trodAll_cons_mk (Below.trod laidOut (by kernel_rfl) (of_decide_eq_true (by kernel_rfl)) k1 bel lt1) (trodAll_cons_mk (Below.trod laidOut (by kernel_rfl) (of_decide_eq_true (by kernel_rfl)) k2 bel lt2) trodAll_mk0))), rfl, bel.frame _, fun h => by cases h⟩

theorem over : Rows.spreadQuantilesRow.holds Try.pinned (OpenSpec.ofChange Rows.spreadQuantilesSpec) :=
  OpenClaim.holds_of_wide 14 Try.f14 rfl rfl rfl rfl rfl rfl rfl ⟨rfl, rfl, rfl, rfl, rfl⟩ rfl rfl rfl rfl rfl (by kernel_rfl) Try.func14 (by kernel_rfl)
    (of_decide_eq_true (by kernel_rfl)) (by unfold Func.isWrapper; first | (rw [if_pos (by decide +kernel)]; kernel_rfl) | (rw [if_neg (by decide +kernel)]; exact ⟨rfl, rfl⟩))
    (fun os started H enc _ => lifted os started H enc)

theorem proved : Rows.SpreadQuantilesSaid := over
#print axioms proved
end Go.Proofs.Ytjpmfaodkldobaa.spreadQuantiles
