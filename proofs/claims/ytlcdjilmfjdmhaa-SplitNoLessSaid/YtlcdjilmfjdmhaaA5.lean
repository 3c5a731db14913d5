/- Layer 53: blocks of numbers; weights; a part's box. -/
import Derived.Test.YtlcdjilmfjdmhaaA4
import Derived.Test.YtlcdjilmfjdmhaaK2
import Derived.Test.YtlcdjilmfjdmhaaM1
namespace Go.Proofs.Ytlcdjilmfjdmhaa
open Go.ChangeShapes Go.WideShapes Go.ChangeAt Go.RowKit
set_option linter.unusedVariables false
set_option linter.unusedSimpArgs false
set_option maxRecDepth 100000
/-- Block g holds the numbers l. -/
def IsV (w : World) (g : Nat) (l : List Int) : Prop := w.heap[g]? = some (.cells (intCells l).toArray 3 (0, 0))
theorem IsV.cell {w : World} {g : Nat} {l : List Int} (h : IsV w g l) (j : Nat) (hj : j < l.length) : w.cell? ⟨g, j, none⟩ = some (.int .i64 (l.getD j 0)) := by
  rw [cell_in h j]; have := intCells_get l j hj; simpa using this
theorem IsV.free {w : World} {g : Nat} {l : List Int} (h : IsV w g l) (j : Nat) : w.frozen? ⟨g, j, none⟩ = false := free_in h j
theorem IsV.set {w : World} {g : Nat} {l : List Int} (h : IsV w g l) (j : Nat) (x : Int) : IsV (w.setCell ⟨g, j, none⟩ (.int .i64 x)) g (l.set j x) := by
  have := block_set h j (.int .i64 x)
  unfold IsV
  rw [this, ← intCells_set]; simp
theorem IsV.away {w : World} {g k j : Nat} {l : List Int} {u : Value} (h : IsV w g l) (hk : g ≠ k) : IsV (w.setCell ⟨k, j, none⟩ u) g l :=
  (Below.heap_setCell w ⟨k, j, none⟩ u g hk).trans h
theorem IsV.drewN {w : World} {g : Nat} {l : List Int} (h : IsV w g l) (n : Nat) : IsV (w.drewN n) g l := h
theorem IsV.keeps {S : Nat → Prop} {w w' : World} {g : Nat} {l : List Int} (h : IsV w g l) (hk : Keeps S w w') (hS : ¬ S g) : IsV w' g l := (hk.block g (block_lt h) hS).trans h
theorem IsV.kept {w w' : World} {g : Nat} {l : List Int} (h : IsV w g l) (hb : Below w.heap.size w w') : IsV w' g l := (hb.block _ (block_lt h)).trans h
theorem IsV.isInts {w : World} {g : Nat} {l : List Int} (h : IsV w g l) (hl : l.length ≤ 70368744177664) : IsInts w (some ⟨g, 0, none⟩) l := by
  refine ⟨hl, .inr ⟨_, rfl, fun i hi => ?_⟩⟩
  have e : (⟨g, 0, none⟩ : Addr).add i = ⟨g, i, none⟩ := by unfold Addr.add; split <;> simp_all
  rw [e]; exact h.cell i hi
theorem own_V {B g n : Nat} {w : World} {l : List Int} (h : OwnI B w (.slice (some ⟨g, 0, none⟩) n n) l) : IsV w g l := by
  have hl := own_slice h
  have h' : w.ownsRow B 3 1 (.slice (some ⟨g, 0, none⟩) n n) l.length (intCells l) := by rw [← flatMap_fI]; exact h
  rcases h'.2 with ⟨h0, -⟩ | ⟨g', cap, cur, h0, _, hg, h1, h2, h3, h4⟩
  · simp at h0
  · simp only [Value.slice.injEq, Option.some.injEq, Addr.mk.injEq, and_true, true_and] at h0
    obtain ⟨rfl, hn, rfl⟩ := h0
    unfold IsV
    rw [hg]
    have hc : cur.toList = intCells l := by
      rw [← h4]
      rw [List.take_of_length_le]
      rw [Array.length_toList]; omega
    congr 2
    rw [← hc]
theorem set_getI (l : List Int) (a b : Nat) (x : Int) (ha : a < l.length) : (l.set a x).getD b 0 = if a = b then x else l.getD b 0 := by
  simp only [List.getD_eq_getElem?_getD, List.getElem?_set]
  by_cases h : a = b
  · subst h; simp [ha]
  · simp [h]
/-- The weights of all numbers up to n. -/
def IsWts (l : List Int) (n : Nat) : Prop := l.length = n + 1 ∧ ∀ q, q ≤ n → l.getD q 0 = wt q
theorem mul_lg (i : Nat) (x : Nat) (h : lg i = x) : (i : Int) * (x : Int) = wt i := by unfold wt; rw [h]
set_option maxHeartbeats 1600000 in
theorem cWeights (n : Nat) (w : World) (hn : n ≤ 4096) :
    Calls Try.prog 50 #[.int .i64 n] w fun e w' => ∃ l, e = .returned (.slice (some ⟨w.heap.size, 0, none⟩) (n + 1) (n + 1)) ∧ IsV w' w.heap.size l ∧ IsWts l n ∧ Below w.heap.size w w' := by
  obtain ⟨m, hm⟩ : ∃ m, n + 1 = m := ⟨_, rfl⟩
  have hmi : (n : Int) + 1 = (m : Int) := by omega
  have HM := Lib.hid hm
  rw [hm]
  clear hm
  go_enter Try.func50, Try.ntmps50
  go_wp2_with (refine make_int rfl _ _ rfl .i64 .i64 (m : Int) (m : Int) m rfl rfl rfl rfl (by omega) ?_; intro w1 ho1 hb1 hs1)
  have HV := Lib.hid (own_V ho1)
  have HB := Lib.hid hb1
  obtain ⟨g, hg⟩ : ∃ g, w.heap.size = g := ⟨_, rfl⟩
  rw [hg] at HV HB ⊢
  clear ho1 hb1 hs1 hmi
  go_loopw [4] (fun iv wr => ∃ (i : Nat) (l : List Int), 1 ≤ i ∧ i ≤ m ∧ iv = .int .i64 i ∧ Hid (l.length = m ∧ ∀ q, q < i → l.getD q 0 = wt q) ∧ Hid (IsV wr g l) ∧ Hid (Below g w wr)) (fun iv _ => m - (intOf iv).toNat)
  case atStart => exact ⟨1, _, Nat.le_refl _, by have := HM.out; omega, rfl, Lib.hid ⟨List.length_replicate, fun q hq => by
    obtain rfl : q = 0 := by omega
    rw [wt_zero, List.getD_eq_getElem?_getD, List.getElem?_replicate]; split <;> rfl⟩, HV, HB⟩
  case round =>
    clear HV HB
    obtain ⟨i, l, hi1, hi2, rfl, HL, HV, HB⟩ := hrel
    by_cases hlt : i < m
    · have hin : (i : Int) ≤ n := by have := HM.out; omega
      have him : (i : Int) < m := by omega
      have C1 := Lib.hid (Log_in i hi1 (by omega))
      have hwb := wt_bd i (by omega)
      obtain ⟨x, hx⟩ : ∃ x, lg i = x := ⟨_, rfl⟩
      have C2 := C1.out
      rw [hx] at C2
      have C3 := Lib.hid C2
      have hmul := mul_lg i x hx
      obtain ⟨W, hW⟩ : ∃ W, wt i = W := ⟨_, rfl⟩
      rw [hW] at hmul hwb
      have hwr : IntKind.i64.wrap ((i : Int) * (x : Int)) = W := by rw [hmul]; exact IntWalk.i64_in _ (by omega)
      have hwr2 : wrap64 ((i : Int) * (x : Int)) = W := by rw [hmul]; unfold wrap64; omega
      have c1 := HV.out.cell i (by rw [HL.out.1]; exact hlt)
      have f1 := HV.out.free i
      have l1 := block_lt HV.out
      have HV2 := Lib.hid (HV.out.set i W)
      have HL2 := Lib.hid (show (l.set i W).length = m ∧ ∀ q, q < i + 1 → (l.set i W).getD q 0 = wt q from ⟨by rw [List.length_set]; exact HL.out.1, fun q hq => by
        rw [set_getI _ _ _ _ (by rw [HL.out.1]; exact hlt)]
        by_cases e : i = q
        · subst e; rw [if_pos rfl, hW]
        · rw [if_neg e]; exact HL.out.2 q (by omega)⟩)
      have HB2 := Lib.hid (HB.out.setCell (p := ⟨g, i, none⟩) (Nat.le_refl _) (.int .i64 W))
      clear C1 C2 hx hW
      go_wp2_with fail
      refine (C3.out _).mono ?_; rintro e w2 ⟨rfl, rfl⟩
      go_wp2_with fail
      go_roundw
      case rel => exact ⟨i + 1, _, by omega, by omega, by go_num, HL2, HV2, HB2⟩
      case measure => simp [intOf]; omega
    · obtain rfl : i = m := by omega
      have hin : ¬ (i : Int) ≤ n := by have := HM.out; omega
      go_wp2_with fail
      go_ret
      exact ⟨rfl, l, HV.out, ⟨by rw [HL.out.1, HM.out], fun q hq => HL.out.2 q (by have := HM.out; omega)⟩, HB.out⟩
end Go.Proofs.Ytlcdjilmfjdmhaa
