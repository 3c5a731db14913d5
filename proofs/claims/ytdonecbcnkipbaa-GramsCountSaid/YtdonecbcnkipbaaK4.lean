/- Words on rows of bits: rows that a call owns, rows that are only read. -/
import Derived.Test.YtdonecbcnkipbaaK2
namespace Go.Proofs.Ytdonecbcnkipbaa
open Go.ChangeShapes Go.WideShapes Go.ChangeAt Go.RowKit
set_option linter.unusedVariables false
set_option maxRecDepth 100000
def fB (x : Bool) : List Value := [.bool x]
theorem flatB : Flat fB 1 := fun x => ⟨rfl, by intro u hu; simp [fB] at hu; subst hu; rfl⟩
theorem info_bool : (Try.prog.info? 4).map (fun i => (i.zero, i.size, i.bytes)) = some (some (.bool false), 1, 1) := by kernel_rfl
abbrev OwnB (B : Nat) (w : World) (v : Value) (l : List Bool) : Prop := OwnS fB 4 1 B w v l
def IsBoo (w : World) (a : Option Addr) (l : List Bool) : Prop := l = [] ∨ ∃ x, a = some x ∧ ∀ i, i < l.length → w.cell? (x.add i) = some (.bool (l.getD i false))
def IsB (w : World) (v : Value) (l : List Bool) : Prop := ∃ a cap, v = .slice a l.length cap ∧ IsBoo w a l
theorem IsBoo.at {w : World} {a : Option Addr} {l : List Bool} (h : IsBoo w a l) (k : Nat) (hk : k < l.length) : ∃ x : Addr, a = some x ∧ x.block < w.heap.size ∧ w.cell? (x.add k) = some (.bool (l.getD k false)) := by
  rcases h with rfl | ⟨x, rfl, hc⟩
  · simp at hk
  · have := cell_block (hc 0 (by omega))
    exact ⟨x, rfl, by rwa [add_block] at this, hc k hk⟩
theorem IsBoo.kept {w w' : World} {a : Option Addr} {l : List Bool} (h : IsBoo w a l) (hb : Below w.heap.size w w') : IsBoo w' a l := by
  rcases h with rfl | ⟨x, rfl, hc⟩
  · exact .inl rfl
  · exact .inr ⟨x, rfl, fun i hi => by rw [hb.cell (cell_block (hc i hi))]; exact hc i hi⟩
theorem IsBoo.drewN {w : World} {a : Option Addr} {l : List Bool} (h : IsBoo w a l) (k : Nat) : IsBoo (w.drewN k) a l := h
theorem IsB.kept {w w' : World} {v : Value} {l : List Bool} (h : IsB w v l) (hb : Below w.heap.size w w') : IsB w' v l := by
  obtain ⟨a, c, e, h⟩ := h; exact ⟨a, c, e, h.kept hb⟩
theorem IsB.nil (w : World) : IsB w (.slice none 0 0) [] := ⟨none, 0, rfl, .inl rfl⟩
theorem OwnB.isB {B : Nat} {w : World} {v : Value} {l : List Bool} (h : OwnB B w v l) : IsB w v l := by
  rcases h.2 with ⟨rfl, h0⟩ | ⟨g, cap, cur, rfl, -⟩
  · have : l = [] := List.length_eq_zero_iff.1 h0
    subst this; exact IsB.nil w
  · refine ⟨_, cap, rfl, .inr ⟨_, rfl, fun i hi => ?_⟩⟩
    have e : (⟨g, 0, none⟩ : Addr).add i = ⟨g, i, none⟩ := by unfold Addr.add; split <;> simp_all
    have := OwnS.cell flatB h i 0 (l.getD i false) (by simp [List.getD, hi]) (by decide)
    rw [e]; simpa [fB] using this
theorem IsBoo.lit (w : World) (zs : List Bool) (t : Nat) : IsBoo (w.alloc (.cells (zs.map Value.bool).toArray t)) (some ⟨w.heap.size, 0, none⟩) zs := by
  refine .inr ⟨_, rfl, fun i hi => ?_⟩
  have e : (⟨w.heap.size, 0, none⟩ : Addr).add i = ⟨w.heap.size, i, none⟩ := by unfold Addr.add; split <;> simp_all
  rw [e, cell_in (heap_alloc_new w _) i]
  simp [hi]
theorem IsB.lit (w : World) (zs : List Bool) (t c : Nat) : IsB (w.alloc (.cells (zs.map Value.bool).toArray t)) (.slice (some ⟨w.heap.size, 0, none⟩) zs.length c) zs := ⟨_, _, rfl, IsBoo.lit w zs t⟩
theorem takeB (l : List Bool) (k : Nat) (h : k < l.length) : l.take (k + 1) = l.take k ++ [l.getD k false] := by
  rw [List.take_succ_eq_append_getElem h]; simp [List.getD_eq_getElem?_getD, h]
theorem dropB (l : List Bool) (k : Nat) (h : k < l.length) : l.drop k = l.getD k false :: l.drop (k + 1) := by
  rw [List.drop_eq_getElem_cons h]; simp [List.getD_eq_getElem?_getD, h]
/-- What a call keeps that only writes to the row that it was given: all but that row's own block. -/
def Row1 (w : World) (v : Value) (w' : World) (v' : Value) : Prop := Keeps (fun k => v.ownBlock = some k) w w' ∧ ∀ k, v'.ownBlock = some k → v.ownBlock = some k ∨ w.heap.size ≤ k
theorem Row1.refl (w : World) (v : Value) : Row1 w v w v := ⟨Keeps.refl _ _, fun k h => .inl h⟩
theorem Row1.trans {w w1 w2 : World} {v v1 v2 : Value} (h : Row1 w v w1 v1) (h2 : Row1 w1 v1 w2 v2) : Row1 w v w2 v2 := by
  refine ⟨h.1.trans' h2.1 (fun j hj hs => ?_), fun k hk => ?_⟩
  · rcases h.2 j hs with e | e
    · exact e
    · omega
  · have hsz := h.1.size
    rcases h2.2 k hk with e | e
    · exact h.2 k e
    · exact .inr (by omega)
theorem Row1.below {B : Nat} {w w' : World} {v v' : Value} (h : Row1 w v w' v') (hB : B ≤ w.heap.size) (hv : ∀ k, v.ownBlock = some k → B ≤ k) : Below B w w' := h.1.below (fun k hk => ⟨by omega, fun e => by have := hv k e; omega⟩)
theorem Row1.drewN {w w1 : World} {v v1 : Value} (h : Row1 w v w1 v1) (n : Nat) : Row1 w v (w1.drewN n) v1 := ⟨h.1.drewN n, h.2⟩
end Go.Proofs.Ytdonecbcnkipbaa
