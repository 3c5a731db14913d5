/- Layer 6: lengths kept in a row of the call's own. -/
import Derived.Test.YtmpmioffngonjaaKu
namespace Go.Proofs.Ytmpmioffngonjaa
open Go.ChangeShapes Go.WideShapes Go.ChangeAt Go.RowKit
set_option linter.unusedVariables false
set_option maxRecDepth 100000
open KraftMath
def intCells (l : List Int) : List Value := l.map (Value.int .i64 ·)
theorem intCells_set (l : List Int) (k : Nat) (z : Int) : (intCells l).set k (.int .i64 z) = intCells (l.set k z) := by
  unfold intCells; rw [List.map_set]
theorem intCells_snoc (l : List Int) (z : Int) : intCells l ++ [.int .i64 z] = intCells (l ++ [z]) := by
  unfold intCells; rw [List.map_append]; rfl
theorem intCells_one (l : List Int) : ∀ u ∈ intCells l, u.oneCell' = true := by
  intro u hu
  unfold intCells at hu
  obtain ⟨z, -, rfl⟩ := List.mem_map.1 hu
  rfl
theorem set_parted (l : List Int) (k : Nat) (hk : k < l.length) : l.set k (l.getD k 0 + 1) ++ [l.getD k 0 + 1] = parted l k := by
  unfold parted
  rw [List.set_eq_take_append_cons_drop, if_pos hk]
theorem own_ints {w : World} {base : Nat} {e : TypeId} {g n cap : Nat} {l : List Int} (h : w.ownsRow base e 1 (.slice (some ⟨g, 0, none⟩) n cap) n (intCells l)) (hl : l.length ≤ 1100) : n = l.length ∧ IsInts w (some ⟨g, 0, none⟩) l := by
  have hn : n = l.length := by have := h.1; unfold intCells at this; rw [List.length_map] at this; omega
  refine ⟨hn, by omega, .inr ⟨_, rfl, fun i hi => ?_⟩⟩
  refine h.cells rfl i _ ?_
  unfold intCells
  simp [hi]
theorem check_own (w : World) (base : Nat) (e : TypeId) (g n cap : Nat) (l : List Int) (m r : Int) (h : w.ownsRow base e 1 (.slice (some ⟨g, 0, none⟩) n cap) n (intCells l)) (hl : l.length ≤ 1100) (hr : check l m = r) : Calls Try.prog 20 #[.slice (some ⟨g, 0, none⟩) n cap, .int .i64 m] w fun e w' => e = .returned (.int .i64 r) ∧ ∃ k, w' = w.drewN k := by
  obtain ⟨rfl, hi⟩ := own_ints h hl
  rw [← hr]
  exact kCheck_any _ cap m l w hi
theorem cell_block {w : World} {a : Addr} {v : Value} (h : w.cell? a = some v) : a.block < w.heap.size := by
  apply Classical.byContradiction
  intro hn
  have : w.heap[a.block]? = none := Array.getElem?_eq_none (by omega)
  simp [World.cell?, this] at h
/-- What the walk needs of the row that came in: its cells, and that they lie in old blocks. -/
theorem ints_some {w : World} {a : Option Addr} {l : List Int} (h : IsInts w a l) (h0 : l ≠ []) : ∃ x : Addr, a = some x ∧ x.block < w.heap.size ∧ ∀ i, i < l.length → w.cell? (x.add i) = some (.int .i64 (l.getD i 0)) := by
  rcases h.2 with rfl | ⟨x, rfl, hc⟩
  · exact absurd rfl h0
  · have hp : 0 < l.length := List.length_pos_iff.2 h0
    have := cell_block (hc 0 hp)
    exact ⟨x, rfl, by simpa [Addr.add] using this, hc⟩
theorem add_block (x : Addr) (i : Nat) : (x.add i).block = x.block := by unfold Addr.add; split <;> rfl
theorem ints_cells {w : World} {x : Addr} {l : List Int} (h : ∀ i, i < l.length → w.cell? (x.add i) = some (.int .i64 (l.getD i 0))) : ∀ j u, (intCells l)[j]? = some u → w.cell? (x.add j) = some u := by
  intro j u hj
  unfold intCells at hj
  have hlt : j < l.length := by have := (List.getElem?_eq_some_iff.1 hj).1; simpa using this
  rw [h j hlt, ← hj]
  simp [hlt]
theorem ints_kept {w w' : World} {a : Option Addr} {l : List Int} (h : IsInts w a l) (hb : Below w.heap.size w w') : IsInts w' a l := by
  refine ⟨h.1, ?_⟩
  rcases h.2 with rfl | ⟨x, rfl, hc⟩
  · exact .inl rfl
  · refine .inr ⟨x, rfl, fun i hi => ?_⟩
    have hc' := hc i hi
    rw [hb.cell (cell_block hc')]; exact hc'
theorem used_pos {l : List Int} {m : Nat} (h : check l m = 0) : l ≠ [] := by
  rintro rfl
  rw [check_ok] at h
  obtain ⟨-, -, -, -, h⟩ := h
  simp [used] at h
end Go.Proofs.Ytmpmioffngonjaa
