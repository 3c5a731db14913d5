/- Layer 61: rows of chances, one for each byte ahead. -/
import Derived.Test.YtkdkedgpchcfpaaG17
import Derived.Test.YtkdkedgpchcfpaaG20
import Derived.Laws.MakeOwn
import Derived.Deep.RegionWith
import Derived.Deep.CutRange
namespace Go.Proofs.Ytkdkedgpchcfpaa
open Go.ChangeShapes Go.WideShapes Go.ChangeAt Go.RowKit
set_option linter.unusedVariables false
set_option linter.unusedSimpArgs false
set_option maxRecDepth 100000
open Range
/-- A block that holds numbers. -/
def IsCh (w : World) (g : Nat) (ch : List Int) : Prop := ∃ C : Array Value, w.heap[g]? = some (.cells C 147 (0, 0)) ∧ ∀ i, i < ch.length → C[i]? = some (.int .i64 (ch.getD i 0))
theorem IsCh.cell {w : World} {g : Nat} {ch : List Int} (h : IsCh w g ch) (i : Nat) (hi : i < ch.length) : w.cell? ⟨g, i, none⟩ = some (.int .i64 (ch.getD i 0)) := by
  obtain ⟨C, h1, h2⟩ := h
  rw [cell_in h1]; exact h2 i hi
theorem IsCh.set {w : World} {g : Nat} {ch : List Int} (h : IsCh w g ch) (i : Nat) (hi : i < ch.length) (z : Int) : IsCh (w.setCell ⟨g, i, none⟩ (.int .i64 z)) g (ch.set i z) := by
  obtain ⟨C, h1, h2⟩ := h
  refine ⟨C.setIfInBounds i (.int .i64 z), block_set h1 i _, fun j hj => ?_⟩
  rw [List.length_set] at hj
  by_cases hij : i = j
  · subst hij
    have : i < C.size := (Array.getElem?_eq_some_iff.1 (h2 i hj)).1
    rw [Array.getElem?_setIfInBounds_self_of_lt this]
    simp [List.getD_eq_getElem?_getD, hj]
  · rw [Array.getElem?_setIfInBounds_ne hij, h2 j hj]
    simp [List.getD_eq_getElem?_getD, List.getElem?_set_ne hij]
theorem IsCh.block {w w' : World} {g : Nat} {ch : List Int} (h : IsCh w g ch) (e : w'.heap[g]? = w.heap[g]?) : IsCh w' g ch := by
  obtain ⟨C, h1, h2⟩ := h
  exact ⟨C, e.trans h1, h2⟩
theorem IsCh.lt {w : World} {g : Nat} {ch : List Int} (h : IsCh w g ch) : g < w.heap.size := by
  obtain ⟨C, h1, h2⟩ := h
  exact block_lt h1
theorem IsCh.free {w : World} {g : Nat} {ch : List Int} (h : IsCh w g ch) (i : Nat) : w.frozen? ⟨g, i, none⟩ = false := by
  obtain ⟨C, h1, h2⟩ := h
  exact free_in h1 i
theorem info256 : ∃ i : TypeInfo, Try.prog.info? 147 = some i ∧ i.size = 256 ∧ i.bytes = 2048 ∧ ∃ z, i.zero = some z ∧ z.cells.size = 256 ∧ ∀ j, j < 256 → z.cells[j]! = .int .i64 0 := by
  refine ⟨_, rfl, ?_⟩
  refine ⟨rfl, rfl, .agg (Array.replicate 256 (.int .i64 0)), by kernel_rfl, by kernel_rfl, ?_⟩
  intro j hj
  show (Array.replicate 256 (Value.int .i64 0))[j]! = _
  simp [hj]
theorem mk256 : ∃ ROW : Array Value, (∀ w : World, (Instr.makeSlice 144 (.int .i64 256) (.int .i64 256)).run Try.prog w = .ok (.slice (some ⟨w.heap.size, 0, none⟩) 256 256) (w.alloc (.cells ROW 147))) ∧ ∀ N, N = 65536 → ∀ w : World, IsCh (w.alloc (.cells ROW 147)) w.heap.size (List.replicate N 0) := by
  obtain ⟨i, hi, hs, hb, z, hz, hzs, hz0⟩ := info256
  refine ⟨madeCells z.cells (256 * 256), fun w => ?_, fun N hN w => ⟨_, heap_alloc_new _ _, fun j hj => ?_⟩⟩
  · have := run_make (w := w) (P := Try.prog) 144 147 i z Try.underlying144 hi hz .i64 .i64 256 256 (by decide) (by decide) (by rw [hb]; decide) (by decide)
    rw [hs] at this
    exact this
  · rw [List.length_replicate] at hj
    have h1 : j < (madeCells z.cells (256 * 256)).size := by rw [size_madeCells]; omega
    rw [Array.getElem?_eq_getElem h1]
    have h2 : (madeCells z.cells (256 * 256))[j] = .int .i64 0 := by
      unfold madeCells
      simp only [Array.getElem_map, Array.getElem_range, hzs]
      exact hz0 _ (Nat.mod_lt _ (by decide))
    rw [h2]
    simp [List.getD_eq_getElem?_getD, hj]
end Go.Proofs.Ytkdkedgpchcfpaa
