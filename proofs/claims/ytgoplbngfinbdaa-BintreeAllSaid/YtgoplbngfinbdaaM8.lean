/- Layer 41: New. -/
import Derived.Test.YtgoplbngfinbdaaM7
namespace Go.Proofs.Ytgoplbngfinbdaa
open Go.ChangeShapes Go.WideShapes Go.ChangeAt Go.RowKit
set_option linter.unusedVariables false
set_option linter.unusedSimpArgs false
set_option maxRecDepth 100000
/-- make of so many noughts, as an equation. -/
theorem mk32 (n : Nat) (hn : (n : Int) ≤ 1000000) : ∀ w : World, (Instr.makeSlice 108 (.int .i64 (n : Int)) (.int .i64 (n : Int))).run Try.prog w = .ok (.slice (some ⟨w.heap.size, 0, none⟩) n n) (w.alloc (.cells (madeCells (Value.int .i32 0).cells n) 21)) := by
  obtain ⟨i, hi, hz, hs, hb⟩ := info_get info_32
  intro w
  have := run_make (w := w) (P := Try.prog) 108 21 i (.int .i32 0) Try.underlying108 hi hz .i64 .i64 (n : Int) (n : Int) (by omega) (by omega) (by rw [hb]; omega) (by omega)
  rw [hs, Int.toNat_natCast, Nat.mul_one] at this
  exact this
theorem own32_made {w : World} {g B n : Nat} (h : w.heap[g]? = some (.cells (madeCells (Value.int .i32 0).cells n) 21 (0, 0))) (hB : B ≤ g) (hn : (n : Int) ≤ 1000000) : Own32 B w (.slice (some ⟨g, 0, none⟩) n n) (List.replicate n 0) := by
  have hf : (madeCells (Value.int .i32 0).cells n).toList = (List.replicate n (0 : Int)).flatMap f32 := by
    apply List.ext_getElem?
    intro j
    by_cases hj : j < n
    · have h2 := flat_get flat32 (List.replicate n (0 : Int)) j 0 0 (by simp [hj]) (by decide)
      rw [Nat.mul_one, Nat.add_zero] at h2
      rw [h2]
      simp [madeCells, hj, f32, Value.cells, Nat.mod_one]
    · rw [List.getElem?_eq_none (by rw [Array.length_toList, size_madeCells]; omega), List.getElem?_eq_none (by rw [flat_len flat32]; simp; omega)]
  refine ⟨by rw [List.length_replicate, flat_len flat32, List.length_replicate], .inr ⟨g, n, _, by rw [List.length_replicate], hB, h, by rw [List.length_replicate]; exact Nat.le_refl _, by unfold maxLen; omega, by rw [size_madeCells]; omega, ?_⟩⟩
  rw [List.length_replicate, hf, List.take_of_length_le (by rw [flat_len flat32]; simp)]
theorem three_allocs (w : World) (x y z : Obj) : (((w.alloc x).alloc y).alloc z).heap[w.heap.size]? = some x ∧ (((w.alloc x).alloc y).alloc z).heap[w.heap.size + 1]? = some y ∧ (((w.alloc x).alloc y).alloc z).heap[w.heap.size + 1 + 1]? = some z ∧ Below w.heap.size w (((w.alloc x).alloc y).alloc z) := by
  have e1 := World.size_alloc w x
  have e2 := World.size_alloc (w.alloc x) y
  refine ⟨?_, ?_, ?_, (((Below.refl w.heap.size w).alloc (Nat.le_refl _) x).alloc (by omega) y).alloc (by omega) z⟩
  · rw [Below.heap_alloc _ _ _ (by omega), Below.heap_alloc _ _ _ (by omega)]
    exact heap_alloc_new w x
  · rw [Below.heap_alloc _ _ _ (by omega)]
    have := heap_alloc_new (w.alloc x) y
    rwa [e1] at this
  · have := heap_alloc_new ((w.alloc x).alloc y) z
    rwa [e2, e1] at this
theorem isF_made {NN W D m B : Nat} {L : List UInt8} {w : World} {g g1 g2 : Nat} (h1 : w.heap[g1]? = some (.cells (madeCells (Value.int .i32 0).cells NN) 21 (0, 0))) (h2 : w.heap[g2]? = some (.cells (madeCells (Value.int .i32 0).cells m) 21 (0, 0))) (hb : w.heap[g]? = some (.cells #[.string (sM L), .int .i64 W, .int .i64 D, .int .i64 0, .slice (some ⟨g1, 0, none⟩) NN NN, .slice (some ⟨g2, 0, none⟩) m m] 113 (0, 0))) (n1 : g1 ≠ g) (n2 : g2 ≠ g) (n12 : g1 ≠ g2) (b1 : B ≤ g1) (b2 : B ≤ g2) (hN : (NN : Int) ≤ 1000000) (hm : (m : Int) ≤ 1000000) : IsF NN w B g g1 g2 L W D 0 m (List.replicate NN 0) (List.replicate m 0) :=
  ⟨hb, own32_made h1 b1 hN, own32_made h2 b2 hm, List.length_replicate, List.length_replicate, n1, n2, n12⟩
set_option maxHeartbeats 1600000 in
theorem cNew (NN : Nat) (hNN : NN = 65536) (L : List UInt8) (win dep : Int) (W D m : Nat) (w : World) (hL : L.length ≤ 100000) (hWv : min (max win 1) 67108864 = (W : Int)) (hDv : max dep 1 = (D : Int)) (hmv : min L.length (W + 1) = m) :
    Calls Try.prog 39 #[.string (sM L), .int .i64 win, .int .i64 dep] w fun e w' => ∃ g g1 g2, e = .returned (.pointer (some ⟨g, 0, none⟩)) ∧ IsF NN w' w.heap.size g g1 g2 L W D 0 m (List.replicate NN 0) (List.replicate m 0) ∧ Below w.heap.size w w' ∧ w.heap.size ≤ g ∧ w.heap.size ≤ g1 ∧ w.heap.size ≤ g2 := by
  have hS : (sM L).size = L.length := sM_size L
  obtain ⟨A, hA⟩ : ∃ A : Int, (if win < 1 then 1 else win) = A := ⟨_, rfl⟩
  have hB : (if (67108864 : Int) < A then 67108864 else A) = (W : Int) := by rw [← hA]; split <;> split <;> omega
  have hC : (if dep < 1 then 1 else dep) = (D : Int) := by split <;> omega
  have hM : (if (W : Int) + 1 < (L.length : Int) then (W : Int) + 1 else (L.length : Int)) = (m : Int) := by split <;> omega
  have hM2 : (if W + 1 < L.length then (W : Int) + 1 else (L.length : Int)) = (m : Int) := by split <;> omega
  have mk1 : ∀ w : World, (Instr.makeSlice 108 (.int .i64 65536) (.int .i64 65536)).run Try.prog w = .ok (.slice (some ⟨w.heap.size, 0, none⟩) NN NN) (w.alloc (.cells (madeCells (Value.int .i32 0).cells NN) 21)) := by
    intro w
    have := mk32 NN (by omega) w
    rw [show ((NN : Nat) : Int) = 65536 by omega] at this
    exact this
  have mk2 := mk32 m (by omega)
  have hWb : (W : Int) ≤ 67108864 := by omega
  have hw1 : IntKind.i64.wrap ((W : Int) + 1) = (W : Int) + 1 := IntWalk.i64_in _ (by omega)
  clear hWv hDv hmv
  have HNN := Lib.hid hNN
  clear hNN
  go_enter Try.func39, Try.ntmps39
  go_wp2_with fail
  go_region_held3 (fun _ => True) (trivial) (fail)
  all_goals go_wp2_with fail
  all_goals go_ret
  all_goals
    first
      | exact ⟨_, w.heap.size, w.heap.size + 1, rfl, (isF_made (three_allocs _ _ _ _).1 (three_allocs _ _ _ _).2.1 (three_allocs _ _ _ _).2.2.1 (by omega) (by omega) (by omega) (by omega) (by omega) (by have := HNN.out; omega) (by omega)).drewN _, below_dn (three_allocs _ _ _ _).2.2.2 _, by omega, by omega, by omega⟩
      | exact ⟨_, w.heap.size + 1, w.heap.size, rfl, (isF_made (three_allocs _ _ _ _).2.1 (three_allocs _ _ _ _).1 (three_allocs _ _ _ _).2.2.1 (by omega) (by omega) (by omega) (by omega) (by omega) (by have := HNN.out; omega) (by omega)).drewN _, below_dn (three_allocs _ _ _ _).2.2.2 _, by omega, by omega, by omega⟩
end Go.Proofs.Ytgoplbngfinbdaa
