/- Layer 22: New. -/
import Derived.Test.YtgoplbngfinbdaaN1
namespace Go.Proofs.Ytgoplbngfinbdaa
open Go.ChangeShapes Go.WideShapes Go.ChangeAt Go.RowKit
set_option linter.unusedVariables false
set_option linter.unusedSimpArgs false
set_option maxRecDepth 100000
theorem info_lk : (Try.prog.info? 142).map (fun i => (i.zero, i.size, i.bytes)) = some (some (.agg #[.int .i32 0, .int .i32 0]), 2, 8) := by kernel_rfl
theorem mkLk (n : Nat) (hn : (n : Int) ≤ 1000000) : ∀ w : World, (Instr.makeSlice 109 (.int .i64 (n : Int)) (.int .i64 (n : Int))).run Try.prog w = .ok (.slice (some ⟨w.heap.size, 0, none⟩) n n) (w.alloc (.cells (madeCells #[.int .i32 0, .int .i32 0] (n * 2)) 142)) := by
  obtain ⟨i, hi, hz, hs, hb⟩ := info_get info_lk
  intro w
  have := run_make (w := w) (P := Try.prog) 109 142 i (.agg #[.int .i32 0, .int .i32 0]) Try.underlying109 hi hz .i64 .i64 (n : Int) (n : Int) (by omega) (by omega) (by rw [hb]; omega) (by omega)
  rw [hs, Int.toNat_natCast] at this
  exact this
theorem made1 (n : Nat) : madeCells (Value.int .i32 0).cells n = lkA (List.replicate n 0) := by
  unfold lkA
  apply Array.ext
  · simp [size_madeCells]
  · intro j h1 h2
    simp [madeCells, Value.cells, Nat.mod_one]
theorem made2 (n : Nat) : madeCells #[.int .i32 0, .int .i32 0] n = lkA (List.replicate n 0) := by
  unfold lkA
  apply Array.ext
  · simp [size_madeCells]
  · intro j h1 h2
    have : j % 2 < 2 := Nat.mod_lt _ (by decide)
    have h : j % 2 = 0 ∨ j % 2 = 1 := by omega
    rcases h with h | h <;> simp [madeCells, h]
theorem isG_made {NN W D m : Nat} {L : List UInt8} {w : World} {g g1 g2 : Nat} (h1 : w.heap[g1]? = some (.cells (madeCells (Value.int .i32 0).cells NN) 21 (0, 0))) (h2 : w.heap[g2]? = some (.cells (madeCells #[.int .i32 0, .int .i32 0] (m * 2)) 142 (0, 0))) (hb : w.heap[g]? = some (.cells #[.string (sM L), .int .i64 W, .int .i64 D, .int .i64 0, .slice (some ⟨g1, 0, none⟩) NN NN, .slice (some ⟨g2, 0, none⟩) m m] 111 (0, 0))) (n1 : g1 ≠ g) (n2 : g2 ≠ g) (n12 : g1 ≠ g2) : IsG NN w g g1 g2 L W D 0 m (List.replicate NN 0) (List.replicate (2 * m) 0) :=
  ⟨hb, by unfold IsBk; rw [← made1]; exact h1, by unfold IsBk; rw [← made2, Nat.mul_comm 2 m]; exact h2, List.length_replicate, List.length_replicate, n1, n2, n12⟩
set_option maxHeartbeats 1600000 in
theorem cBNew (NN : Nat) (hNN : NN = 65536) (L : List UInt8) (win dep : Int) (W D m : Nat) (w : World) (hL : L.length ≤ 100000) (hWv : min (max win 1) 67108864 = (W : Int)) (hDv : max dep 1 = (D : Int)) (hmv : min L.length (W + 1) = m) :
    Calls Try.prog 35 #[.string (sM L), .int .i64 win, .int .i64 dep] w fun e w' => ∃ g g1 g2, e = .returned (.pointer (some ⟨g, 0, none⟩)) ∧ IsG NN w' g g1 g2 L W D 0 m (List.replicate NN 0) (List.replicate (2 * m) 0) ∧ Below w.heap.size w w' ∧ ∀ k, feetF g g1 g2 k → w.heap.size ≤ k := by
  have hS : (sM L).size = L.length := sM_size L
  obtain ⟨A, hA⟩ : ∃ A : Int, (if win < 1 then 1 else win) = A := ⟨_, rfl⟩
  have hB : (if (67108864 : Int) < A then 67108864 else A) = (W : Int) := by rw [← hA]; split <;> split <;> omega
  have hC : (if dep < 1 then 1 else dep) = (D : Int) := by split <;> omega
  have hM : (if (W : Int) + 1 < (L.length : Int) then (W : Int) + 1 else (L.length : Int)) = (m : Int) := by split <;> omega
  have hM2 : (if W + 1 < L.length then (W : Int) + 1 else (L.length : Int)) = (m : Int) := by split <;> omega
  have mk1 : ∀ w : World, (Instr.makeSlice 108 (.int .i64 65536) (.int .i64 65536)).run Try.prog w = .ok (.slice (some ⟨w.heap.size, 0, none⟩) NN NN) (w.alloc (.cells (madeCells (Value.int .i32 0).cells NN) 21)) := by
    intro w
    have := mk32 NN (by omega) w
    rw [show ((NN : Nat) : Int) = 65536 by omega] at this
    exact this
  have mk2 := mkLk m (by omega)
  have hWb : (W : Int) ≤ 67108864 := by omega
  have hw1 : IntKind.i64.wrap ((W : Int) + 1) = (W : Int) + 1 := IntWalk.i64_in _ (by omega)
  clear hWv hDv hmv
  have HNN := Lib.hid hNN
  clear hNN
  go_enter Try.func35, Try.ntmps35
  go_wp2_with fail
  go_region_held3 (fun _ => True) (trivial) (fail)
  all_goals go_wp2_with fail
  all_goals go_ret
  all_goals
    first
      | exact ⟨_, w.heap.size, w.heap.size + 1, rfl, (isG_made (three_allocs _ _ _ _).1 (three_allocs _ _ _ _).2.1 (three_allocs _ _ _ _).2.2.1 (by omega) (by omega) (by omega)).drewN _, below_dn (three_allocs _ _ _ _).2.2.2 _, by rintro k (rfl | rfl | rfl) <;> omega⟩
      | exact ⟨_, w.heap.size + 1, w.heap.size, rfl, (isG_made (three_allocs _ _ _ _).2.1 (three_allocs _ _ _ _).1 (three_allocs _ _ _ _).2.2.1 (by omega) (by omega) (by omega)).drewN _, below_dn (three_allocs _ _ _ _).2.2.2 _, by rintro k (rfl | rfl | rfl) <;> omega⟩
end Go.Proofs.Ytgoplbngfinbdaa
