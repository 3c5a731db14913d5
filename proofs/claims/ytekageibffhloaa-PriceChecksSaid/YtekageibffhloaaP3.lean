/- Layer 23: what three pieces cost. -/
import Derived.Test.YtekageibffhloaaP2
import Derived.Test.YtekageibffhloaaShelf
import Derived.Laws.BitsLemmas
namespace Go.Proofs.Ytekageibffhloaa
open Go.ChangeShapes Go.WideShapes Go.ChangeAt Go.RowKit
set_option linter.unusedVariables false
set_option maxRecDepth 100000
def Small (l : List Int) : Prop := ∀ x ∈ l, 0 ≤ x ∧ x ≤ 1000000000
theorem sum_take1 (l : List Int) (k : Nat) (h : k < l.length) : (l.take (k + 1)).sum = (l.take k).sum + l.getD k 0 := by
  rw [List.take_succ_eq_append_getElem h, List.sum_append]; simp [List.getD, h]
theorem sum_bd (l : List Int) (h : Small l) : 0 ≤ l.sum ∧ l.sum ≤ 1000000000 * l.length := by
  induction l with
  | nil => simp
  | cons x l ih =>
    have := ih fun y hy => h y (List.mem_cons_of_mem _ hy)
    have := h x (List.mem_cons_self ..)
    simp only [List.sum_cons, List.length_cons]; omega
theorem take_bd (l : List Int) (h : Small l) (hl : l.length ≤ 1000) (k : Nat) : 0 ≤ (l.take k).sum ∧ (l.take k).sum ≤ 1000000000000 := by
  have := sum_bd (l.take k) fun x hx => h x (List.mem_of_mem_take hx)
  have : (l.take k).length ≤ l.length := List.length_take_le' ..
  omega
theorem pSum (v : Value) (l : List Int) (w : World) (h : IsL w v l) (hl : l.length ≤ 1000) (hb : Small l) (S : Int) (hS : l.sum = S) :
    Calls Try.prog 86 #[v] w fun e w' => e = .returned (.int .i64 S) ∧ w' = w := by
  obtain ⟨a, c, rfl, h⟩ := h
  have HT := Lib.hid (take_bd l hb hl)
  have HE := Lib.hid (sum_take1 l)
  have HS := Lib.hid hS
  have h_ := Lib.hid h
  have hb_ := Lib.hid hb
  have hS_ := Lib.hid hS
  clear h hb hS
  go_enter Try.func86, Try.ntmps86
  go_wp2
  go_loop [3, 8] (fun s i => ∃ (k : Nat) (Y : Int), k ≤ l.length ∧ i = .int .i64 k ∧ s = .int .i64 Y ∧ Hid ((l.take k).sum = Y)) (fun _ i => l.length - (intOf i).toNat)
  case atStart => exact ⟨0, 0, Nat.zero_le _, rfl, rfl, Lib.hid rfl⟩
  case round =>
    obtain ⟨k, Y, hk, rfl, rfl, hY⟩ := hrel
    by_cases hlt : k < l.length
    · obtain ⟨x, rfl, -, hx⟩ := h_.out.at k hlt
      have cx := hx k hlt
      have ht := HT.out k
      have hY := hY.out
      have ht1 := HT.out (k + 1)
      have he := HE.out k hlt
      rw [he] at ht1
      obtain ⟨X, hX⟩ : ∃ X, l.getD k 0 = X := ⟨_, rfl⟩
      rw [hX] at cx
      rw [hX, hY] at he ht1
      rw [hY] at ht
      have HE1 := Lib.hid he
      clear hX hx he hY
      go_wp2
      go_round
      case rel => exact ⟨k + 1, _, by omega, by go_num, rfl, Lib.hid (by rw [HE1.out])⟩
      case measure => simp [intOf]; omega
    · obtain rfl : k = l.length := by omega
      have HF := Lib.hid (show Y = S by rw [← hY.out, List.take_length]; exact HS.out)
      clear hY
      go_wp2
      go_ret
      exact ⟨ret_i HF.out, rfl⟩
abbrev tokV (k b l d r : Int) : Value := .agg #[.int .i64 k, .int .i64 b, .int .i64 l, .int .i64 d, .int .i64 r]
theorem bx (w : World) (o : Obj) : Below w.heap.size w (w.alloc o) := (Below.refl _ _).alloc (Nat.le_refl _) o
theorem len11 (w : World) : Calls Try.prog 96 #[.int .i64 11] w fun e w' => e = .returned (.bool true) ∧ w' = w := by
  go_enter Try.func96, Try.ntmps96
  go_wp2
  go_ret
  exact ⟨rfl, rfl⟩
theorem ckCopy (w : World) : Calls Try.prog 94 #[tokV 1 0 11 10 0] w fun e w' => e = .returned (.int .i64 0) ∧ Below w.heap.size w w' := by
  go_enter Try.func94, Try.ntmps94
  go_wp2_with fail
  refine (len11 _).mono ?_; rintro e w1 ⟨rfl, rfl⟩
  go_wp2
  go_ret
  exact ⟨rfl, bx _ _⟩
theorem ckRep (w : World) : Calls Try.prog 94 #[tokV 2 0 11 0 0] w fun e w' => e = .returned (.int .i64 0) ∧ Below w.heap.size w w' := by
  go_enter Try.func94, Try.ntmps94
  go_wp2_with fail
  refine (len11 _).mono ?_; rintro e w1 ⟨rfl, rfl⟩
  go_wp2
  go_ret
  exact ⟨rfl, bx _ _⟩
theorem ckByte (w : World) : Calls Try.prog 94 #[tokV 0 1 0 0 0] w fun e w' => e = .returned (.int .i64 0) ∧ Below w.heap.size w w' := by
  go_enter Try.func94, Try.ntmps94
  go_wp2
  go_ret
  exact ⟨rfl, bx _ _⟩
theorem slot11 (w : World) : Calls Try.prog 95 #[.int .i64 9, .int .i64 8, .int .i64 4] w fun e w' => e = .returned (.tuple #[.int .i64 8, .int .i64 1, .int .i64 1]) ∧ Below w.heap.size w w' := by
  have c1 := fun w => Try.bits_Len 2 w (by omega) (by omega)
  rw [show Lib.bitLen (2 : Int).toNat = 2 by decide] at c1
  have c1_ := Lib.hid c1
  clear c1
  go_enter Try.func95, Try.ntmps95
  go_wp2_with fail
  refine (c1_.out _).mono ?_; rintro e w' ⟨rfl, rfl⟩
  go_wp2_with fail
  go_quiet (fail)
  go_wp2
  exact bodyPost_ret (v := .tuple #[.int .i64 8, .int .i64 1, .int .i64 1]) (by simp [results, Try.results95, go_sem, show Go.bits .and .i64 9 1 = 1 by decide]) rfl ⟨rfl, below_drewN (Below.refl _ _) _⟩
theorem slot10 (w : World) : Calls Try.prog 95 #[.int .i64 9, .int .i64 4, .int .i64 2] w fun e w' => e = .returned (.tuple #[.int .i64 6, .int .i64 2, .int .i64 1]) ∧ Below w.heap.size w w' := by
  have c1 := fun w => Try.bits_Len 4 w (by omega) (by omega)
  rw [show Lib.bitLen (4 : Int).toNat = 3 by decide] at c1
  have c1_ := Lib.hid c1
  clear c1
  go_enter Try.func95, Try.ntmps95
  go_wp2_with fail
  refine (c1_.out _).mono ?_; rintro e w' ⟨rfl, rfl⟩
  go_wp2_with fail
  go_quiet (fail)
  go_wp2
  exact bodyPost_ret (v := .tuple #[.int .i64 6, .int .i64 2, .int .i64 1]) (by simp [results, Try.results95, go_sem, show Go.bits .and .i64 9 3 = 1 by decide]) rfl ⟨rfl, below_drewN (Below.refl _ _) _⟩
theorem sLen11 (w : World) : Calls Try.prog 90 #[.int .i64 11] w fun e w' => e = .returned (.tuple #[.int .i64 8, .int .i64 1, .int .i64 1, .int .i64 0]) ∧ Below w.heap.size w w' := by
  go_enter Try.func90, Try.ntmps90
  go_wp2_with fail
  refine (slot11 _).mono ?_; rintro e w' ⟨rfl, hb⟩
  go_wp2
  exact bodyPost_ret (v := .tuple #[.int .i64 8, .int .i64 1, .int .i64 1, .int .i64 0]) (by simp [results, Try.results90, go_sem]) rfl ⟨rfl, hb⟩
theorem sDist10 (w : World) : Calls Try.prog 91 #[.int .i64 10] w fun e w' => e = .returned (.tuple #[.int .i64 6, .int .i64 2, .int .i64 1, .int .i64 0]) ∧ Below w.heap.size w w' := by
  go_enter Try.func91, Try.ntmps91
  go_wp2_with fail
  refine (slot10 _).mono ?_; rintro e w' ⟨rfl, hb⟩
  go_wp2
  exact bodyPost_ret (v := .tuple #[.int .i64 6, .int .i64 2, .int .i64 1, .int .i64 0]) (by simp [results, Try.results91, go_sem]) rfl ⟨rfl, hb⟩
theorem boxed5 {w w1 : World} {c0 c1 c2 c3 c4 : Value} {t : TypeId} (hb : Below (w.alloc (.cells #[c0, c1, c2, c3, c4] t)).heap.size (w.alloc (.cells #[c0, c1, c2, c3, c4] t)) w1) :
    (w1.cell? ⟨w.heap.size, 0, none⟩ = some c0 ∧ w1.cell? ⟨w.heap.size, 1, none⟩ = some c1 ∧ w1.cell? ⟨w.heap.size, 2, none⟩ = some c2) ∧ w1.cell? ⟨w.heap.size, 3, none⟩ = some c3 ∧ w1.cell? ⟨w.heap.size, 4, none⟩ = some c4 := by
  have h (j : Nat) := hb.cell (p := ⟨w.heap.size, j, none⟩) (by simp)
  refine ⟨⟨?_, ?_, ?_⟩, ?_, ?_⟩ <;> (rw [h, World.cell?_alloc_new]; rfl)
theorem below_box {w w1 : World} {c : Array Value} {t : TypeId} (hb : Below (w.alloc (.cells c t)).heap.size (w.alloc (.cells c t)) w1) : Below w.heap.size w w1 :=
  ((Below.refl _ _).alloc (Nat.le_refl _) _).trans (hb.mono (by simp))
theorem syByte (w : World) : Calls Try.prog 89 #[tokV 0 1 0 0 0] w fun e w' => e = .returned (.tuple #[.int .i64 1, .int .i64 0]) ∧ Below w.heap.size w w' := by
  go_enter Try.func89, Try.ntmps89
  go_wp2_with fail
  refine (ckByte _).mono ?_; rintro e w1 ⟨rfl, hb1⟩
  obtain ⟨⟨q0, q1, q2⟩, q3, q4⟩ := boxed5 hb1
  have hlt : w.heap.size < w1.heap.size := by have := hb1.size; simp at this; omega
  have hbb := below_box hb1
  clear hb1
  go_wp2
  go_ret2
  exact ⟨rfl, hbb⟩
theorem syCopy (w : World) : Calls Try.prog 89 #[tokV 1 0 11 10 0] w fun e w' => e = .returned (.tuple #[.int .i64 264, .int .i64 0]) ∧ Below w.heap.size w w' := by
  go_enter Try.func89, Try.ntmps89
  go_wp2_with fail
  refine (ckCopy _).mono ?_; rintro e w1 ⟨rfl, hb1⟩
  obtain ⟨⟨q0, q1, q2⟩, q3, q4⟩ := boxed5 hb1
  have hlt : w.heap.size < w1.heap.size := by have := hb1.size; simp at this; omega
  have hbb := below_box hb1
  clear hb1
  go_wp2_with fail
  refine (sLen11 _).mono ?_; rintro e w2 ⟨rfl, hb2⟩
  have hbb := hbb.trans (hb2.mono hbb.size)
  clear hb2
  go_wp2
  go_ret2
  exact ⟨rfl, hbb⟩
theorem syRep (w : World) : Calls Try.prog 89 #[tokV 2 0 11 0 0] w fun e w' => e = .returned (.tuple #[.int .i64 293, .int .i64 0]) ∧ Below w.heap.size w w' := by
  go_enter Try.func89, Try.ntmps89
  go_wp2_with fail
  refine (ckRep _).mono ?_; rintro e w1 ⟨rfl, hb1⟩
  obtain ⟨⟨q0, q1, q2⟩, q3, q4⟩ := boxed5 hb1
  have hlt : w.heap.size < w1.heap.size := by have := hb1.size; simp at this; omega
  have hbb := below_box hb1
  clear hb1
  go_wp2_with fail
  refine (sLen11 _).mono ?_; rintro e w2 ⟨rfl, hb2⟩
  have hbb := hbb.trans (hb2.mono hbb.size)
  clear hb2
  go_wp2
  go_ret2
  exact ⟨rfl, hbb⟩
end Go.Proofs.Ytekageibffhloaa
