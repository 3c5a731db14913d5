/- Layer 31: awake. -/
import Derived.Test.YtekageibffhloaaH8
namespace Go.Proofs.Ytekageibffhloaa
open Go.ChangeShapes Go.WideShapes Go.ChangeAt Go.RowKit
set_option linter.unusedVariables false
set_option maxRecDepth 100000
theorem stepA {w a b : World} (h : Below w.heap.size w a) (h2 : Below a.heap.size a b) : Below w.heap.size w b := h.trans (h2.mono h.size)
theorem stepB {w a b : World} {o : Obj} (h : Below w.heap.size w a) (h2 : Below (a.alloc o).heap.size (a.alloc o) b) : Below w.heap.size w b :=
  (h.alloc h.size o).trans (h2.mono (by have := h.size; simp; omega))
theorem keptH {a b : World} {g : Nat} {x : Obj} (h : a.heap[g]? = some x) (hb : Below a.heap.size a b) : b.heap[g]? = some x := (hb.block g (block_lt h)).trans h
theorem newH {a b : World} {x : Obj} (hb : Below (a.alloc x).heap.size (a.alloc x) b) : b.heap[a.heap.size]? = some x := (hb.block _ (by simp)).trans (heap_alloc_new a x)
theorem oldH {a b : World} {g : Nat} {x y : Obj} (h : a.heap[g]? = some x) (hb : Below (a.alloc y).heap.size (a.alloc y) b) : b.heap[g]? = some x := (hb.block _ (by have := block_lt h; simp; omega)).trans (heap_old h y)
set_option maxHeartbeats 6400000 in
theorem awake31 (w : World) : Calls Try.prog 39 #[] w fun e w' => e = .returned (.bool true) ∧ Below w.heap.size w w' := by
  go_enter Try.func39, Try.ntmps39
  go_wp2_with fail
  refine (hPutT 15 false 0 (by decide) [71, 76, 68, 49, 15] 0 (by decide +kernel) _).mono ?_; rintro e w1 ⟨rfl, hb⟩
  go_wp2_with fail
  refine (hPutT 26 true 258 (by decide) [71, 76, 68, 49, 58, 2, 1, 0, 0] 0 (by decide +kernel) _).mono ?_; rintro e w2 ⟨rfl, hb2⟩
  have hb := stepA hb hb2; clear hb2
  go_wp2_with fail
  refine (hPutT 14 false 0 (by decide) [] 12 (by decide +kernel) _).mono ?_; rintro e w3 ⟨rfl, hb2⟩
  have hb := stepA hb hb2; clear hb2
  rw [show sB [71, 76, 68, 49, 58, 2, 1, 0, 0] = ⟨#[71, 76, 68, 49, 58, 2, 1, 0, 0]⟩ from rfl]
  go_wp2_with fail
  rw [show (ByteArray.mk #[71, 76, 68, 49, 58, 2, 1, 0, 0] ++ ByteArray.mk #[120] : ByteArray) = sB [71, 76, 68, 49, 58, 2, 1, 0, 0, 120] from by first | rfl | (apply ByteArray.ext; rfl) | (apply ByteArray.ext; simp [sB])]
  refine (hReadT [71, 76, 68, 49, 58, 2, 1, 0, 0, 120] (by decide) 26 true 258 [120] 0 (by decide +kernel) _).mono ?_; rintro e w4 ⟨rfl, hb2⟩
  have hb := stepA hb hb2; clear hb2
  go_wp2_with fail
  rw [show (ByteArray.mk #[71, 76, 88]) = sB [71, 76, 88] from rfl]
  refine (hReadT [71, 76, 88] (by decide) 0 false 0 [] 11 (by decide +kernel) _).mono ?_; rintro e w5 ⟨rfl, hb2⟩
  have hb := stepB hb hb2
  have HA := Lib.hid (newH hb2)
  clear hb2
  go_wp2_with fail
  refine (hPutBT 2 65536 2 [2, 255, 255, 1, 0] 0 (by decide +kernel) _).mono ?_; rintro e w6 ⟨rfl, hb2⟩
  have hb := stepB hb hb2
  have HA := Lib.hid (oldH HA.out hb2)
  clear hb2
  rw [show sB [2, 255, 255, 1, 0] = ⟨#[2, 255, 255, 1, 0]⟩ from rfl]
  go_wp2_with fail
  rw [show (ByteArray.mk #[2, 255, 255, 1, 0] ++ ByteArray.mk #[121] : ByteArray) = sB [2, 255, 255, 1, 0, 121] from by first | rfl | (apply ByteArray.ext; rfl) | (apply ByteArray.ext; simp [sB])]
  refine (hReadBT [2, 255, 255, 1, 0, 121] (by decide) 2 65536 2 [121] 0 (by decide +kernel) _).mono ?_; rintro e w7 ⟨rfl, hb2⟩
  have hb := stepA hb hb2
  have HA := Lib.hid (keptH HA.out hb2)
  clear hb2
  go_wp2_with fail
  rw [show (ByteArray.mk #[3]) = sB [3] from rfl]
  refine (hReadBT [3] (by decide) 0 0 0 [] 16 (by decide +kernel) _).mono ?_; rintro e w8 ⟨rfl, hb2⟩
  have hb := stepB hb hb2
  have HA := Lib.hid (oldH HA.out hb2)
  have HC := Lib.hid (newH hb2)
  clear hb2
  go_wp2_with fail
  rw [show (ByteArray.mk #[2, 0, 0, 0, 0]) = sB [2, 0, 0, 0, 0] from rfl]
  refine (hReadBT [2, 0, 0, 0, 0] (by decide) 0 0 0 [] 16 (by decide +kernel) _).mono ?_; rintro e w9 ⟨rfl, hb2⟩
  have hb := stepB hb hb2
  have HA := Lib.hid (oldH HA.out hb2)
  have HC := Lib.hid (oldH HC.out hb2)
  clear hb2
  have a0 := cell_lit HA.out 0 _ rfl
  have a1 := cell_lit HA.out 1 _ rfl
  have a2 := cell_lit HA.out 2 _ rfl
  have c0 := cell_lit HC.out 0 _ rfl
  have c1 := cell_lit HC.out 1 _ rfl
  have c2 := cell_lit HC.out 2 _ rfl
  have la := block_lt HA.out
  have lc := block_lt HC.out
  rw [show sB [71, 76, 68, 49, 15] = ⟨#[71, 76, 68, 49, 15]⟩ from rfl, show sB [120] = ⟨#[120]⟩ from rfl, show sB [121] = ⟨#[121]⟩ from rfl]
  have HB := Lib.hid hb
  clear hb HA HC
  go_wp2_with fail
  go_ret
  exact ⟨rfl, HB.out.alloc HB.out.size _⟩
end Go.Proofs.Ytekageibffhloaa
