/- Layer 23: what chapter 23 shows. -/
import Derived.Test.YtekageibffhloaaP5
namespace Go.Proofs.Ytekageibffhloaa
open Go.ChangeShapes Go.WideShapes Go.ChangeAt Go.RowKit
set_option linter.unusedVariables false
set_option maxRecDepth 100000
def FlatP (a b : Int) (w : World) (e : Ending) (w' : World) : Prop := ∃ x c y d, e = .returned (.agg #[.slice x 401 c, .slice y 52 d]) ∧ IsInts w' x (List.replicate 401 (clampP a)) ∧ IsInts w' y (List.replicate 52 (clampP b)) ∧ Below w.heap.size w w'
theorem flatA (a b : Int) (w : World) : Calls Try.prog 32 #[.int .i64 a, .int .i64 b] w (FlatP a b w) :=
  (pFlat a b w).mono fun e w' ⟨v, u, he, ⟨x, c, hv, hx⟩, ⟨y, d, hu, hy⟩, hb⟩ => ⟨x, c, y, d, by rw [he, hv, hu, List.length_replicate, List.length_replicate], hx, hy, hb⟩
def FlatQ (w : World) (e : Ending) (w' : World) : Prop := ∃ x c y d, e = .returned (.agg #[.slice x 401 c, .slice y 52 d]) ∧ IsInts w' x l8 ∧ IsInts w' y l5 ∧ Below w.heap.size w w'
theorem flat85 (w : World) : Calls Try.prog 32 #[.int .i64 8, .int .i64 5] w (FlatQ w) :=
  (flatA 8 5 w).mono fun e w' ⟨x, c, y, d, he, hx, hy, hb⟩ => ⟨x, c, y, d, he, by rw [show clampP 8 = 8 by decide] at hx; exact hx, by rw [show clampP 5 = 5 by decide] at hy; exact hy, hb⟩
theorem ckFlat {w : World} {a b : Option Addr} (c d : Nat) (x y : Int) (hA : IsInts w a (List.replicate 401 (clampP x))) (hB : IsInts w b (List.replicate 52 (clampP y))) : Calls Try.prog 33 #[.agg #[.slice a 401 c, .slice b 52 d]] w fun e w' => e = .returned (.int .i64 0) ∧ Below w.heap.size w w' :=
  pCheck _ _ _ _ w ⟨a, c, by rw [List.length_replicate], hA⟩ ⟨b, d, by rw [List.length_replicate], hB⟩ 0 (by unfold checkP; rw [if_neg (by rw [List.length_replicate, List.length_replicate]; omega), okP_rep _ _ (clampP_in x), okP_rep _ _ (clampP_in y)]; rfl)
set_option maxHeartbeats 1600000 in
theorem awake23 (w : World) : Calls Try.prog 31 #[] w fun e w' => e = .returned (.bool true) ∧ Below w.heap.size w w' := by
  go_enter Try.func31, Try.ntmps31
  go_wp2_with fail
  refine (flat85 _).mono ?_; rintro e w1 ⟨a, c, b, d, rfl, hA, hB, hb⟩
  have hb1 := Lib.hid hb
  have c0 : (w1.alloc (.cells #[.slice a 401 c, .slice b 52 d] 47)).cell? ⟨w1.heap.size, 0, none⟩ = some (.slice a 401 c) := cell_lit (heap_alloc_new w1 _) 0 _ rfl
  have c1 : (w1.alloc (.cells #[.slice a 401 c, .slice b 52 d] 47)).cell? ⟨w1.heap.size, 1, none⟩ = some (.slice b 52 d) := cell_lit (heap_alloc_new w1 _) 1 _ rfl
  have hA := hA.alloc (.cells #[.slice a 401 c, .slice b 52 d] 47)
  have hB := hB.alloc (.cells #[.slice a 401 c, .slice b 52 d] 47)
  have hb := hb.alloc hb.size (.cells #[.slice a 401 c, .slice b 52 d] 47)
  have hlt : w1.heap.size < (w1.alloc (.cells #[.slice a 401 c, .slice b 52 d] 47)).heap.size := by simp
  obtain ⟨W, hW⟩ : ∃ W, w1.alloc (.cells #[.slice a 401 c, .slice b 52 d] 47) = W := ⟨_, rfl⟩
  rw [hW] at c0 c1 hA hB hb hlt
  have hA_ := Lib.hid hA
  have hB_ := Lib.hid hB
  clear hA hB
  go_wp2_with fail
  refine (tokCopy a b c d _ hA_.out hB_.out).mono ?_; rintro e w2 ⟨rfl, hb2⟩
  have c0 := (hb2.cell (p := ⟨w1.heap.size, 0, none⟩) hlt).trans c0
  have c1 := (hb2.cell (p := ⟨w1.heap.size, 1, none⟩) hlt).trans c1
  have hA_ := Lib.hid (hA_.out.kept hb2)
  have hB_ := Lib.hid (hB_.out.kept hb2)
  have hlt := Nat.lt_of_lt_of_le hlt hb2.size
  have hb := hb.trans (hb2.mono hb.size)
  clear hb2
  go_wp2_with fail
  refine (all2 a b c d w2.heap.size _ _ (hA_.out.alloc _) (hB_.out.alloc _) (heap_alloc_new w2 _)).mono ?_; rintro e w3 ⟨rfl, hb3⟩
  have hb3 := (bx w2 _).trans (hb3.mono (by simp))
  have c0 := (hb3.cell (p := ⟨w1.heap.size, 0, none⟩) hlt).trans c0
  have c1 := (hb3.cell (p := ⟨w1.heap.size, 1, none⟩) hlt).trans c1
  have hA_ := Lib.hid (hA_.out.kept hb3)
  have hB_ := Lib.hid (hB_.out.kept hb3)
  have hlt := Nat.lt_of_lt_of_le hlt hb3.size
  have hb := hb.trans (hb3.mono hb.size)
  clear hb3
  go_wp2_with fail
  refine (tokNone _).mono ?_; rintro e w4 ⟨rfl, hb4⟩
  have c0 := (hb4.cell (p := ⟨w1.heap.size, 0, none⟩) hlt).trans c0
  have c1 := (hb4.cell (p := ⟨w1.heap.size, 1, none⟩) hlt).trans c1
  have hA_ := Lib.hid (hA_.out.kept hb4)
  have hB_ := Lib.hid (hB_.out.kept hb4)
  have hlt := Nat.lt_of_lt_of_le hlt hb4.size
  have hb := hb.trans (hb4.mono hb.size)
  clear hb4
  go_wp2_with fail
  refine (ck85 c d hA_.out hB_.out).mono ?_; rintro e w5 ⟨rfl, hb5⟩
  have c0 := (hb5.cell (p := ⟨w1.heap.size, 0, none⟩) hlt).trans c0
  have c1 := (hb5.cell (p := ⟨w1.heap.size, 1, none⟩) hlt).trans c1
  have hA_ := Lib.hid (hA_.out.kept hb5)
  have hB_ := Lib.hid (hB_.out.kept hb5)
  have hlt := Nat.lt_of_lt_of_le hlt hb5.size
  have hb := hb.trans (hb5.mono hb.size)
  clear hb5
  go_wp2_with fail
  refine (flatA (-5) 1099511627776 _).mono ?_; rintro e w6 ⟨a6, c6, b6, d6, rfl, hA6, hB6, hb6⟩
  have c0 := (hb6.cell (p := ⟨w1.heap.size, 0, none⟩) hlt).trans c0
  have c1 := (hb6.cell (p := ⟨w1.heap.size, 1, none⟩) hlt).trans c1
  have hA_ := Lib.hid (hA_.out.kept hb6)
  have hB_ := Lib.hid (hB_.out.kept hb6)
  have hlt := Nat.lt_of_lt_of_le hlt hb6.size
  have hb := hb.trans (hb6.mono hb.size)
  clear hb6
  go_wp2_with fail
  refine (ckFlat c6 d6 _ _ hA6 hB6).mono ?_; rintro e w7 ⟨rfl, hb7⟩
  have c0 := (hb7.cell (p := ⟨w1.heap.size, 0, none⟩) hlt).trans c0
  have c1 := (hb7.cell (p := ⟨w1.heap.size, 1, none⟩) hlt).trans c1
  have hA_ := Lib.hid (hA_.out.kept hb7)
  have hB_ := Lib.hid (hB_.out.kept hb7)
  have hlt := Nat.lt_of_lt_of_le hlt hb7.size
  have hb := hb.trans (hb7.mono hb.size)
  clear hb7
  clear hA6 hB6
  go_wp2_with fail
  go_ret
  exact ⟨rfl, hb⟩
end Go.Proofs.Ytekageibffhloaa
