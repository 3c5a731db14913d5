/- Layer 23: what two pieces cost together; what chapter 23 shows. -/
import Derived.Test.YtekageibffhloaaP4
namespace Go.Proofs.Ytekageibffhloaa
open Go.ChangeShapes Go.WideShapes Go.ChangeAt Go.RowKit
set_option linter.unusedVariables false
set_option maxRecDepth 100000
theorem boxed2 {w w1 : World} {c0 c1 : Value} {t : TypeId} (hb : Below (w.alloc (.cells #[c0, c1] t)).heap.size (w.alloc (.cells #[c0, c1] t)) w1) :
    w1.cell? ⟨w.heap.size, 0, none⟩ = some c0 ∧ w1.cell? ⟨w.heap.size, 1, none⟩ = some c1 := by
  have h (j : Nat) := hb.cell (p := ⟨w.heap.size, j, none⟩) (by simp)
  refine ⟨?_, ?_⟩ <;> (rw [h, World.cell?_alloc_new]; rfl)
theorem isL8 {w : World} {a : Option Addr} (c : Nat) (h : IsInts w a l8) : IsL w (.slice a 401 c) l8 := ⟨a, c, by rw [show l8.length = 401 by simp [l8]], h⟩
theorem isL5 {w : World} {a : Option Addr} (c : Nat) (h : IsInts w a l5) : IsL w (.slice a 52 c) l5 := ⟨a, c, by rw [show l5.length = 52 by simp [l5]], h⟩
theorem ck85 {w : World} {a b : Option Addr} (c d : Nat) (hA : IsInts w a l8) (hB : IsInts w b l5) : Calls Try.prog 33 #[.agg #[.slice a 401 c, .slice b 52 d]] w fun e w' => e = .returned (.int .i64 0) ∧ Below w.heap.size w w' :=
  pCheck _ _ l8 l5 w (isL8 c hA) (isL5 d hB) 0 (by decide +kernel)
theorem tokCopy (a b : Option Addr) (c d : Nat) (w : World) (hA : IsInts w a l8) (hB : IsInts w b l5) :
    Calls Try.prog 64 #[.agg #[.slice a 401 c, .slice b 52 d], tokV 1 0 11 10 0] w fun e w' => e = .returned (.tuple #[.int .i64 16, .int .i64 0]) ∧ Below w.heap.size w w' := by
  have hA_ := Lib.hid hA
  have hB_ := Lib.hid hB
  clear hA hB
  go_enter Try.func64, Try.ntmps64
  go_wp2_with fail
  refine (ck85 c d ((hA_.out.alloc _).alloc _) ((hB_.out.alloc _).alloc _)).mono ?_; rintro e w1 ⟨rfl, hb1⟩
  obtain ⟨hcP, hcT, hb, hlt⟩ := box2 hb1
  have hlt0 : w.heap.size < w1.heap.size := by omega
  clear hb1
  have p0 := cell_lit hcP 0 _ rfl
  have p1 := cell_lit hcP 1 _ rfl
  have t0 := cell_lit hcT 0 _ rfl
  have t1 := cell_lit hcT 1 _ rfl
  have t2 := cell_lit hcT 2 _ rfl
  have t3 := cell_lit hcT 3 _ rfl
  have t4 := cell_lit hcT 4 _ rfl
  clear hcP hcT
  have hA := Lib.hid (hA_.out.kept hb)
  have hB := Lib.hid (hB_.out.kept hb)
  clear hA_ hB_
  go_wp2_with fail
  refine (ofCopy _ _ _ _ _ hA.out hB.out).mono ?_; rintro e w2 ⟨rfl, hb2⟩
  have p0 := (hb2.cell (p := ⟨w.heap.size, 0, none⟩) (by assumption)).trans p0
  have p1 := (hb2.cell (p := ⟨w.heap.size, 1, none⟩) (by assumption)).trans p1
  have t0 := (hb2.cell (p := ⟨w.heap.size + 1, 0, none⟩) (by assumption)).trans t0
  have t1 := (hb2.cell (p := ⟨w.heap.size + 1, 1, none⟩) (by assumption)).trans t1
  have t2 := (hb2.cell (p := ⟨w.heap.size + 1, 2, none⟩) (by assumption)).trans t2
  have t3 := (hb2.cell (p := ⟨w.heap.size + 1, 3, none⟩) (by assumption)).trans t3
  have t4 := (hb2.cell (p := ⟨w.heap.size + 1, 4, none⟩) (by assumption)).trans t4
  have hlt := Nat.lt_of_lt_of_le hlt hb2.size
  have hlt0 := Nat.lt_of_lt_of_le hlt0 hb2.size
  have hb := hb.trans (hb2.mono hb.size)
  go_wp2
  go_ret2
  exact ⟨rfl, hb⟩
theorem tokNone (w : World) : Calls Try.prog 64 #[.agg #[.slice none 0 0, .slice none 0 0], tokV 0 0 0 0 0] w fun e w' => e = .returned (.tuple #[.int .i64 0, .int .i64 4]) ∧ Below w.heap.size w w' := by
  go_enter Try.func64, Try.ntmps64
  go_wp2_with fail
  refine (pCheck _ _ [] [] _ (IsL.nil _) (IsL.nil _) 4 (by decide +kernel)).mono ?_; rintro e w1 ⟨rfl, hb1⟩
  obtain ⟨hcP, hcT, hb, hlt⟩ := box2 hb1
  have hlt0 : w.heap.size < w1.heap.size := by omega
  clear hb1
  have p0 := cell_lit hcP 0 _ rfl
  have p1 := cell_lit hcP 1 _ rfl
  have t0 := cell_lit hcT 0 _ rfl
  have t1 := cell_lit hcT 1 _ rfl
  have t2 := cell_lit hcT 2 _ rfl
  have t3 := cell_lit hcT 3 _ rfl
  have t4 := cell_lit hcT 4 _ rfl
  clear hcP hcT
  go_wp2
  go_ret2
  exact ⟨rfl, hb⟩
def costs : Nat → List Int
  | 0 => [0, 0]
  | 1 => [8, 0]
  | _ => [8, 9]
set_option maxHeartbeats 1600000 in
theorem all2 (a b : Option Addr) (c d g T : Nat) (w : World) (hA : IsInts w a l8) (hB : IsInts w b l5)
    (hT : w.heap[g]? = some (.cells #[.int .i64 0, .int .i64 1, .int .i64 0, .int .i64 0, .int .i64 0, .int .i64 2, .int .i64 0, .int .i64 11, .int .i64 0, .int .i64 0] T (0, 0))) :
    Calls Try.prog 65 #[.agg #[.slice a 401 c, .slice b 52 d], .slice (some ⟨g, 0, none⟩) 2 2] w fun e w' => e = .returned (.tuple #[.int .i64 17, .int .i64 0]) ∧ Below w.heap.size w w' := by
  have hg := block_lt hT
  have HLl := Lib.hid (show 2 ≤ 1099511627776 by omega)
  have hA_ := Lib.hid hA
  have hB_ := Lib.hid hB
  have hT_ := Lib.hid hT
  clear hA hB hT
  go_enter Try.func65, Try.ntmps65
  go_wp2_with fail
  refine (ck85 c d (hA_.out.alloc _) (hB_.out.alloc _)).mono ?_; rintro e w1 ⟨rfl, hb1⟩
  obtain ⟨p0, p1⟩ := boxed2 hb1
  have hb := below_box hb1
  have hsz : w.heap.size < w1.heap.size := by have := hb1.size; simp at this; omega
  clear hb1
  have hA := Lib.hid (hA_.out.kept hb)
  have hB := Lib.hid (hB_.out.kept hb)
  have hT := Lib.hid ((hb.block g hg).trans hT_.out)
  clear hA_ hB_ hT_
  go_wp2_with (refine make_int rfl (.tmp 21) (.tmp 21) rfl .i64 .i64 _ _ 2 rfl rfl rfl rfl HLl.out ?_; intro w3 hown hb3 hsz3)
  have hown_ := Lib.hid hown
  clear hown
  go_loopw [25] (fun i wr => ∃ (k : Nat) (I : Int), I = k ∧ k ≤ 2 ∧ i = .int .i64 I ∧ OwnI w1.heap.size wr (.slice (some ⟨w1.heap.size, 0, none⟩) 2 2) (costs k) ∧ Below w1.heap.size w1 wr) (fun i _ => 2 - (intOf i).toNat)
  case atStart => exact ⟨0, 0, rfl, by omega, rfl, hown_.out, hb3⟩
  case round =>
    clear hb3 hown_ hsz3
    obtain ⟨k, I, hI, hk, rfl, hown, hb2⟩ := hrel
    have p0 := (hb2.cell (p := ⟨w.heap.size, 0, none⟩) hsz).trans p0
    have p1 := (hb2.cell (p := ⟨w.heap.size, 1, none⟩) hsz).trans p1
    have hA := Lib.hid (hA.out.kept hb2)
    have hB := Lib.hid (hB.out.kept hb2)
    have hT := (hb2.block g (Nat.lt_trans hg hsz)).trans hT.out
    have hszr : w.heap.size < wr.heap.size := Nat.lt_of_lt_of_le hsz hb2.size
    rcases (show k = 0 ∨ k = 1 ∨ k = 2 by omega) with rfl | rfl | rfl
    · obtain rfl : I = 0 := hI
      have e0 : wr.cell? ⟨g, 0, none⟩ = _ := cell_lit hT 0 _ rfl
      have e1 : wr.cell? ⟨g, 1, none⟩ = _ := cell_lit hT 1 _ rfl
      have e2 : wr.cell? ⟨g, 2, none⟩ = _ := cell_lit hT 2 _ rfl
      have e3 : wr.cell? ⟨g, 3, none⟩ = _ := cell_lit hT 3 _ rfl
      have e4 : wr.cell? ⟨g, 4, none⟩ = _ := cell_lit hT 4 _ rfl
      clear hT
      have hown_ := Lib.hid hown
      have hb2_ := Lib.hid hb2
      clear hown hb2
      go_wp2_with fail
      refine (ofByte _ _ _ _ _ (hA.out.alloc _)).mono ?_; rintro e w4 ⟨rfl, hb4⟩
      have hq := ((hown_.out.alloc _).kept hb4).int_cell 0 (by decide)
      have hfr := ((hown_.out.alloc _).kept hb4).free 0
      have HSt := ((hown_.out.alloc _).kept hb4).set_int 0 8 (by decide)
      have HB := Lib.hid ((hb2_.out.alloc hb2_.out.size _).trans (hb4.mono (by have := hb2_.out.size; simp; omega)))
      have hsz4 : w.heap.size < w4.heap.size := by have := hb4.size; simp at this; omega
      have HSt_ := Lib.hid HSt
      clear HSt
      clear hb4 hown_
      go_wp2
      go_roundw
      case rel => exact ⟨1, 1, rfl, by omega, by go_num, HSt_.out, HB.out.setCell (Nat.le_refl _) _⟩
      case measure => simp [intOf]
    · obtain rfl : I = 1 := hI
      have e0 : wr.cell? ⟨g, 5, none⟩ = _ := cell_lit hT 5 _ rfl
      have e1 : wr.cell? ⟨g, 6, none⟩ = _ := cell_lit hT 6 _ rfl
      have e2 : wr.cell? ⟨g, 7, none⟩ = _ := cell_lit hT 7 _ rfl
      have e3 : wr.cell? ⟨g, 8, none⟩ = _ := cell_lit hT 8 _ rfl
      have e4 : wr.cell? ⟨g, 9, none⟩ = _ := cell_lit hT 9 _ rfl
      clear hT
      have hown_ := Lib.hid hown
      have hb2_ := Lib.hid hb2
      clear hown hb2
      go_wp2_with fail
      refine (ofRep _ _ _ _ _ (hA.out.alloc _)).mono ?_; rintro e w4 ⟨rfl, hb4⟩
      have hq := ((hown_.out.alloc _).kept hb4).int_cell 1 (by decide)
      have hfr := ((hown_.out.alloc _).kept hb4).free 1
      have HSt := ((hown_.out.alloc _).kept hb4).set_int 1 9 (by decide)
      have HB := Lib.hid ((hb2_.out.alloc hb2_.out.size _).trans (hb4.mono (by have := hb2_.out.size; simp; omega)))
      have hsz4 : w.heap.size < w4.heap.size := by have := hb4.size; simp at this; omega
      have HSt_ := Lib.hid HSt
      clear HSt
      clear hb4 hown_
      go_wp2
      go_roundw
      case rel => exact ⟨2, 2, rfl, by omega, by go_num, HSt_.out, HB.out.setCell (Nat.le_refl _) _⟩
      case measure => simp [intOf]
    · obtain rfl : I = 2 := hI
      have hl := Lib.hid (hown.isL (by decide))
      clear hown
      go_wp2_with fail
      refine (pSum _ [8, 9] _ hl.out (by decide) (by unfold Small; decide) 17 (by decide)).mono ?_; rintro e w5 ⟨rfl, rfl⟩
      go_wp2
      go_ret2
      exact ⟨rfl, hb.trans (hb2.mono hb.size)⟩
end Go.Proofs.Ytekageibffhloaa
