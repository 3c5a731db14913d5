/- Layer 9 by values; the chapter's example. -/
import Derived.Test.YtlampmedeebekaaE9
namespace Go.Proofs.Ytlampmedeebekaa
open Go.ChangeShapes Go.WideShapes Go.ChangeAt Go.RowKit
set_option linter.unusedVariables false
set_option maxRecDepth 100000
theorem sDecT {w : World} {v u : Value} {l : List Int} {row : List Bool} (h1 : IsL w v l) (h2 : IsB w u row) (hr : row.length ≤ 1000000) (X Y E : Int) (hR : decL l row = (X, Y, E)) :
    Calls Try.prog 16 #[v, u] w fun e w' => e = .returned (.tuple #[.int .i64 X, .int .i64 Y, .int .i64 E]) ∧ Below w.heap.size w w' := by
  obtain ⟨a, ca, rfl, h1⟩ := h1
  obtain ⟨b, cb, rfl, h2⟩ := h2
  exact sDecode9 a b ca cb l row w h1 h2 hr X Y E hR
theorem dDecT {w : World} {v u : Value} {l : List Int} {row : List Bool} (h1 : IsL w v l) (h2 : IsB w u row) (hl : l.length ≤ 1000) (hr : row.length ≤ 1000000) (X Y E : Int) (hR : decL l row = (X, Y, E)) :
    Calls Try.prog 17 #[v, u] w fun e w' => e = .returned (.tuple #[.int .i64 X, .int .i64 Y, .int .i64 E]) ∧ Below w.heap.size w w' := by
  obtain ⟨a, ca, rfl, h1⟩ := h1
  obtain ⟨b, cb, rfl, h2⟩ := h2
  exact dDecode9 a b ca cb l row w h1 h2 hl hr X Y E hR
theorem sEncT {w : World} {v u : Value} {l syms : List Int} (h1 : IsL w v l) (h2 : IsL w u syms) (hs : syms.length ≤ 1000) (S : List Bool) (E : Int) (hR : encL l syms = (S, E)) :
    Calls Try.prog 18 #[v, u] w fun e w' => ∃ v, e = .returned (.tuple #[v, .int .i64 E]) ∧ OwnB w.heap.size w' v S ∧ Below w.heap.size w w' := by
  obtain ⟨a, ca, rfl, h1⟩ := h1
  obtain ⟨b, cb, rfl, h2⟩ := h2
  exact sEncode9 a b ca cb l syms w h1 h2 hs S E hR
theorem dEncT {w : World} {v u : Value} {l syms : List Int} (h1 : IsL w v l) (h2 : IsL w u syms) (hl : l.length ≤ 1000) (hs : syms.length ≤ 1000) (S : List Bool) (E : Int) (hR : encL l syms = (S, E)) :
    Calls Try.prog 19 #[v, u] w fun e w' => ∃ v, e = .returned (.tuple #[v, .int .i64 E]) ∧ OwnB w.heap.size w' v S ∧ Below w.heap.size w w' := by
  obtain ⟨a, ca, rfl, h1⟩ := h1
  obtain ⟨b, cb, rfl, h2⟩ := h2
  exact dEncode9 a b ca cb l syms w h1 h2 hl hs S E hR
theorem dBoolsT {w : World} {v u : Value} {l h : List Bool} (h1 : IsB w v l) (h2 : IsB w u h) (hl : l.length ≤ 1000000) (hh : h.length ≤ 1000000) (B : Bool) (hB : B = decide (l = h)) :
    Calls Try.prog 20 #[v, u] w fun e w' => e = .returned (.bool B) ∧ ∃ k, w' = w.drewN k := by
  obtain ⟨a, ca, rfl, h1⟩ := h1
  obtain ⟨b, cb, rfl, h2⟩ := h2
  exact dBools a b ca cb l h w h1 h2 hl hh B hB
theorem litI (w : World) (is : List Int) (t2 c2 : Nat) (hl : is.length ≤ 70368744177664) : IsL (w.alloc (.cells (is.map (Value.int .i64 ·)).toArray t2)) (.slice (some ⟨w.heap.size, 0, none⟩) is.length c2) is :=
  ⟨_, _, rfl, IsInts.new w is t2 (0, 0) hl⟩
theorem litI2 (w : World) (o : Obj) (is : List Int) (t2 c2 : Nat) (hl : is.length ≤ 70368744177664) : IsL ((w.alloc o).alloc (.cells (is.map (Value.int .i64 ·)).toArray t2)) (.slice (some ⟨w.heap.size + 1, 0, none⟩) is.length c2) is := by
  have := litI (w.alloc o) is t2 c2 hl
  simpa using this
theorem litB2 (w : World) (o : Obj) (bs : List Bool) (t c : Nat) : IsB ((w.alloc o).alloc (.cells (bs.map Value.bool).toArray t)) (.slice (some ⟨w.heap.size + 1, 0, none⟩) bs.length c) bs := by
  have := IsB.lit (w.alloc o) bs t c
  simpa using this
theorem st1 {w a b : World} {o : Obj} (h : Below w.heap.size w a) (h2 : Below (a.alloc o).heap.size (a.alloc o) b) : Below w.heap.size w b :=
  (h.alloc h.size o).trans (h2.mono (by have := h.size; simp; omega))
theorem st2 {w a b : World} {o q : Obj} (h : Below w.heap.size w a) (h2 : Below ((a.alloc o).alloc q).heap.size ((a.alloc o).alloc q) b) : Below w.heap.size w b :=
  st1 (h.alloc h.size o) h2
set_option maxHeartbeats 3200000 in
theorem awake09 (w : World) : Calls Try.prog 15 #[] w fun e w' => e = .returned (.bool true) ∧ Below w.heap.size w w' := by
  go_enter Try.func15, Try.ntmps15
  go_wp2_with fail
  refine (sDecT ((litI w [2, 1, 2] 3 3 (by decide)).alloc _) (litB2 w _ [true, false, true] 4 3) (by decide) 0 2 0 (by decide +kernel)).mono ?_; rintro e w1 ⟨rfl, hb1⟩
  have hb := st2 (Below.refl w.heap.size w) hb1
  have L1 := Lib.hid (((litI w [2, 1, 2] 3 3 (by decide)).alloc (.cells #[.bool true, .bool false, .bool true] 4)).kept hb1)
  clear hb1
  go_wp2_with fail
  refine (sDecT (L1.out.alloc _) (IsB.lit w1 [true] 4 1) (by decide) 0 0 3 (by decide +kernel)).mono ?_; rintro e w2 ⟨rfl, hb1⟩
  have hb := st1 hb hb1
  have L2 := Lib.hid ((L1.out.alloc _).kept hb1)
  clear hb1 L1
  go_wp2_with fail
  refine (sDecT ((litI w2 [1] 3 1 (by decide)).alloc _) (litB2 w2 _ [true] 4 1) (by decide) 0 0 4 (by decide +kernel)).mono ?_; rintro e w3 ⟨rfl, hb1⟩
  have hb := st2 hb hb1
  have L3 := Lib.hid (((L2.out.alloc _).alloc _).kept hb1)
  clear hb1 L2
  go_wp2_with fail
  refine (sEncT (L3.out.alloc _) (litI w3 [1, 2] 3 2 (by decide)) (by decide) [false, true, true] 0 (by decide +kernel)).mono ?_; rintro e w4 ⟨v4, rfl, ho4, hb1⟩
  have hb := st1 hb hb1
  have L4 := Lib.hid ((L3.out.alloc _).kept hb1)
  have B4 := Lib.hid ho4.isB
  clear hb1 L3 ho4
  go_wp2_with fail
  refine (sEncT (L4.out.alloc _) (litI w4 [3] 3 1 (by decide)) (by decide) [] 7 (by decide +kernel)).mono ?_; rintro e w5 ⟨v5, rfl, ho5, hb1⟩
  have hb := st1 hb hb1
  have B5 := Lib.hid ((show IsB (w4.alloc (.cells #[.int .i64 3] 3)) v4 [false, true, true] by
    obtain ⟨x, y, e, hh⟩ := B4.out
    exact ⟨x, y, e, hh.kept ((Below.refl _ _).alloc (Nat.le_refl _) _)⟩).kept hb1)
  clear hb1 L4 ho5 B4
  go_wp2_with fail
  refine (dBoolsT (show IsB (w5.alloc (.cells #[.bool false, .bool true, .bool true] 4)) v4 [false, true, true] from B5.out.kept ((Below.refl _ _).alloc (Nat.le_refl _) _)) (IsB.lit w5 [false, true, true] 4 3) (by decide) (by decide) true (by decide)).mono ?_; rintro e w6 ⟨rfl, k6, rfl⟩
  have hb := below_dn (hb.alloc hb.size (.cells #[.bool false, .bool true, .bool true] 4)) k6
  clear B5
  go_wp2_with fail
  go_ret
  exact ⟨rfl, hb⟩
end Go.Proofs.Ytlampmedeebekaa
