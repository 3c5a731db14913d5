/- Layer 57: awake. -/
import Derived.Test.YtjpmfaodkldobaaS2
import Derived.Test.YtjpmfaodkldobaaS3
namespace Go.Proofs.Ytjpmfaodkldobaa
open Go.ChangeShapes Go.WideShapes Go.ChangeAt Go.RowKit
set_option linter.unusedVariables false
set_option maxRecDepth 100000
open QuantMath
theorem tok0 (w : World) : Calls Try.prog 96 #[.agg #[.int .i64 0, .int .i64 1, .int .i64 0, .int .i64 0, .int .i64 0]] w fun e w' => e = .returned (.int .i64 0) ∧ Below w.heap.size w w' := by
  go_enter Try.func96, Try.ntmps96
  go_wp2
  go_ret
  exact ⟨rfl, by go_grown⟩
theorem tok1 (w : World) : Calls Try.prog 96 #[.agg #[.int .i64 1, .int .i64 0, .int .i64 9, .int .i64 1, .int .i64 0]] w fun e w' => e = .returned (.int .i64 0) ∧ Below w.heap.size w w' := by
  go_enter Try.func96, Try.ntmps96
  go_wp2
  go_ret
  exact ⟨rfl, by go_grown⟩
theorem tok5 (w : World) : Calls Try.prog 96 #[.agg #[.int .i64 5, .int .i64 0, .int .i64 0, .int .i64 0, .int .i64 0]] w fun e w' => e = .returned (.int .i64 10) ∧ Below w.heap.size w w' := by
  go_enter Try.func96, Try.ntmps96
  go_wp2
  go_ret
  exact ⟨rfl, by go_grown⟩
abbrev toks3 : Array Value := #[.int .i64 0, .int .i64 1, .int .i64 0, .int .i64 0, .int .i64 0, .int .i64 1, .int .i64 0, .int .i64 9, .int .i64 1, .int .i64 0, .int .i64 5, .int .i64 0, .int .i64 0, .int .i64 0, .int .i64 0]
theorem sLens3 (w : World) (g T : Nat) (h : w.heap[g]? = some (.cells toks3 T (0, 0))) :
    Calls Try.prog 84 #[.slice (some ⟨g, 0, none⟩) 3 3] w fun e w' => ∃ v, e = .returned v ∧ OwnI w.heap.size w' v [9] ∧ Below w.heap.size w w' := by
  have hgl := block_lt h
  have hc := fun j => cell_in h j
  have HC := Lib.hid hc
  clear hc h
  go_enter Try.func84, Try.ntmps84
  go_wp2_with fail
  go_loopw [3, 8] (fun u i wr => ∃ (k : Nat) (I : Int), k ≤ 3 ∧ I = k ∧ i = .int .i64 I ∧ OwnI w.heap.size wr u (if k ≤ 1 then [] else [9]) ∧ Below w.heap.size w wr) (fun _ i _ => 3 - (intOf i).toNat)
  case atStart => exact ⟨0, 0, by omega, rfl, rfl, OwnS.nil, Below.refl _ _⟩
  case round =>
    obtain ⟨k, I, hk, hI, rfl, hown, hb⟩ := hrel
    have hbs := hb.size
    rcases k with _ | _ | _ | _ | k
    · obtain rfl : I = 0 := by omega
      clear hI
      have c0 : wr.cell? ⟨g, 0, none⟩ = _ := (hb.cell (p := ⟨g, 0, none⟩) hgl).trans (HC.out 0)
      have c1 : wr.cell? ⟨g, 1, none⟩ = _ := (hb.cell (p := ⟨g, 1, none⟩) hgl).trans (HC.out 1)
      have c2 : wr.cell? ⟨g, 2, none⟩ = _ := (hb.cell (p := ⟨g, 2, none⟩) hgl).trans (HC.out 2)
      have c3 : wr.cell? ⟨g, 3, none⟩ = _ := (hb.cell (p := ⟨g, 3, none⟩) hgl).trans (HC.out 3)
      have c4 : wr.cell? ⟨g, 4, none⟩ = _ := (hb.cell (p := ⟨g, 4, none⟩) hgl).trans (HC.out 4)
      simp only [toks3, List.getElem?_toArray, List.getElem?_cons_zero, List.getElem?_cons_succ] at c0 c1 c2 c3 c4
      have hown_ := Lib.hid hown
      have hb_ := Lib.hid hb
      clear hown hb
      go_wp2_with fail
      refine (tok0 _).mono ?_; rintro e w2 ⟨rfl, hb2⟩
      have gb := (Keeps.of_below (S := fun _ => False) hb2).heap (heap_alloc_new wr _) (fun h => h)
      have d0 := cell_in gb 0
      have d2 := cell_in gb 2
      simp only [List.getElem?_toArray, List.getElem?_cons_zero, List.getElem?_cons_succ] at d0 d2
      have hl2 := block_lt gb
      have hown2 := Lib.hid ((hown_.out.alloc (.cells #[.int .i64 0, .int .i64 1, .int .i64 0, .int .i64 0, .int .i64 0] 53)).kept hb2)
      have hb2 := Lib.hid ((hb_.out.alloc (o := .cells #[.int .i64 0, .int .i64 1, .int .i64 0, .int .i64 0, .int .i64 0] 53) hbs).trans (hb2.mono (by simp; omega)))
      clear hown_ hb_ c0 c1 c2 c3 c4 gb
      go_wp2_with fail
      go_roundw
      case rel => exact ⟨1, 1, by omega, rfl, by go_num, hown2.out, hb2.out⟩
      case measure => simp [intOf]
    · obtain rfl : I = 1 := by omega
      clear hI
      have c0 : wr.cell? ⟨g, 5, none⟩ = _ := (hb.cell (p := ⟨g, 5, none⟩) hgl).trans (HC.out 5)
      have c1 : wr.cell? ⟨g, 6, none⟩ = _ := (hb.cell (p := ⟨g, 6, none⟩) hgl).trans (HC.out 6)
      have c2 : wr.cell? ⟨g, 7, none⟩ = _ := (hb.cell (p := ⟨g, 7, none⟩) hgl).trans (HC.out 7)
      have c3 : wr.cell? ⟨g, 8, none⟩ = _ := (hb.cell (p := ⟨g, 8, none⟩) hgl).trans (HC.out 8)
      have c4 : wr.cell? ⟨g, 9, none⟩ = _ := (hb.cell (p := ⟨g, 9, none⟩) hgl).trans (HC.out 9)
      simp only [toks3, List.getElem?_toArray, List.getElem?_cons_zero, List.getElem?_cons_succ] at c0 c1 c2 c3 c4
      have hown_ := Lib.hid hown
      have hb_ := Lib.hid hb
      clear hown hb
      go_wp2_with fail
      refine (tok1 _).mono ?_; rintro e w2 ⟨rfl, hb2⟩
      have gb := (Keeps.of_below (S := fun _ => False) hb2).heap (heap_alloc_new wr _) (fun h => h)
      have d0 := cell_in gb 0
      have d2 := cell_in gb 2
      simp only [List.getElem?_toArray, List.getElem?_cons_zero, List.getElem?_cons_succ] at d0 d2
      have hl2 := block_lt gb
      have hown2 := Lib.hid ((hown_.out.alloc (.cells #[.int .i64 1, .int .i64 0, .int .i64 9, .int .i64 1, .int .i64 0] 53)).kept hb2)
      have hb2 := Lib.hid ((hb_.out.alloc (o := .cells #[.int .i64 1, .int .i64 0, .int .i64 9, .int .i64 1, .int .i64 0] 53) hbs).trans (hb2.mono (by simp; omega)))
      clear hown_ hb_ c0 c1 c2 c3 c4 gb
      have HB2 := Lib.hid hb2.out.size
      go_wp2_with (at_builtin; refine app_int rfl _ _ rfl _ _ _ _ 9 rfl hown2.out _ 1 rfl rfl (by decide) HB2.out ?_; intro v2 w3 hown3 hb3 hg3)
      have hb4 := hb2.out.trans hb3
      have hown3_ := Lib.hid hown3
      have hb4_ := Lib.hid hb4
      clear hown3 hb4
      clear hb3 hg3 hown2 hb2
      go_wp2_with fail
      go_roundw
      case rel => exact ⟨2, 2, by omega, rfl, by go_num, hown3_.out, hb4_.out⟩
      case measure => simp [intOf]
    · obtain rfl : I = 2 := by omega
      clear hI
      have c0 : wr.cell? ⟨g, 10, none⟩ = _ := (hb.cell (p := ⟨g, 10, none⟩) hgl).trans (HC.out 10)
      have c1 : wr.cell? ⟨g, 11, none⟩ = _ := (hb.cell (p := ⟨g, 11, none⟩) hgl).trans (HC.out 11)
      have c2 : wr.cell? ⟨g, 12, none⟩ = _ := (hb.cell (p := ⟨g, 12, none⟩) hgl).trans (HC.out 12)
      have c3 : wr.cell? ⟨g, 13, none⟩ = _ := (hb.cell (p := ⟨g, 13, none⟩) hgl).trans (HC.out 13)
      have c4 : wr.cell? ⟨g, 14, none⟩ = _ := (hb.cell (p := ⟨g, 14, none⟩) hgl).trans (HC.out 14)
      simp only [toks3, List.getElem?_toArray, List.getElem?_cons_zero, List.getElem?_cons_succ] at c0 c1 c2 c3 c4
      have hown_ := Lib.hid hown
      have hb_ := Lib.hid hb
      clear hown hb
      go_wp2_with fail
      refine (tok5 _).mono ?_; rintro e w2 ⟨rfl, hb2⟩
      have gb := (Keeps.of_below (S := fun _ => False) hb2).heap (heap_alloc_new wr _) (fun h => h)
      have d0 := cell_in gb 0
      have d2 := cell_in gb 2
      simp only [List.getElem?_toArray, List.getElem?_cons_zero, List.getElem?_cons_succ] at d0 d2
      have hl2 := block_lt gb
      have hown2 := Lib.hid ((hown_.out.alloc (.cells #[.int .i64 5, .int .i64 0, .int .i64 0, .int .i64 0, .int .i64 0] 53)).kept hb2)
      have hb2 := Lib.hid ((hb_.out.alloc (o := .cells #[.int .i64 5, .int .i64 0, .int .i64 0, .int .i64 0, .int .i64 0] 53) hbs).trans (hb2.mono (by simp; omega)))
      clear hown_ hb_ c0 c1 c2 c3 c4 gb
      go_wp2_with fail
      go_roundw
      case rel => exact ⟨3, 3, by omega, rfl, by go_num, hown2.out, hb2.out⟩
      case measure => simp [intOf]
    · obtain rfl : I = 3 := by omega
      clear hI
      have hown_ := Lib.hid hown
      have hb_ := Lib.hid hb
      clear hown hb
      go_wp2_with fail
      go_ret
      exact ⟨_, rfl, hown_.out, hb_.out⟩
    · omega
theorem litL (w : World) (zs : List Int) (t c : Nat) (hl : zs.length ≤ 70368744177664) : IsL (w.alloc (.cells (zs.map (Value.int .i64 ·)).toArray t)) (.slice (some ⟨w.heap.size, 0, none⟩) zs.length c) zs := ⟨_, _, rfl, IsInts.new w zs t (0, 0) hl⟩
theorem intsB {v u : Value} {l m : List Int} {w : World} (h1 : IsL w v l) (h2 : IsL w u m) (B : Bool) (hB : B = decide (l = m)) :
    Calls Try.prog 40 #[v, u] w fun e w' => e = .returned (.bool B) ∧ Below w.heap.size w w' := (intsL h1 h2 B hB).mono (by rintro e w' ⟨rfl, k, rfl⟩; exact ⟨rfl, below_dn (Below.refl _ _) _⟩)
theorem quantT (zs : List Int) (n o : Int) (R : Int × Int) (t c : Nat) (w : World) (hl : zs.length ≤ 1000) (hR : quantS zs n o = R) :
    Calls Try.prog 51 #[.slice (some ⟨w.heap.size, 0, none⟩) zs.length c, .int .i64 n, .int .i64 o] (w.alloc (.cells (zs.map (Value.int .i64 ·)).toArray t)) fun e w' => e = .returned (.tuple #[.int .i64 R.1, .int .i64 R.2]) ∧ Below w.heap.size w w' :=
  (sQuant _ c zs n o _ (IsInts.new w zs t (0, 0) (by omega)) hl R hR).mono (by rintro e w' ⟨h1, h2⟩; exact ⟨h1, ((Below.refl _ _).alloc (Nat.le_refl _) _).trans (h2.mono (by simp))⟩)
theorem lensT (T : Nat) (w : World) : Calls Try.prog 84 #[.slice (some ⟨w.heap.size, 0, none⟩) 3 3] (w.alloc (.cells toks3 T)) fun e w' => ∃ v, e = .returned v ∧ IsL w' v [9] ∧ Below w.heap.size w w' :=
  (sLens3 _ w.heap.size T (heap_alloc_new w _)).mono (by rintro e w' ⟨v, h1, h3, h2⟩; exact ⟨v, h1, h3.isL (by decide), ((Below.refl _ _).alloc (Nat.le_refl _) _).trans (h2.mono (by simp))⟩)
theorem q312 : quantS [3, 1, 2] 1 2 = (2, 0) := by
  unfold quantS
  rw [if_neg (by decide), if_neg (by decide)]
  unfold quantV
  show ((srt [3, 1, 2]).getD 1 0, (0 : Int)) = (2, 0)
  rw [(quant_iff [3, 1, 2] 1 (by decide) 2).1 (by decide)]
theorem bksT (zs ys : List Int) (t c : Nat) (w : World) (hl : zs.length ≤ 100) (H : ∀ k, k < zs.length → bokAt zs k = true) (hy : bks zs = ys) (hyl : ys.length ≤ 100) :
    Calls Try.prog 83 #[.slice (some ⟨w.heap.size, 0, none⟩) zs.length c] (w.alloc (.cells (zs.map (Value.int .i64 ·)).toArray t)) fun e w' => ∃ v, e = .returned v ∧ IsL w' v ys ∧ Below w.heap.size w w' :=
  (sBuckets _ c zs _ (IsInts.new w zs t (0, 0) (by omega)) hl H).mono (by rintro e w' ⟨v, h1, h3, h2⟩; exact ⟨v, h1, by rw [← hy]; exact h3.isL (by rw [hy]; omega), ((Below.refl _ _).alloc (Nat.le_refl _) _).trans (h2.mono (by simp))⟩)
set_option maxHeartbeats 3200000 in
theorem awake57 (w : World) : Calls Try.prog 50 #[] w fun e w' => e = .returned (.bool true) ∧ Below w.heap.size w w' := by
  go_enter Try.func50, Try.ntmps50
  go_wp2_with fail
  refine (quantT [3, 1, 2] 1 2 (2, 0) _ _ _ (by decide) q312).mono ?_; rintro e w1 ⟨rfl, hb⟩
  go_wp2_with fail
  refine (sQuant none 0 [] 1 2 w1 ⟨by simp, .inl rfl⟩ (by decide) (0, 7) rfl).mono ?_; rintro e w2 ⟨rfl, hb2⟩
  have hb := hb.trans (hb2.mono hb.size)
  clear hb2
  go_wp2_with fail
  refine (quantT [1] 3 2 (0, 1) _ _ _ (by decide) rfl).mono ?_; rintro e w3 ⟨rfl, hb2⟩
  have hb := hb.trans (hb2.mono hb.size)
  clear hb2
  go_wp2_with fail
  refine (bksT [0, 1, 2, 3, 4, -5] [2, 1, 2, 1] _ _ _ (by decide) (by decide +kernel) (by decide +kernel) (by decide)).mono ?_; rintro e w4 ⟨v4, rfl, h4, hb2⟩
  have hb := hb.trans (hb2.mono hb.size)
  have h4_ := Lib.hid h4
  clear h4
  clear hb2
  go_wp2_with fail
  refine (intsB (h4_.out.alloc _) (litL _ [2, 1, 2, 1] _ _ (by decide)) true (by decide)).mono ?_; rintro e w5 ⟨rfl, hb8⟩
  have hb := (hb.alloc hb.size (.cells #[.int .i64 2, .int .i64 1, .int .i64 2, .int .i64 1] 3)).trans (hb8.mono (by have := hb.size; simp; omega))
  clear hb8 h4_
  go_wp2_with fail
  refine (lensT _ _).mono ?_; rintro e w6 ⟨v6, rfl, h6, hb2⟩
  have hb := hb.trans (hb2.mono hb.size)
  have h6_ := Lib.hid h6
  clear h6
  clear hb2
  go_wp2_with fail
  refine (intsB (h6_.out.alloc _) (litL _ [9] _ _ (by decide)) true (by decide)).mono ?_; rintro e w7 ⟨rfl, hb8⟩
  have hb := (hb.alloc hb.size (.cells #[.int .i64 9] 3)).trans (hb8.mono (by have := hb.size; simp; omega))
  clear hb8 h6_
  go_wp2_with fail
  go_ret
  exact ⟨rfl, hb⟩
end Go.Proofs.Ytjpmfaodkldobaa
