/- Layer 6: the examples. -/
import Derived.Test.YtmpmioffngonjaaKt
import Derived.Test.YtmpmioffngonjaaOwn
namespace Go.Proofs.Ytmpmioffngonjaa
open Go.ChangeShapes Go.WideShapes Go.ChangeAt Go.RowKit
set_option linter.unusedVariables false
set_option maxRecDepth 100000
open KraftMath
theorem isInts_new (w : World) (zs : List Int) (t : Nat) (hl : zs.length ≤ 100) : IsInts (w.alloc (.cells (zs.map (Value.int .i64 ·)).toArray t)) (some ⟨w.heap.size, 0, none⟩) zs := by
  refine ⟨by omega, .inr ⟨_, rfl, fun i hi => ?_⟩⟩
  have e : (⟨w.heap.size, 0, none⟩ : Addr).add i = ⟨w.heap.size, i, none⟩ := by simp [Addr.add]; try omega
  rw [e]
  refine cell_lit (by exact heap_alloc_new _ _) i _ ?_
  simp [hi]
theorem check_lit (w : World) (zs : List Int) (n t : Nat) (m r : Int) (hn : n = zs.length) (hl : zs.length ≤ 100) (hr : check zs m = r) : Calls Try.prog 20 #[.slice (some ⟨w.heap.size, 0, none⟩) n n, .int .i64 m] (w.alloc (.cells (zs.map (Value.int .i64 ·)).toArray t)) fun e w' => e = .returned (.int .i64 r) ∧ Below w.heap.size w w' := by
  subst hn
  refine (kCheck_any _ _ m zs _ (isInts_new w zs t hl)).mono ?_
  rintro e w' ⟨rfl, k, rfl⟩
  exact ⟨by rw [hr], below_drewN (by go_grown) _⟩
theorem check_nil (w : World) (m r : Int) (hr : check [] m = r) : Calls Try.prog 20 #[.slice none 0 0, .int .i64 m] w fun e w' => e = .returned (.int .i64 r) ∧ Below w.heap.size w w' := by
  refine (kCheck_any none 0 m [] w ⟨by simp, .inl rfl⟩).mono ?_
  rintro e w' ⟨rfl, k, rfl⟩
  exact ⟨by rw [hr], below_drewN (by go_grown) _⟩
theorem used_lit (w : World) (zs : List Int) (n t : Nat) (r : Int) (hn : n = zs.length) (hl : zs.length ≤ 100) (hr : ((used zs : Nat) : Int) = r) : Calls Try.prog 16 #[.slice (some ⟨w.heap.size, 0, none⟩) n n] (w.alloc (.cells (zs.map (Value.int .i64 ·)).toArray t)) fun e w' => e = .returned (.int .i64 r) ∧ Below w.heap.size w w' := by
  subst hn
  refine (kUsed _ _ zs _ (isInts_new w zs t hl)).mono ?_
  rintro e w' ⟨rfl, rfl⟩
  exact ⟨by rw [hr], by go_grown⟩
theorem sum_lit (w : World) (zs : List Int) (n t m : Nat) (r : Int) (h1 : 1 ≤ m) (h16 : m ≤ 16) (hn : n = zs.length) (hl : zs.length ≤ 100) (hr : ((ksum m zs : Nat) : Int) = r) : Calls Try.prog 18 #[.slice (some ⟨w.heap.size, 0, none⟩) n n, .int .i64 m] (w.alloc (.cells (zs.map (Value.int .i64 ·)).toArray t)) fun e w' => e = .returned (.int .i64 r) ∧ Below w.heap.size w w' := by
  subst hn
  refine (kSum _ _ m zs _ (isInts_new w zs t hl) h1 h16).mono ?_
  rintro e w' ⟨rfl, rfl⟩
  exact ⟨by rw [hr], by go_grown⟩
theorem whole_lit (w : World) (zs : List Int) (n t : Nat) (m : Int) (B : Bool) (hn : n = zs.length) (hl : zs.length ≤ 100) (hr : wholeB zs m = B) : Calls Try.prog 22 #[.slice (some ⟨w.heap.size, 0, none⟩) n n, .int .i64 m] (w.alloc (.cells (zs.map (Value.int .i64 ·)).toArray t)) fun e w' => e = .returned (.bool B) ∧ Below w.heap.size w w' := by
  subst hn
  refine (kWhole_any _ _ m zs _ (isInts_new w zs t hl)).mono ?_
  rintro e w' ⟨rfl, k, rfl⟩
  exact ⟨by rw [hr], below_drewN (by go_grown) _⟩
set_option maxHeartbeats 1600000 in
theorem awake06 (w : World) : Calls Try.prog 15 #[] w fun e w' => e = .returned (.bool true) ∧ Below w.heap.size w w' := by
  go_enter Try.func15, Try.ntmps15
  go_wp2_with fail
  refine (check_lit _ [1, 2, 2] 3 3 2 0 rfl (by decide) (by decide)).mono ?_; rintro e w1 ⟨rfl, hc1⟩
  go_wp2_with fail
  refine (check_lit _ [1, 2] 2 3 2 6 rfl (by decide) (by decide)).mono ?_; rintro e w2 ⟨rfl, hb⟩
  have hc2 := hc1.trans (hb.mono hc1.size); clear hb hc1
  go_wp2_with fail
  refine (check_lit _ [0, 1] 2 3 5 0 rfl (by decide) (by decide)).mono ?_; rintro e w3 ⟨rfl, hb⟩
  have hc3 := hc2.trans (hb.mono hc2.size); clear hb hc2
  go_wp2_with fail
  refine (check_lit _ [0, 2] 2 3 5 6 rfl (by decide) (by decide)).mono ?_; rintro e w4 ⟨rfl, hb⟩
  have hc4 := hc3.trans (hb.mono hc3.size); clear hb hc3
  go_wp2_with fail
  refine (check_nil _ 5 7 (by decide)).mono ?_; rintro e w5 ⟨rfl, hb⟩
  have hc5 := hc4.trans (hb.mono hc4.size); clear hb hc4
  go_wp2_with fail
  refine (check_lit _ [3] 1 3 2 2 rfl (by decide) (by decide)).mono ?_; rintro e w6 ⟨rfl, hb⟩
  have hc6 := hc5.trans (hb.mono hc5.size); clear hb hc5
  go_wp2_with fail
  refine (check_lit _ [1] 1 3 17 1 rfl (by decide) (by decide)).mono ?_; rintro e w7 ⟨rfl, hb⟩
  have hc7 := hc6.trans (hb.mono hc6.size); clear hb hc6
  go_wp2_with fail
  refine (used_lit _ [0, 1, -1] 3 3 1 rfl (by decide) (by decide)).mono ?_; rintro e w8 ⟨rfl, hb⟩
  have hc8 := hc7.trans (hb.mono hc7.size); clear hb hc7
  go_wp2_with fail
  refine (sum_lit _ [1, 2] 2 3 2 3 (by decide) (by decide) rfl (by decide) (by decide)).mono ?_; rintro e w9 ⟨rfl, hb⟩
  have hc9 := hc8.trans (hb.mono hc8.size); clear hb hc8
  go_wp2_with fail
  refine (whole_lit _ [1, 2, 2] 3 3 3 true rfl (by decide) (by decide)).mono ?_; rintro e w10 ⟨rfl, hb⟩
  have hc10 := hc9.trans (hb.mono hc9.size); clear hb hc9
  go_wp2_with fail
  go_ret
  exact ⟨rfl, hc10⟩
end Go.Proofs.Ytmpmioffngonjaa
