/- Layer 44: the chapter's examples. -/
import Derived.Test.YtfemcehglolnjaaPr
namespace Go.Proofs.Ytfemcehglolnjaa
open Go.ChangeShapes Go.WideShapes Go.ChangeAt Go.RowKit
set_option linter.unusedVariables false
set_option maxRecDepth 100000

theorem row_new (w : World) (t : TypeId) (xs : List Value) (n : Nat) (hn : n = w.heap.size) : Row (w.alloc (.cells xs.toArray t)) (some ⟨n, 0, none⟩) xs := by
  subst hn
  refine .inr ⟨_, rfl, fun i hi => ?_⟩
  have e : (⟨w.heap.size, 0, none⟩ : Addr).add i = ⟨w.heap.size, i, none⟩ := by unfold Addr.add; split <;> simp_all
  rw [e]
  simp [World.cell?_alloc_new, List.getD, hi]

theorem of_ex (w : World) (n : Nat) (hn : n = w.heap.size) : Calls Try.prog 38 #[.slice (some ⟨n, 0, none⟩) 2 2] (w.alloc (.cells #[.bool false, .bool false] 4)) (Made (w.alloc (.cells #[.bool false, .bool false] 4)) [1024, 1056]) :=
  of_any (some ⟨n, 0, none⟩) 2 2 [false, false] _ rfl (by decide) (row_new w 4 [.bool false, .bool false] n hn)

theorem Ints_at (r : Bool) (a b : Option Addr) (n m c d : Nat) (xs ys : List Int) (w : World) (h : decide (xs = ys) = r) (hn : xs.length = n) (hm : ys.length = m) (hbn : n ≤ 9223372036854775807) (hbm : m ≤ 9223372036854775807)
    (ha : Row w a (ints xs)) (hb : Row w b (ints ys)) :
    Calls Try.prog 37 #[.slice a n c, .slice b m d] w fun e w' => e = .returned (.bool r) ∧ Below w.heap.size w w' :=
  (Ints_any a b n m c d xs ys w hn hm hbn hbm ha hb).mono fun e w' ⟨he, q, hq⟩ => ⟨by rw [he, h], by rw [hq]; exact below_drewN (Below.refl _ _) q⟩

set_option maxHeartbeats 800000 in
theorem awake44 (w : World) : Calls Try.prog 34 #[] w fun e w' => e = .returned (.bool true) ∧ Below w.heap.size w w' := by
  have S1 := Lib.hid start_any
  go_enter Try.func34, Try.ntmps34
  go_wp2_with fail
  refine (update_in 1024 true (by decide) (by decide) _).mono ?_; rintro e w' ⟨rfl, rfl⟩
  go_wp2_with fail
  refine (update_out 0 true (by decide) _).mono ?_; rintro e w' ⟨rfl, rfl⟩
  go_wp2_with fail
  refine (of_ex _ _ rfl).mono ?_; rintro e w1 ⟨v, rfl, hown, hb1⟩
  obtain ⟨A, c, rfl, hrow, hlen⟩ := row_of_own hown
  have hb2 : Below w.heap.size w w1 := ((Below.refl _ _).alloc (Nat.le_refl _) _).trans (hb1.mono (by simp))
  clear hown hb1 hlen
  go_wp2_with fail
  refine (Ints_at true _ _ 2 2 _ _ [1024, 1056] [1024, 1056] _ (by decide) rfl rfl (by decide) (by decide) (hrow.below ((Below.refl _ _).alloc (Nat.le_refl _) _)) (row_new w1 3 [.int .i64 1024, .int .i64 1056] _ rfl)).mono ?_
  rintro e w2 ⟨rfl, hb3⟩
  have hb4 : Below w.heap.size w w2 := (hb2.alloc hb2.size _).trans (hb3.mono (by have := hb2.size; simp; omega))
  clear hb2 hb3 hrow
  go_wp2_with fail
  refine (S1.out _).mono ?_; rintro e w' ⟨rfl, rfl⟩
  go_wp2_with fail
  go_ret
  exact ⟨rfl, hb4⟩
end Go.Proofs.Ytfemcehglolnjaa
