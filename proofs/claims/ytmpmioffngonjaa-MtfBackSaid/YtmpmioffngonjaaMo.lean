/- Layer 47: the examples. -/
import Derived.Test.YtmpmioffngonjaaMl
namespace Go.Proofs.Ytmpmioffngonjaa
open Go.ChangeShapes Go.WideShapes Go.ChangeAt Go.RowKit
set_option linter.unusedVariables false
set_option maxRecDepth 100000
open MtfMath
theorem bs1 : backS [97, 0, 98] = ⟨#[97, 97, 98]⟩ := by decide +kernel
theorem be1 : backE [97, 0, 98] = 0 := by decide +kernel
theorem bs2 : backS [256] = ⟨#[]⟩ := by decide +kernel
theorem be2 : backE [256] = 2 := by decide +kernel
theorem mv1 : (moveL all [97, 97, 98]).map (fun n : Nat => (n : Int)) = [97, 0, 98] := by decide +kernel
theorem below_new {w w' : World} {o : Obj} (hb : Below (w.alloc o).heap.size (w.alloc o) w') : Below w.heap.size w w' := ((Below.refl _ _).alloc (Nat.le_refl _) o).trans (hb.mono (by simp))
theorem bk1 (w : World) (n : Nat) (hn : n = w.heap.size) : Calls Try.prog 49 #[.slice (some ⟨n, 0, none⟩) 3 3] (w.alloc (.cells #[.int .i64 97, .int .i64 0, .int .i64 98] 3)) fun e w' => e = .returned (.tuple #[.string ⟨#[97, 97, 98]⟩, .int .i64 0]) ∧ Below w.heap.size w w' := by
  subst hn
  have h := mBack (some ⟨w.heap.size, 0, none⟩) 3 [97, 0, 98] _ (IsInts.new w [97, 0, 98] 3 (0, 0) (by decide)) (by decide)
  rw [bs1, be1] at h
  exact h.mono fun e w' ⟨he, hb⟩ => ⟨he, below_new hb⟩
theorem bk2 (w : World) (n : Nat) (hn : n = w.heap.size) : Calls Try.prog 49 #[.slice (some ⟨n, 0, none⟩) 1 1] (w.alloc (.cells #[.int .i64 256] 3)) fun e w' => e = .returned (.tuple #[.string ⟨#[]⟩, .int .i64 2]) ∧ Below w.heap.size w w' := by
  subst hn
  have h := mBack (some ⟨w.heap.size, 0, none⟩) 1 [256] _ (IsInts.new w [256] 3 (0, 0) (by decide)) (by decide)
  rw [bs2, be2] at h
  exact h.mono fun e w' ⟨he, hb⟩ => ⟨he, below_new hb⟩
theorem mo1 (w : World) : Calls Try.prog 52 #[.string ⟨#[97, 97, 98]⟩] w fun e w' => ∃ v', e = .returned v' ∧ IsL w' v' [97, 0, 98] ∧ Below w.heap.size w w' := by
  have h := mMove ⟨#[97, 97, 98]⟩ (by decide) w
  rw [show (⟨#[97, 97, 98]⟩ : ByteArray).data.toList = [97, 97, 98] from rfl, mv1] at h
  exact h
theorem lit978 (w : World) (n : Nat) (hn : n = w.heap.size) : IsL (w.alloc (.cells #[.int .i64 97, .int .i64 0, .int .i64 98] 3)) (.slice (some ⟨n, 0, none⟩) 3 3) [97, 0, 98] := by
  subst hn; exact ⟨_, _, rfl, IsInts.new w [97, 0, 98] 3 (0, 0) (by decide)⟩
set_option maxHeartbeats 800000 in
theorem awake47 (w : World) : Calls Try.prog 48 #[] w fun e w' => e = .returned (.bool true) ∧ Below w.heap.size w w' := by
  go_enter Try.func48, Try.ntmps48
  go_wp2_with fail
  refine (bk1 _ _ (by simp)).mono ?_; rintro e w1 ⟨rfl, hb⟩
  go_wp2_with fail
  refine (bk2 _ _ (by simp)).mono ?_; rintro e w2 ⟨rfl, hb2⟩
  have hb := hb.trans (hb2.mono hb.size)
  clear hb2
  go_wp2_with fail
  refine (mo1 _).mono ?_; rintro e w3 ⟨v3, rfl, h3, hb2⟩
  have hb := hb.trans (hb2.mono hb.size)
  clear hb2
  go_wp2_with fail
  refine (intsL (h3.kept ((Below.refl _ _).alloc (Nat.le_refl _) _)) (lit978 _ _ (by simp)) true (by decide)).mono ?_
  rintro e w4 ⟨rfl, q, rfl⟩
  have hb := below_drewN (hb.alloc hb.size (.cells #[.int .i64 97, .int .i64 0, .int .i64 98] 3)) q
  clear h3
  go_wp2_with fail
  go_ret
  exact ⟨rfl, hb⟩
end Go.Proofs.Ytmpmioffngonjaa
