/- Contracts of layer 32's functions. -/
import Derived.Test.YtmpmioffngonjaaAd
import Derived.Test.YtmpmioffngonjaaBase
import Derived.Below
import Derived.Handy
import Derived.WalkSmall
namespace Go.Proofs.Ytmpmioffngonjaa
open Go.ChangeShapes Go.WideShapes Go.ChangeAt Go.RowKit
set_option linter.unusedVariables false
set_option maxRecDepth 100000

def lvWay (n : Nat) : Int := if n = 0 then 0 else if n ≤ 3 then 1 else if n ≤ 6 then 2 else 3
def lvDepth (n : Nat) : Int := if n = 0 then 0 else if n ≤ 3 then 4 ^ n else if n ≤ 6 then 4 ^ (n - 2) else 134217728
def lvPasses (n : Nat) : Int := if n ≤ 7 then 0 else n - 7

set_option maxHeartbeats 1600000 in
theorem lvOf (n : Nat) (h : n < 10) (w : World) :
    Calls Try.prog 42 #[.int .i64 n] w fun e w' => e = .returned (.tuple #[.agg #[.int .i64 (lvWay n), .int .i64 (lvDepth n), .int .i64 (lvPasses n)], .int .i64 0]) ∧ Below w.heap.size w w' := by
  obtain rfl | rfl | rfl | rfl | rfl | rfl | rfl | rfl | rfl | rfl : n = 0 ∨ n = 1 ∨ n = 2 ∨ n = 3 ∨ n = 4 ∨ n = 5 ∨ n = 6 ∨ n = 7 ∨ n = 8 ∨ n = 9 := by omega
  all_goals
    go_enter Try.func42, Try.ntmps42
    go_wp2
    refine bodyPost_ret (v := .tuple #[_, _]) (by simp [results, Try.results42, go_sem]; exact ⟨rfl, rfl, rfl⟩) rfl ⟨rfl, (Below.refl _ _).alloc (Nat.le_refl _) _⟩

theorem lvOf10 (w : World) :
    Calls Try.prog 42 #[.int .i64 10] w fun e w' => e = .returned (.tuple #[.agg #[.int .i64 0, .int .i64 0, .int .i64 0], .int .i64 2]) ∧ Below w.heap.size w w' := by
  go_enter Try.func42, Try.ntmps42
  go_wp2
  exact bodyPost_ret (v := .tuple #[_, _]) (by simp [results, Try.results42, go_sem]) rfl ⟨rfl, (Below.refl _ _).alloc (Nat.le_refl _) _⟩

theorem lvCheckA (w : World) : Calls Try.prog 46 #[.agg #[.int .i64 10, .int .i64 3, .string ByteArray.empty]] w fun e w' => e = .returned (.int .i64 2) ∧ Below w.heap.size w w' := by
  go_enter Try.func46, Try.ntmps46
  go_wp2
  go_ret
  exact ⟨rfl, (Below.refl _ _).alloc (Nat.le_refl _) _⟩
theorem lvCheckB (w : World) : Calls Try.prog 46 #[.agg #[.int .i64 0, .int .i64 27, .string ByteArray.empty]] w fun e w' => e = .returned (.int .i64 12) ∧ Below w.heap.size w w' := by
  go_enter Try.func46, Try.ntmps46
  go_wp2
  go_ret
  exact ⟨rfl, (Below.refl _ _).alloc (Nat.le_refl _) _⟩
theorem lvCheckC (w : World) (s : ByteArray) (hs : s.size = 1) : Calls Try.prog 46 #[.agg #[.int .i64 1, .int .i64 20, .string s]] w fun e w' => e = .returned (.int .i64 0) ∧ ∃ n, w' = (w.alloc (.cells #[.int .i64 1, .int .i64 20, .string s] 57)).drewN n := by
  go_enter Try.func46, Try.ntmps46
  go_wp2
  go_quiet (fail)
  go_wp2
  exact bodyPost_ret (v := .int .i64 0) (by simp [results, Try.results46, go_sem]) rfl ⟨rfl, _, rfl⟩

def aS : ByteArray := ⟨#[97]⟩
theorem aS_full : (!aS.toList.isEmpty) = true := by
  first | rfl | decide | decide +kernel | simp [aS, ByteArray.toList, ByteArray.toList.loop]
theorem sum_aS (w : World) : Calls Try.prog 67 #[.string aS] w fun e w' => e = .returned (.int .u32 6422626) ∧ w = w' := by
  have h := sum_any aS (by decide) w
  rw [show addL 1 aS.data.toList = 6422626 from by decide] at h
  exact h
set_option maxHeartbeats 800000 in
theorem lvHead (w : World) : Calls Try.prog 44 #[.agg #[.int .i64 1, .int .i64 20, .string aS]] w fun e w' => e = .returned (.tuple #[.agg #[.int .i64 20, .bool true, .int .u32 6422626], .int .i64 0]) ∧ Below w.heap.size w w' := by
  have C := Lib.hid (fun w => lvCheckC w aS rfl)
  have hE := aS_full
  go_enter Try.func44, Try.ntmps44
  go_wp2_with fail
  refine (C.out _).mono ?_; rintro e w1 ⟨rfl, nq, rfl⟩
  go_wp2_with fail
  refine (sum_aS _).mono ?_; rintro e w1 ⟨rfl, rfl⟩
  go_wp2_with fail
  exact bodyPost_ret (v := .tuple #[_, _]) (by simp [results, Try.results44, go_sem]) rfl ⟨rfl, Below.alloc (Below.setCell (Below.setCell (Below.setCell (below_drewN (Below.alloc (Below.alloc (Below.alloc (Below.refl _ _) (Nat.le_refl _) _) (by simp) _) (by simp; omega) _) _) (by simp) _) (by simp) _) (by simp) _) (by simp; omega) _⟩

theorem lvOf5 (w : World) : Calls Try.prog 42 #[.int .i64 5] w fun e w' => e = .returned (.tuple #[.agg #[.int .i64 2, .int .i64 64, .int .i64 0], .int .i64 0]) ∧ Below w.heap.size w w' := lvOf 5 (by decide) w

theorem box3_start {w w1 : World} {c0 c1 c2 : Value} {t : TypeId} (hb : Below (w.alloc (.cells #[c0, c1, c2] t)).heap.size (w.alloc (.cells #[c0, c1, c2] t)) w1) :
    w1.cell? ⟨w.heap.size, 0, none⟩ = some c0 ∧ w1.cell? ⟨w.heap.size, 1, none⟩ = some c1 ∧ w1.cell? ⟨w.heap.size, 2, none⟩ = some c2 ∧ w.heap.size < w1.heap.size := by
  have hs := hb.size
  simp at hs
  refine ⟨?_, ?_, ?_, by omega⟩ <;> · rw [hb.cell (by simp)]; simp [World.cell?_alloc_new]
theorem box3_keep {w1 w2 : World} {g : Nat} {c0 c1 c2 : Value} (hb : Below w1.heap.size w1 w2)
    (h : w1.cell? ⟨g, 0, none⟩ = some c0 ∧ w1.cell? ⟨g, 1, none⟩ = some c1 ∧ w1.cell? ⟨g, 2, none⟩ = some c2 ∧ g < w1.heap.size) :
    w2.cell? ⟨g, 0, none⟩ = some c0 ∧ w2.cell? ⟨g, 1, none⟩ = some c1 ∧ w2.cell? ⟨g, 2, none⟩ = some c2 ∧ g < w2.heap.size := by
  obtain ⟨q0, q1, q2, hlt⟩ := h
  exact ⟨by rw [hb.cell hlt]; exact q0, by rw [hb.cell hlt]; exact q1, by rw [hb.cell hlt]; exact q2, Nat.lt_of_lt_of_le hlt hb.size⟩
theorem below_box3 {w w1 : World} {c : Array Value} {t : TypeId} (hb : Below (w.alloc (.cells c t)).heap.size (w.alloc (.cells c t)) w1) : Below w.heap.size w w1 :=
  ((Below.refl _ _).alloc (Nat.le_refl _) _).trans (hb.mono (by simp))
set_option maxHeartbeats 800000 in
theorem awake32 (w : World) : Calls Try.prog 41 #[] w fun e w' => e = .returned (.bool true) ∧ Below w.heap.size w w' := by
  go_enter Try.func41, Try.ntmps41
  go_wp2_with fail
  refine (lvOf5 _).mono ?_; rintro e w1 ⟨rfl, hb1⟩
  go_wp2_with fail
  refine (lvOf10 _).mono ?_; rintro e w2 ⟨rfl, hb2⟩
  obtain ⟨q0, q1, q2, hlt⟩ := box3_start hb2
  have hc2 := hb1.trans ((below_box3 hb2).mono hb1.size); clear hb2
  go_wp2_with fail
  refine (lvHead _).mono ?_; rintro e w3 ⟨rfl, hb3⟩
  obtain ⟨r0, r1, r2, hlr⟩ := box3_start hb3
  obtain ⟨s0, s1, s2, hls⟩ := box3_keep (below_box3 hb3) ⟨q0, q1, q2, hlt⟩
  have hne : w1.heap.size ≠ w2.heap.size := by omega
  have hne' : w2.heap.size ≠ w1.heap.size := by omega
  have hw2 : w.heap.size ≤ w2.heap.size := hc2.size
  have hc3 := hc2.trans ((below_box3 hb3).mono hc2.size); clear hc2 hb3 q0 q1 q2 hb1
  go_wp2_with fail
  refine (lvCheckA _).mono ?_; rintro e w4 ⟨rfl, hb4⟩
  have hz := hc3.size
  have hc4 : Below w.heap.size w w4 := Below.trans (by go_grown) (hb4.mono (by simp; omega))
  clear hc3 hb4
  go_wp2_with fail
  refine (lvCheckB _).mono ?_; rintro e w5 ⟨rfl, hb5⟩
  have hc5 := hc4.trans (hb5.mono hc4.size); clear hc4 hb5
  go_wp2_with fail
  go_ret
  exact ⟨rfl, hc5⟩
theorem lv_rises : ∀ n : Fin 10, ∀ m : Fin 10, n.1 ≤ m.1 → lvWay n.1 ≤ lvWay m.1 ∧ (lvWay n.1 = lvWay m.1 → lvDepth n.1 ≤ lvDepth m.1 ∧ lvPasses n.1 ≤ lvPasses m.1) := by decide
end Go.Proofs.Ytmpmioffngonjaa
