/- Contracts of layer 16's Size, Sym and Of, the program's and the document's; the chapter's examples. -/
import Derived.Test.YtjpmfaodkldobaaT1
namespace Go.Proofs.Ytjpmfaodkldobaa
open Go.ChangeShapes Go.WideShapes Go.ChangeAt Go.RowKit
set_option linter.unusedVariables false
set_option maxRecDepth 100000

def szTok (k b l d r : Int) : Int := if OkTok k b l d r then (if k = 0 then 1 else l) else 0

/-- A boxed token stays as it is while others call. -/
theorem boxed5 {w w1 : World} {c0 c1 c2 c3 c4 : Value} {t : TypeId} (hb : Below (w.alloc (.cells #[c0, c1, c2, c3, c4] t)).heap.size (w.alloc (.cells #[c0, c1, c2, c3, c4] t)) w1) :
    (w1.cell? ⟨w.heap.size, 0, none⟩ = some c0 ∧ w1.cell? ⟨w.heap.size, 1, none⟩ = some c1 ∧ w1.cell? ⟨w.heap.size, 2, none⟩ = some c2) ∧ w1.cell? ⟨w.heap.size, 3, none⟩ = some c3 ∧ w1.cell? ⟨w.heap.size, 4, none⟩ = some c4 := by
  have h (j : Nat) := hb.cell (p := ⟨w.heap.size, j, none⟩) (by simp)
  refine ⟨⟨?_, ?_, ?_⟩, ?_, ?_⟩ <;> (rw [h, World.cell?_alloc_new]; rfl)
theorem below_box {w w1 : World} {c : Array Value} {t : TypeId} (hb : Below (w.alloc (.cells c t)).heap.size (w.alloc (.cells c t)) w1) : Below w.heap.size w w1 :=
  ((Below.refl _ _).alloc (Nat.le_refl _) _).trans (hb.mono (by simp))
theorem ret2_i {a b a' b' : Int} (h1 : a = a') (h2 : b = b') : Ending.returned (.tuple #[.int .i64 a, .int .i64 b]) = .returned (.tuple #[.int .i64 a', .int .i64 b']) := by rw [h1, h2]

set_option maxHeartbeats 800000 in
theorem size_any (k b l d r : Int) (w : World) :
    Calls Try.prog 95 #[.agg #[.int .i64 k, .int .i64 b, .int .i64 l, .int .i64 d, .int .i64 r]] w fun e w' => e = .returned (.int .i64 (szTok k b l d r)) ∧ Below w.heap.size w w' := by
  have C := Lib.hid (check_any k b l d r)
  by_cases h : OkTok k b l d r
  · have e1 : chk k b l d r = 0 := (chk_yes h).symm
    rw [e1] at C
    clear e1
    by_cases k0 : k = 0
    · subst k0
      have e2 : szTok 0 b l d r = 1 := by unfold szTok; rw [if_pos h, if_pos rfl]
      rw [e2]; clear e2 h
      go_enter Try.func95, Try.ntmps95
      go_wp2_with fail
      refine (C.out _).mono ?_; rintro e w1 ⟨rfl, hb1⟩
      obtain ⟨⟨q0, q1, q2⟩, q3, q4⟩ := boxed5 hb1
      have hlt : w.heap.size < w1.heap.size := by have := hb1.size; simp at this; omega
      have hbb := below_box hb1
      clear hb1
      go_wp2
      go_ret
      exact ⟨rfl, hbb⟩
    · skip
      by_cases k1 : k = 1
      · subst k1
        have e2 : szTok 1 b l d r = l := by unfold szTok; rw [if_pos h, if_neg (by decide)]
        rw [e2]; clear e2 h
        go_enter Try.func95, Try.ntmps95
        go_wp2_with fail
        refine (C.out _).mono ?_; rintro e w1 ⟨rfl, hb1⟩
        obtain ⟨⟨q0, q1, q2⟩, q3, q4⟩ := boxed5 hb1
        have hlt : w.heap.size < w1.heap.size := by have := hb1.size; simp at this; omega
        have hbb := below_box hb1
        clear hb1
        go_wp2
        go_ret
        exact ⟨rfl, hbb⟩
      · skip
        obtain rfl : k = 2 := by unfold OkTok at h; omega
        have e2 : szTok 2 b l d r = l := by unfold szTok; rw [if_pos h, if_neg (by decide)]
        rw [e2]; clear e2 h
        go_enter Try.func95, Try.ntmps95
        go_wp2_with fail
        refine (C.out _).mono ?_; rintro e w1 ⟨rfl, hb1⟩
        obtain ⟨⟨q0, q1, q2⟩, q3, q4⟩ := boxed5 hb1
        have hlt : w.heap.size < w1.heap.size := by have := hb1.size; simp at this; omega
        have hbb := below_box hb1
        clear hb1
        go_wp2
        go_ret
        exact ⟨rfl, hbb⟩
  · have e1 : chk k b l d r = 10 := (chk_no h).symm
    have e2 : szTok k b l d r = 0 := if_neg h
    rw [e1] at C
    rw [e2]; clear e1 e2 h
    go_enter Try.func95, Try.ntmps95
    go_wp2_with fail
    refine (C.out _).mono ?_; rintro e w1 ⟨rfl, hb1⟩
    have hbb := below_box hb1
    clear hb1
    go_wp2
    go_ret
    exact ⟨rfl, hbb⟩

set_option maxHeartbeats 800000 in
theorem refSize_any (k b l d r : Int) (w : World) :
    Calls Try.prog 27 #[.agg #[.int .i64 k, .int .i64 b, .int .i64 l, .int .i64 d, .int .i64 r]] w fun e w' => e = .returned (.int .i64 (szTok k b l d r)) ∧ Below w.heap.size w w' := by
  have C := Lib.hid (refCheck_any k b l d r)
  by_cases h : OkTok k b l d r
  · have e1 : chk k b l d r = 0 := (chk_yes h).symm
    rw [e1] at C
    clear e1
    by_cases k0 : k = 0
    · subst k0
      have e2 : szTok 0 b l d r = 1 := by unfold szTok; rw [if_pos h, if_pos rfl]
      rw [e2]; clear e2 h
      go_enter Try.func27, Try.ntmps27
      go_wp2_with fail
      refine (C.out _).mono ?_; rintro e w1 ⟨rfl, hb1⟩
      obtain ⟨⟨q0, q1, q2⟩, q3, q4⟩ := boxed5 hb1
      have hlt : w.heap.size < w1.heap.size := by have := hb1.size; simp at this; omega
      have hbb := below_box hb1
      clear hb1
      go_wp2
      go_ret
      exact ⟨rfl, hbb⟩
    · skip
      by_cases k1 : k = 1
      · subst k1
        have e2 : szTok 1 b l d r = l := by unfold szTok; rw [if_pos h, if_neg (by decide)]
        rw [e2]; clear e2 h
        go_enter Try.func27, Try.ntmps27
        go_wp2_with fail
        refine (C.out _).mono ?_; rintro e w1 ⟨rfl, hb1⟩
        obtain ⟨⟨q0, q1, q2⟩, q3, q4⟩ := boxed5 hb1
        have hlt : w.heap.size < w1.heap.size := by have := hb1.size; simp at this; omega
        have hbb := below_box hb1
        clear hb1
        go_wp2
        go_ret
        exact ⟨rfl, hbb⟩
      · skip
        obtain rfl : k = 2 := by unfold OkTok at h; omega
        have e2 : szTok 2 b l d r = l := by unfold szTok; rw [if_pos h, if_neg (by decide)]
        rw [e2]; clear e2 h
        go_enter Try.func27, Try.ntmps27
        go_wp2_with fail
        refine (C.out _).mono ?_; rintro e w1 ⟨rfl, hb1⟩
        obtain ⟨⟨q0, q1, q2⟩, q3, q4⟩ := boxed5 hb1
        have hlt : w.heap.size < w1.heap.size := by have := hb1.size; simp at this; omega
        have hbb := below_box hb1
        clear hb1
        go_wp2
        go_ret
        exact ⟨rfl, hbb⟩
  · have e1 : chk k b l d r = 10 := (chk_no h).symm
    have e2 : szTok k b l d r = 0 := if_neg h
    rw [e1] at C
    rw [e2]; clear e1 e2 h
    go_enter Try.func27, Try.ntmps27
    go_wp2_with fail
    refine (C.out _).mono ?_; rintro e w1 ⟨rfl, hb1⟩
    have hbb := below_box hb1
    clear hb1
    go_wp2
    go_ret
    exact ⟨rfl, hbb⟩
end Go.Proofs.Ytjpmfaodkldobaa
