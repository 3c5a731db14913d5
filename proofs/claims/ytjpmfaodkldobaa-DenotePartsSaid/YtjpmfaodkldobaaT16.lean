/- Layer 18: what DenoteParts calls besides; tokens in two parts. -/
import Derived.Test.YtjpmfaodkldobaaT15
namespace Go.Proofs.Ytjpmfaodkldobaa
open Go.ChangeShapes Go.WideShapes Go.ChangeAt Go.RowKit
set_option linter.unusedVariables false
set_option linter.unusedSimpArgs false
set_option maxRecDepth 100000
set_option maxHeartbeats 800000 in
theorem refFind_any (r0 r1 r2 r3 d : Int) (w : World) : Calls Try.prog 28 #[.agg #[.int .i64 r0, .int .i64 r1, .int .i64 r2, .int .i64 r3], .int .i64 d] w fun e w' => e = .returned (.int .i64 (find r0 r1 r2 r3 d)) ∧ Below w.heap.size w w' := by
  go_enter Try.func28, Try.ntmps28
  go_wp2
  refine wp_loop_rounds 5 ?_
  repeat any_goals (rw [rounds_succ]; go_wp2)
  · have h0 : r0 = d := by simpa using ‹(r0 == d) = true›
    go_ret
    exact ⟨ret_i (by unfold find; rw [if_pos h0]), by go_grown⟩
  · have h0 : ¬ r0 = d := by simpa using ‹(r0 == d) = false›
    have h1 : r1 = d := by simpa using ‹(r1 == d) = true›
    go_ret
    exact ⟨ret_i (by unfold find; rw [if_neg h0, if_pos h1]), by go_grown⟩
  · have h0 : ¬ r0 = d := by simpa using ‹(r0 == d) = false›
    have h1 : ¬ r1 = d := by simpa using ‹(r1 == d) = false›
    have h2 : r2 = d := by simpa using ‹(r2 == d) = true›
    go_ret
    exact ⟨ret_i (by unfold find; rw [if_neg h0, if_neg h1, if_pos h2]), by go_grown⟩
  · have h0 : ¬ r0 = d := by simpa using ‹(r0 == d) = false›
    have h1 : ¬ r1 = d := by simpa using ‹(r1 == d) = false›
    have h2 : ¬ r2 = d := by simpa using ‹(r2 == d) = false›
    have h3 : r3 = d := by simpa using ‹(r3 == d) = true›
    go_ret
    exact ⟨ret_i (by unfold find; rw [if_neg h0, if_neg h1, if_neg h2, if_pos h3]), by go_grown⟩
  · have h0 : ¬ r0 = d := by simpa using ‹(r0 == d) = false›
    have h1 : ¬ r1 = d := by simpa using ‹(r1 == d) = false›
    have h2 : ¬ r2 = d := by simpa using ‹(r2 == d) = false›
    have h3 : ¬ r3 = d := by simpa using ‹(r3 == d) = false›
    go_ret
    exact ⟨ret_i (by unfold find; rw [if_neg h0, if_neg h1, if_neg h2, if_neg h3]), by go_grown⟩
theorem szSum_snoc (l : List Tk) (k : Nat) (h : k < l.length) : szSum (l.take (k + 1)) = szSum (l.take k) + szTok l[k].k l[k].b l[k].l l[k].d l[k].r := by
  have hs : ∀ (a b : List Tk), szSum (a ++ b) = szSum a + szSum b := by
    intro a
    induction a with
    | nil => intro b; simp [szSum]
    | cons t a ih => intro b; rw [List.cons_append, szSum, szSum, ih]; omega
  rw [List.take_succ_eq_append_getElem h, hs]
  simp [szSum]
theorem szSum_bd : ∀ (l : List Tk), 0 ≤ szSum l ∧ szSum l ≤ 258 * l.length
  | [] => by simp [szSum]
  | t :: ts => by
    have h1 := szSum_bd ts
    have h2 := szTok_bd t.k t.b t.l t.d t.r
    rw [szSum, List.length_cons]
    omega
theorem appS_two {win : Int} {l : List Tk} {q Q Q1 : Q4} {h R R1 : List UInt8} {E E1 : Int} (k : Nat) (hR : appS win l q h = (R, Q, E)) (h1 : appS win (l.take k) q h = (R1, Q1, E1)) (h0 : E = 0) : E1 = 0 ∧ appS win (l.drop k) Q1 R1 = (R, Q, E) := by
  have h2 := appS_app win (l.drop k) (l.take k) q h
  rw [List.take_append_drop, h1, hR] at h2
  by_cases e : E1 = 0
  · rw [if_pos e] at h2; exact ⟨e, h2.symm⟩
  · rw [if_neg e] at h2
    injection h2 with e1 e2
    injection e2 with e3 e4
    exact absurd (e4.symm.trans h0) e
theorem appS_size {win : Int} {l : List Tk} {q Q : Q4} {h R : List UInt8} (hR : appS win l q h = (R, Q, 0)) : (R.length : Int) = h.length + szSum l := by
  have := (appS_len win l q h (by rw [hR])).1
  rw [hR] at this; exact this
theorem appS_no {win : Int} {l : List Tk} {q Q : Q4} {h R : List UInt8} {E : Int} (hR : appS win l q h = (R, Q, E)) (h0 : E ≠ 0) : R = [] ∧ Q = z4 := by
  have := appS_bad win l q h (by rw [hR]; exact h0)
  rw [hR] at this
  injection this with e1 e2
  injection e2 with e3 e4
  exact ⟨e1, e3⟩
end Go.Proofs.Ytjpmfaodkldobaa
