/- Words for rows that grow side by side; one bit of a number. -/
import Derived.Test.YtkdkedgpchcfpaaG1
namespace Go.Proofs.Ytkdkedgpchcfpaa
open Go.ChangeShapes Go.WideShapes Go.ChangeAt Go.RowKit
set_option linter.unusedVariables false
set_option maxRecDepth 100000
theorem own_apart {w : World} {b b' n n' size size' : Nat} {e e' : TypeId} {u v : Value} {xs ys : List Value} (h : w.ownsRow b e size u n xs) (k : w.ownsRow b' e' size' v n' ys) (hne : e ≠ e') : u.ownBlock = none ∨ u.ownBlock ≠ v.ownBlock := by
  rcases h.2 with ⟨rfl, _⟩ | ⟨g, cap, cur, rfl, _, hg, _⟩
  · exact .inl rfl
  · refine .inr (fun e1 => ?_)
    exact own_ne k hg (fun e2 => hne e2.symm) (by rw [← e1]; rfl)
theorem two_last_d (w : World) (A B : Obj) : ((w.alloc A).alloc B).drew.heap[w.heap.size + 1]? = some B := heap_two_last w A B
theorem two_first_d (w : World) (A B : Obj) : ((w.alloc A).alloc B).drew.heap[w.heap.size]? = some A := heap_two_first w A B
theorem kset {w : World} {g g' : Nat} {v : Option Value} {u : Value} (h : w.cell? ⟨g, 0, none⟩ = v) (hne : g ≠ g') : (w.setCell ⟨g', 0, none⟩ u).cell? ⟨g, 0, none⟩ = v := by
  rw [World.cell?_of_block (w := w) (Below.heap_setCell _ _ _ _ hne)]; exact h
def bitK (x k : Nat) : Bool := decide (x / 2 ^ k % 2 = 1)
theorem and1 (x k : Nat) (hx : x ≤ 1000000) : (bits .and .i64 ((x : Int) / 2 ^ k) 1 == 1) = bitK x k := by
  have e1 : (x : Int) / 2 ^ k = ((x / 2 ^ k : Nat) : Int) := by simp
  have hle : x / 2 ^ k ≤ x := Nat.div_le_self _ _
  have h := (bits_nat .i64 32 (by decide) (fun n h1 h2 => IntWalk.i64_in n (by omega)) (x / 2 ^ k) 1 (by omega) (by decide)).1
  rw [e1, show (1 : Int) = ((1 : Nat) : Int) from rfl, h, Nat.and_one_is_mod]
  unfold bitK
  rw [Bool.eq_iff_iff, beq_iff_eq, decide_eq_true_iff]
  omega
end Go.Proofs.Ytkdkedgpchcfpaa
