/- Layer 2: one deed, with both readers. -/
import Derived.Test.YtplopddlpoffoaaD2
import Derived.Deep.RegionHeld3
namespace Go.Proofs.Ytplopddlpoffoaa
open Go.ChangeShapes Go.WideShapes Go.ChangeAt Go.RowKit
set_option linter.unusedVariables false
set_option maxRecDepth 100000
open Bits
def takeS (l : List Bool) (t : Nat) (n : Int) : Nat × Nat × Int :=
  if n < 0 ∨ 56 < n then (t, 0, 2) else if l.length < t + n.toNat then (t, 0, 3) else (t + n.toNat, peek (l.drop t) n.toNat, 0)
theorem IsReader.kept {w w' : World} {g a : Nat} {s : List UInt8} (h : IsReader w g s a) (hb : Below w.heap.size w w') : IsReader w' g s a := by
  obtain ⟨p, L, C, hg, h1, h2, h3, h4, h5, h6⟩ := h
  refine ⟨p, L, C, (Keeps.of_below (S := fun _ => False) hb).heap hg (fun h => h), h1, h2, h3, h4, h5, fun h0 => ?_⟩
  obtain ⟨b, o, e, hne, hlt, hc⟩ := h6 h0
  exact ⟨b, o, e, hne, Nat.lt_of_lt_of_le hlt hb.size, fun j hj => (hb.cell (p := ⟨b, o + j, none⟩) hlt).trans (hc j hj)⟩
theorem IsReader.alloc {w : World} {g a : Nat} {s : List UInt8} (h : IsReader w g s a) (o : Obj) : IsReader (w.alloc o) g s a := h.kept ((Below.refl _ _).alloc (Nat.le_refl _) o)
theorem IsReader.lt {w : World} {g a : Nat} {s : List UInt8} (h : IsReader w g s a) : g < w.heap.size := by obtain ⟨p, L, C, hg, -⟩ := h; exact block_lt hg
theorem IsReader.le {w : World} {g a : Nat} {s : List UInt8} (h : IsReader w g s a) : a ≤ (spread s).length := by obtain ⟨p, L, C, hg, h1, -⟩ := h; rw [spread_length]; exact h1
theorem rTakeU (w : World) (g t : Nat) (s : List UInt8) (n : Int) (h : IsReader w g s t) (t' W : Nat) (E : Int) (hS : takeS (spread s) t n = (t', W, E)) :
    Calls Try.prog 32 #[.pointer (some ⟨g, 0, none⟩), .int .i64 n] w fun e w' => e = .returned (.tuple #[.int .u64 W, .int .i64 E]) ∧ IsReader w' g s t' ∧ Keeps (fun k => k = g) w w' := by
  unfold takeS at hS
  by_cases h1 : n < 0 ∨ 56 < n
  · rw [if_pos h1] at hS
    obtain ⟨rfl, rfl, rfl⟩ := by simpa using hS
    refine (rTakeOut w _ n 2 ((rMayOut _ n h1 w).mono fun e w' ⟨h1, h2⟩ => ⟨h1, 0, h2⟩) (by decide)).mono ?_
    rintro e w' ⟨rfl, k, rfl⟩
    exact ⟨rfl, h, (Keeps.refl _ _).drewN _⟩
  · rw [if_neg h1] at hS
    obtain ⟨n, rfl⟩ : ∃ m : Nat, n = m := ⟨n.toNat, by omega⟩
    rw [Int.toNat_natCast] at hS
    have hn : n ≤ 56 := by omega
    by_cases h2 : (spread s).length < t + n
    · rw [if_pos h2] at hS
      obtain ⟨rfl, rfl, rfl⟩ := by simpa using hS
      refine (rTakeOut w _ n 3 (rMayShort w g _ n s h hn (by rw [← spread_length]; exact h2)) (by decide)).mono ?_
      rintro e w' ⟨rfl, k, rfl⟩
      exact ⟨rfl, h, (Keeps.refl _ _).drewN _⟩
    · rw [if_neg h2] at hS
      obtain ⟨rfl, rfl, rfl⟩ := by simpa using hS
      refine (rTakeIn w g t n s h hn (by rw [← spread_length]; omega)).mono ?_
      rintro e w' ⟨rfl, hr, hk, -⟩
      exact ⟨rfl, hr, hk⟩
def peekS (l : List Bool) (t : Nat) (n : Int) : Nat := if n < 0 ∨ 56 < n then 0 else peek (l.drop t) n.toNat
theorem rPeekU (w : World) (g t : Nat) (s : List UInt8) (n : Int) (h : IsReader w g s t) (W : Nat) (hS : peekS (spread s) t n = W) :
    Calls Try.prog 35 #[.pointer (some ⟨g, 0, none⟩), .int .i64 n] w fun e w' => e = .returned (.int .u64 W) ∧ Below w.heap.size w w' := by
  unfold peekS at hS
  by_cases h1 : n < 0 ∨ 56 < n
  · rw [if_pos h1] at hS
    subst hS
    exact (rPeekOut _ n (by omega) w).mono (by rintro e w' ⟨rfl, rfl⟩; exact ⟨rfl, Below.refl _ _⟩)
  · rw [if_neg h1] at hS
    obtain ⟨n, rfl⟩ : ∃ m : Nat, n = m := ⟨n.toNat, by omega⟩
    rw [Int.toNat_natCast] at hS
    subst hS
    exact (rPeek w g t n s h (by omega)).mono (by rintro e w' ⟨rfl, k, rfl⟩; exact ⟨rfl, below_dn (Below.refl _ _) _⟩)
theorem dPeekU (a : Option Addr) (L c : Nat) (l : List Bool) (t : Nat) (n : Int) (hL : L = l.length) (hc : L ≤ c) (ht : t ≤ l.length) (w : World) (h : IsBoo w a l) (hl : l.length ≤ 1000000) (hcm : c ≤ maxLen) (W : Nat) (hS : peekS l t n = W) :
    Calls Try.prog 55 #[.agg #[.slice a L c, .int .i64 t], .int .i64 n] w fun e w' => e = .returned (.int .u64 W) ∧ Below w.heap.size w w' := by
  unfold peekS at hS
  by_cases h1 : n < 0 ∨ 56 < n
  · rw [if_pos h1] at hS
    subst hS
    by_cases h2 : n < 0
    · clear h1
      go_enter Try.func55, Try.ntmps55
      go_wp2_with fail
      go_ret
      exact ⟨rfl, by go_grown⟩
    · have h3 : 56 < n := by omega
      clear h1
      go_enter Try.func55, Try.ntmps55
      go_wp2_with fail
      go_ret
      exact ⟨rfl, by go_grown⟩
  · rw [if_neg h1] at hS
    obtain ⟨n, rfl⟩ : ∃ m : Nat, n = m := ⟨n.toNat, by omega⟩
    rw [Int.toNat_natCast] at hS
    subst hS
    exact dPeek2 a L c l t n hL hc ht (by omega) w h hl hcm
theorem dTakeU (a : Option Addr) (L c : Nat) (l : List Bool) (t : Nat) (n : Int) (hL : L = l.length) (hc : L ≤ c) (ht : t ≤ l.length) (w : World) (h : IsBoo w a l) (hl : l.length ≤ 1000000) (hcm : c ≤ maxLen) (t' W : Nat) (E : Int) (hS : takeS l t n = (t', W, E)) :
    Calls Try.prog 36 #[.agg #[.slice a L c, .int .i64 t], .int .i64 n] w fun e w' => e = .returned (.tuple #[.agg #[.slice a L c, .int .i64 t'], .int .u64 W, .int .i64 E]) ∧ Below w.heap.size w w' := by
  unfold takeS at hS
  by_cases h1 : n < 0 ∨ 56 < n
  · rw [if_pos h1] at hS
    obtain ⟨rfl, rfl, rfl⟩ := by simpa using hS
    exact dTakeOut a L c _ n h1 w
  · rw [if_neg h1] at hS
    obtain ⟨n, rfl⟩ : ∃ m : Nat, n = m := ⟨n.toNat, by omega⟩
    rw [Int.toNat_natCast] at hS
    by_cases h2 : l.length < t + n
    · rw [if_pos h2] at hS
      obtain ⟨rfl, rfl, rfl⟩ := by simpa using hS
      exact dTakeShort a L c _ n (by omega) (by omega) (by omega) (by omega) w
    · rw [if_neg h2] at hS
      obtain ⟨rfl, rfl, rfl⟩ := by simpa using hS
      exact dTakeIn a L c l t n hL hc (by omega) (by omega) w h hl hcm
theorem cells2 {w : World} {g : Nat} {x y : Value} {t : TypeId} (h : w.heap[g]? = some (.cells #[x, y] t (0, 0))) : g < w.heap.size ∧ w.cell? ⟨g, 0, none⟩ = some x ∧ w.cell? ⟨g, 1, none⟩ = some y ∧ w.frozen? ⟨g, 0, none⟩ = false ∧ w.frozen? ⟨g, 1, none⟩ = false :=
  ⟨block_lt h, cell_in h 0, cell_in h 1, free_in h 0, free_in h 1⟩
theorem heap3 (w : World) (A B C : Obj) : (((w.alloc A).alloc B).alloc C).heap[w.heap.size]? = some A ∧ (((w.alloc A).alloc B).alloc C).heap[w.heap.size + 1]? = some B ∧ (((w.alloc A).alloc B).alloc C).heap[w.heap.size + 1 + 1]? = some C :=
  ⟨heap_old (heap_two_first w A B) C, heap_old (heap_two_last w A B) C, by have := heap_alloc_new ((w.alloc A).alloc B) C; simpa using this⟩
theorem IsReader.box {w w' : World} {g a : Nat} {s : List UInt8} (h : IsReader w g s a) {p : Option Addr} {L c k : Nat} {z : Int} {t : TypeId} (hk : w.heap[k]? = some (.cells #[.slice p L c, .int .i64 z] t (0, 0))) (hne : k ≠ g) (hK : Keeps (fun b => b = k) w w') : IsReader w' g s a := by
  obtain ⟨p, L, C, hg, h1, h2, h3, h4, h5, h6⟩ := h
  refine ⟨p, L, C, hK.heap hg (fun e => hne e.symm), h1, h2, h3, h4, h5, fun h0 => ?_⟩
  obtain ⟨b, o, e, hb, hlt, hc⟩ := h6 h0
  have hbk : b ≠ k := by
    rintro rfl
    have h7 := hc 0 h0
    have h8 := cell_in hk (o + 0)
    rw [h7] at h8
    rcases ho : o with _ | _ | o
    · subst ho; simp at h8
    · subst ho; simp at h8
    · subst ho; simp at h8
  exact ⟨b, o, e, hb, Nat.lt_of_lt_of_le hlt hK.size, fun j hj => (hK.cell (p := ⟨b, o + j, none⟩) hlt hbk).trans (hc j hj)⟩
def doS (l : List Bool) (t : Nat) (K N : Int) : Nat := if K = 0 then (takeS l t N).1 else if K = 1 then t else if K = 2 then (takeS l t N).1 else t + lack t
def DoPost (w : World) (g : Nat) (s : List UInt8) (a : Option Addr) (L c t' : Nat) (e : Ending) (w' : World) : Prop :=
  e = .returned (.tuple #[.agg #[.slice a L c, .int .i64 t'], .bool true]) ∧ IsReader w' g s t' ∧ Keeps (fun k => k = g) w w'
theorem set2_other {W : World} {b6 b o : Nat} (hne : b ≠ b6) (u v : Value) : ((W.setCell ⟨b6, 0, none⟩ u).setCell ⟨b6, 1, none⟩ v).cell? ⟨b, o, none⟩ = W.cell? ⟨b, o, none⟩ := by
  refine World.cell?_of_block (w := W) ?_
  show ((W.setCell ⟨b6, 0, none⟩ u).setCell ⟨b6, 1, none⟩ v).heap[b]? = _
  rw [Below.heap_setCell _ _ _ _ hne, Below.heap_setCell _ _ _ _ hne]
theorem after_skip {w w1 w2 : World} {g b5 b6 : Nat} {a : Option Addr} {L c T : Nat} {N : Int} {R : TypeId} (hg : g < w.heap.size) (h5 : w.heap.size < b5) (h6 : w.heap.size < b6) (h56 : b5 ≠ b6) (hsz : w.heap.size ≤ w1.heap.size) (l6 : b6 < w1.heap.size)
    (hc5 : (w1.alloc (.cells #[.slice a L c, .int .i64 T] R)).cell? ⟨b5, 1, none⟩ = some (.int .i64 N)) (l5 : b5 < w1.heap.size)
    (g8 : (w1.alloc (.cells #[.slice a L c, .int .i64 T] R)).heap[w1.heap.size]? = some (.cells #[.slice a L c, .int .i64 T] R (0, 0)))
    (g6 : w1.heap[b6]? = some (.cells #[.slice none 0 0, .int .i64 0] R (0, 0)))
    (hk : Keeps (fun k => k = g) (w1.alloc (.cells #[.slice a L c, .int .i64 T] R)) w2) :
    (w2.cell? ⟨b5, 1, none⟩ = some (.int .i64 N) ∧ w2.cell? ⟨w1.heap.size, 0, none⟩ = some (.slice a L c) ∧ w2.cell? ⟨w1.heap.size, 1, none⟩ = some (.int .i64 T)) ∧ w2.heap[b6]? = some (.cells #[.slice none 0 0, .int .i64 0] R (0, 0)) ∧
    ∀ u v, ((w2.setCell ⟨b6, 0, none⟩ u).setCell ⟨b6, 1, none⟩ v).cell? ⟨b5, 1, none⟩ = some (.int .i64 N) ∧ ((w2.setCell ⟨b6, 0, none⟩ u).setCell ⟨b6, 1, none⟩ v).cell? ⟨w1.heap.size, 0, none⟩ = some (.slice a L c) ∧ ((w2.setCell ⟨b6, 0, none⟩ u).setCell ⟨b6, 1, none⟩ v).cell? ⟨w1.heap.size, 1, none⟩ = some (.int .i64 T) := by
  have e5 : w2.cell? ⟨b5, 1, none⟩ = some (.int .i64 N) := (hk.cell (p := ⟨b5, 1, none⟩) (by simp; omega) (by show ¬ b5 = g; omega)).trans hc5
  have e8 := hk.heap g8 (by omega)
  have c0 := cell_in e8 0
  have c1 := cell_in e8 1
  have e6 := hk.heap (heap_old g6 _) (by omega)
  refine ⟨⟨e5, c0, c1⟩, e6, fun u v => ?_⟩
  rw [set2_other h56, set2_other (by omega), set2_other (by omega)]
  exact ⟨e5, c0, c1⟩
theorem keep3c {n : Nat} {w wx : World} {p1 p2 p3 : Addr} {c1 c2 c3 : Value} (hb : Below n w wx) (h : (p1.block < n ∧ p2.block < n ∧ p3.block < n) ∧ w.cell? p1 = some c1 ∧ w.cell? p2 = some c2 ∧ w.cell? p3 = some c3) : wx.cell? p1 = some c1 ∧ wx.cell? p2 = some c2 ∧ wx.cell? p3 = some c3 :=
  ⟨(hb.cell h.1.1).trans h.2.1, (hb.cell h.1.2.1).trans h.2.2.1, (hb.cell h.1.2.2).trans h.2.2.2⟩
theorem keep3s {n : Nat} {w wx : World} {b1 b2 b3 o1 o2 o3 b6 : Nat} {c1 c2 c3 u v : Value} (hb : Below n w wx) (h : ((b1 < n ∧ b2 < n ∧ b3 < n) ∧ b1 ≠ b6 ∧ b2 ≠ b6 ∧ b3 ≠ b6) ∧ w.cell? ⟨b1, o1, none⟩ = some c1 ∧ w.cell? ⟨b2, o2, none⟩ = some c2 ∧ w.cell? ⟨b3, o3, none⟩ = some c3) :
    ((wx.setCell ⟨b6, 0, none⟩ u).setCell ⟨b6, 1, none⟩ v).cell? ⟨b1, o1, none⟩ = some c1 ∧ ((wx.setCell ⟨b6, 0, none⟩ u).setCell ⟨b6, 1, none⟩ v).cell? ⟨b2, o2, none⟩ = some c2 ∧ ((wx.setCell ⟨b6, 0, none⟩ u).setCell ⟨b6, 1, none⟩ v).cell? ⟨b3, o3, none⟩ = some c3 := by
  rw [set2_other h.1.2.1, set2_other h.1.2.2.1, set2_other h.1.2.2.2]
  exact keep3c hb ⟨h.1.1, h.2⟩
end Go.Proofs.Ytplopddlpoffoaa
