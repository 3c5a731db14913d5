/- Layer 2: one deed, with both readers. -/
import Derived.Test.YtnpbjnhjgoafpaaD2
import Derived.Deep.RegionHeld3
namespace Go.Proofs.Ytnpbjnhjgoafpaa
open Go.ChangeShapes Go.WideShapes Go.ChangeAt Go.RowKit
set_option linter.unusedVariables false
set_option maxRecDepth 100000
open Bits
def takeS (l : List Bool) (t : Nat) (n : Int) : Nat × Nat × Int :=
  if n < 0 ∨ 56 < n then (t, 0, 2) else if l.length < t + n.toNat then (t, 0, 3) else (t + n.toNat, peek (l.drop t) n.toNat, 0)
theorem IsReader.kept {w w' : World} {g a : Nat} {s : List UInt8} (h : IsReader w g s a) (hb : Below w.heap.size w w') : IsReader w' g s a := by
  obtain ⟨p, L, C, hg, h1, h2, h3, h4, h5, h6⟩ := h
  refine ⟨p, L, C, (Keeps.of_below (S := fun _ => False) hb).heap hg (fun h => h), h1, h2, h3, h4, h5, fun h0 => ?_⟩
  obtain ⟨b, o, e, hne, hlt, hc⟩ := h6 h0
  exact ⟨b, o, e, hne, Nat.lt_of_lt_of_le hlt hb.size, fun j hj => (hb.cell (p := ⟨b, o + j, none⟩) hlt).trans (hc j hj)⟩
theorem IsReader.alloc {w : World} {g a : Nat} {s : List UInt8} (h : IsReader w g s a) (o : Obj) : IsReader (w.alloc o) g s a := h.kept ((Below.refl _ _).alloc (Nat.le_refl _) o)
theorem IsReader.lt {w : World} {g a : Nat} {s : List UInt8} (h : IsReader w g s a) : g < w.heap.size := by obtain ⟨p, L, C, hg, -⟩ := h; exact block_lt hg
theorem IsReader.le {w : World} {g a : Nat} {s : List UInt8} (h : IsReader w g s a) : a ≤ (spread s).length := by obtain ⟨p, L, C, hg, h1, -⟩ := h; rw [spread_length]; exact h1
theorem rTakeU (w : World) (g t : Nat) (s : List UInt8) (n : Int) (h : IsReader w g s t) (t' W : Nat) (E : Int) (hS : takeS (spread s) t n = (t', W, E)) :
    Calls Try.prog 31 #[.pointer (some ⟨g, 0, none⟩), .int .i64 n] w fun e w' => e = .returned (.tuple #[.int .u64 W, .int .i64 E]) ∧ IsReader w' g s t' ∧ Keeps (fun k => k = g) w w' := by
  unfold takeS at hS
  by_cases h1 : n < 0 ∨ 56 < n
  · rw [if_pos h1] at hS
    obtain ⟨rfl, rfl, rfl⟩ := by simpa using hS
    refine (rTakeOut w _ n 2 ((rMayOut _ n h1 w).mono fun e w' ⟨h1, h2⟩ => ⟨h1, 0, h2⟩) (by decide)).mono ?_
    rintro e w' ⟨rfl, k, rfl⟩
    exact ⟨rfl, h, (Keeps.refl _ _).drewN _⟩
  · rw [if_neg h1] at hS
    obtain ⟨n, rfl⟩ : ∃ m : Nat, n = m := ⟨n.toNat, by omega⟩
    rw [Int.toNat_natCast] at hS
    have hn : n ≤ 56 := by omega
    by_cases h2 : (spread s).length < t + n
    · rw [if_pos h2] at hS
      obtain ⟨rfl, rfl, rfl⟩ := by simpa using hS
      refine (rTakeOut w _ n 3 (rMayShort w g _ n s h hn (by rw [← spread_length]; exact h2)) (by decide)).mono ?_
      rintro e w' ⟨rfl, k, rfl⟩
      exact ⟨rfl, h, (Keeps.refl _ _).drewN _⟩
    · rw [if_neg h2] at hS
      obtain ⟨rfl, rfl, rfl⟩ := by simpa using hS
      refine (rTakeIn w g t n s h hn (by rw [← spread_length]; omega)).mono ?_
      rintro e w' ⟨rfl, hr, hk, -⟩
      exact ⟨rfl, hr, hk⟩
theorem rSkipU (w : World) (g t : Nat) (s : List UInt8) (n : Int) (h : IsReader w g s t) (t' W : Nat) (E : Int) (hS : takeS (spread s) t n = (t', W, E)) :
    Calls Try.prog 32 #[.pointer (some ⟨g, 0, none⟩), .int .i64 n] w fun e w' => e = .returned (.int .i64 E) ∧ IsReader w' g s t' ∧ Keeps (fun k => k = g) w w' := by
  unfold takeS at hS
  by_cases h1 : n < 0 ∨ 56 < n
  · rw [if_pos h1] at hS
    obtain ⟨rfl, rfl, rfl⟩ := by simpa using hS
    refine (rSkipOut w _ n 2 ((rMayOut _ n h1 w).mono fun e w' ⟨h1, h2⟩ => ⟨h1, 0, h2⟩) (by decide)).mono ?_
    rintro e w' ⟨rfl, k, rfl⟩
    exact ⟨rfl, h, (Keeps.refl _ _).drewN _⟩
  · rw [if_neg h1] at hS
    obtain ⟨n, rfl⟩ : ∃ m : Nat, n = m := ⟨n.toNat, by omega⟩
    rw [Int.toNat_natCast] at hS
    have hn : n ≤ 56 := by omega
    by_cases h2 : (spread s).length < t + n
    · rw [if_pos h2] at hS
      obtain ⟨rfl, rfl, rfl⟩ := by simpa using hS
      refine (rSkipOut w _ n 3 (rMayShort w g _ n s h hn (by rw [← spread_length]; exact h2)) (by decide)).mono ?_
      rintro e w' ⟨rfl, k, rfl⟩
      exact ⟨rfl, h, (Keeps.refl _ _).drewN _⟩
    · rw [if_neg h2] at hS
      obtain ⟨rfl, rfl, rfl⟩ := by simpa using hS
      refine (rSkipIn w g t n s h hn (by rw [← spread_length]; omega)).mono ?_
      rintro e w' ⟨rfl, hr, hk, -⟩
      exact ⟨rfl, hr, hk⟩
def peekS (l : List Bool) (t : Nat) (n : Int) : Nat := if n < 0 ∨ 56 < n then 0 else peek (l.drop t) n.toNat
theorem rPeekU (w : World) (g t : Nat) (s : List UInt8) (n : Int) (h : IsReader w g s t) (W : Nat) (hS : peekS (spread s) t n = W) :
    Calls Try.prog 30 #[.pointer (some ⟨g, 0, none⟩), .int .i64 n] w fun e w' => e = .returned (.int .u64 W) ∧ Below w.heap.size w w' := by
  unfold peekS at hS
  by_cases h1 : n < 0 ∨ 56 < n
  · rw [if_pos h1] at hS
    subst hS
    exact (rPeekOut _ n (by omega) w).mono (by rintro e w' ⟨rfl, rfl⟩; exact ⟨rfl, Below.refl _ _⟩)
  · rw [if_neg h1] at hS
    obtain ⟨n, rfl⟩ : ∃ m : Nat, n = m := ⟨n.toNat, by omega⟩
    rw [Int.toNat_natCast] at hS
    subst hS
    exact (rPeek w g t n s h (by omega)).mono (by rintro e w' ⟨rfl, k, rfl⟩; exact ⟨rfl, below_dn (Below.refl _ _) _⟩)
theorem dPeekU (a : Option Addr) (L c : Nat) (l : List Bool) (t : Nat) (n : Int) (hL : L = l.length) (hc : L ≤ c) (ht : t ≤ l.length) (w : World) (h : IsBoo w a l) (hl : l.length ≤ 1000000) (hcm : c ≤ maxLen) (W : Nat) (hS : peekS l t n = W) :
    Calls Try.prog 52 #[.agg #[.slice a L c, .int .i64 t], .int .i64 n] w fun e w' => e = .returned (.int .u64 W) ∧ Below w.heap.size w w' := by
  unfold peekS at hS
  by_cases h1 : n < 0 ∨ 56 < n
  · rw [if_pos h1] at hS
    subst hS
    by_cases h2 : n < 0
    · clear h1
      go_enter Try.func52, Try.ntmps52
      go_wp2_with fail
      go_ret
      exact ⟨rfl, by go_grown⟩
    · have h3 : 56 < n := by omega
      clear h1
      go_enter Try.func52, Try.ntmps52
      go_wp2_with fail
      go_ret
      exact ⟨rfl, by go_grown⟩
  · rw [if_neg h1] at hS
    obtain ⟨n, rfl⟩ : ∃ m : Nat, n = m := ⟨n.toNat, by omega⟩
    rw [Int.toNat_natCast] at hS
    subst hS
    exact dPeek2 a L c l t n hL hc ht (by omega) w h hl hcm
theorem dTakeU (a : Option Addr) (L c : Nat) (l : List Bool) (t : Nat) (n : Int) (hL : L = l.length) (hc : L ≤ c) (ht : t ≤ l.length) (w : World) (h : IsBoo w a l) (hl : l.length ≤ 1000000) (hcm : c ≤ maxLen) (t' W : Nat) (E : Int) (hS : takeS l t n = (t', W, E)) :
    Calls Try.prog 51 #[.agg #[.slice a L c, .int .i64 t], .int .i64 n] w fun e w' => e = .returned (.tuple #[.agg #[.slice a L c, .int .i64 t'], .int .u64 W, .int .i64 E]) ∧ Below w.heap.size w w' := by
  unfold takeS at hS
  by_cases h1 : n < 0 ∨ 56 < n
  · rw [if_pos h1] at hS
    obtain ⟨rfl, rfl, rfl⟩ := by simpa using hS
    exact dTakeOut a L c _ n h1 w
  · rw [if_neg h1] at hS
    obtain ⟨n, rfl⟩ : ∃ m : Nat, n = m := ⟨n.toNat, by omega⟩
    rw [Int.toNat_natCast] at hS
    by_cases h2 : l.length < t + n
    · rw [if_pos h2] at hS
      obtain ⟨rfl, rfl, rfl⟩ := by simpa using hS
      exact dTakeShort a L c _ n (by omega) (by omega) (by omega) (by omega) w
    · rw [if_neg h2] at hS
      obtain ⟨rfl, rfl, rfl⟩ := by simpa using hS
      exact dTakeIn a L c l t n hL hc (by omega) (by omega) w h hl hcm
theorem cells2 {w : World} {g : Nat} {x y : Value} {t : TypeId} (h : w.heap[g]? = some (.cells #[x, y] t (0, 0))) : g < w.heap.size ∧ w.cell? ⟨g, 0, none⟩ = some x ∧ w.cell? ⟨g, 1, none⟩ = some y ∧ w.frozen? ⟨g, 0, none⟩ = false ∧ w.frozen? ⟨g, 1, none⟩ = false :=
  ⟨block_lt h, cell_in h 0, cell_in h 1, free_in h 0, free_in h 1⟩
theorem heap3 (w : World) (A B C : Obj) : (((w.alloc A).alloc B).alloc C).heap[w.heap.size]? = some A ∧ (((w.alloc A).alloc B).alloc C).heap[w.heap.size + 1]? = some B ∧ (((w.alloc A).alloc B).alloc C).heap[w.heap.size + 1 + 1]? = some C :=
  ⟨heap_old (heap_two_first w A B) C, heap_old (heap_two_last w A B) C, by have := heap_alloc_new ((w.alloc A).alloc B) C; simpa using this⟩
theorem IsReader.box {w w' : World} {g a : Nat} {s : List UInt8} (h : IsReader w g s a) {p : Option Addr} {L c k : Nat} {z : Int} {t : TypeId} (hk : w.heap[k]? = some (.cells #[.slice p L c, .int .i64 z] t (0, 0))) (hne : k ≠ g) (hK : Keeps (fun b => b = k) w w') : IsReader w' g s a := by
  obtain ⟨p, L, C, hg, h1, h2, h3, h4, h5, h6⟩ := h
  refine ⟨p, L, C, hK.heap hg (fun e => hne e.symm), h1, h2, h3, h4, h5, fun h0 => ?_⟩
  obtain ⟨b, o, e, hb, hlt, hc⟩ := h6 h0
  have hbk : b ≠ k := by
    rintro rfl
    have h7 := hc 0 h0
    have h8 := cell_in hk (o + 0)
    rw [h7] at h8
    rcases ho : o with _ | _ | o
    · subst ho; simp at h8
    · subst ho; simp at h8
    · subst ho; simp at h8
  exact ⟨b, o, e, hb, Nat.lt_of_lt_of_le hlt hK.size, fun j hj => (hK.cell (p := ⟨b, o + j, none⟩) hlt hbk).trans (hc j hj)⟩
def doS (l : List Bool) (t : Nat) (K N : Int) : Nat := if K = 0 then (takeS l t N).1 else if K = 1 then t else if K = 2 then (takeS l t N).1 else t + lack t
def DoPost (w : World) (g : Nat) (s : List UInt8) (a : Option Addr) (L c t' : Nat) (e : Ending) (w' : World) : Prop :=
  e = .returned (.tuple #[.agg #[.slice a L c, .int .i64 t'], .bool true]) ∧ IsReader w' g s t' ∧ Keeps (fun k => k = g) w w'
set_option maxHeartbeats 3200000 in
theorem do0 (a : Option Addr) (L c : Nat) (g t : Nat) (s : List UInt8) (N : Int) (w : World) (hL : L = (spread s).length) (hc : L ≤ c) (hr : IsReader w g s t) (h : IsBoo w a (spread s)) (hl : (spread s).length ≤ 1000000) (hcm : c ≤ maxLen) (t' : Nat) (hT : doS (spread s) t 0 N = t') :
    Calls Try.prog 27 #[.pointer (some ⟨g, 0, none⟩), .agg #[.slice a L c, .int .i64 t], .agg #[.int .i64 0, .int .i64 N]] w (DoPost w g s a L c t') := by
  obtain ⟨T, W, E, hS⟩ : ∃ T W E, takeS (spread s) t N = (T, W, E) := ⟨_, _, _, rfl⟩
  have hTT : T = t' := by rw [← hT]; unfold doS; rw [if_pos rfl, hS]
  subst hTT
  have CD := Lib.hid (fun W0 (h : IsBoo W0 a (spread s)) => dTakeU a L c (spread s) t N hL hc hr.le W0 h hl hcm T W E hS)
  have CR := Lib.hid (fun W0 (h : IsReader W0 g s t) => rTakeU W0 g t s N h T W E hS)
  have hgl := hr.lt
  have HR := Lib.hid hr
  have HI := Lib.hid h
  clear hr h hL hc hl hcm hT hS
  go_enter Try.func27, Try.ntmps27
  go_wp2_with fail
  refine (CD.out _ (((HI.out.alloc _).alloc _).alloc _)).mono ?_; rintro e w1 ⟨rfl, hb⟩
  obtain ⟨x0, x1, x2⟩ := heap3 w (.cells #[.slice a L c, .int .i64 t] 46) (.cells #[.int .i64 0, .int .i64 N] 51) (.cells #[.slice none 0 0, .int .i64 0] 46)
  have g5 := (Keeps.of_below (S := fun _ => False) hb).heap x1 (fun h => h)
  have g6 := (Keeps.of_below (S := fun _ => False) hb).heap x2 (fun h => h)
  have HR1 := Lib.hid ((((HR.out.alloc _).alloc _).alloc _).kept hb)
  have HK1 := Lib.hid (((((Keeps.refl (fun k => k = g) w).alloc (.cells #[.slice a L c, .int .i64 t] 46)).alloc (.cells #[.int .i64 0, .int .i64 N] 51)).alloc (.cells #[.slice none 0 0, .int .i64 0] 46)).trans (Keeps.of_below hb))
  have hsz := HK1.out.size
  obtain ⟨l5, c50, c51, -, -⟩ := cells2 g5
  have HG6 := Lib.hid g6
  clear hb x0 x1 x2 g5 g6
  go_wp2_with fail
  refine (CR.out _ (HR1.out.alloc _)).mono ?_; rintro e w2 ⟨rfl, hr2, hk2⟩
  have g8 := hk2.heap (heap_alloc_new w1 _) (by omega)
  have g6 := hk2.heap (heap_old HG6.out _) (by omega)
  have hsz2 : w1.heap.size + 1 ≤ w2.heap.size := by simpa using hk2.size
  have HR2 := Lib.hid hr2
  have HK2 := Lib.hid ((HK1.out.alloc (.cells #[.slice a L c, .int .i64 T] 46)).trans hk2)
  obtain ⟨l8, c80, c81, -, -⟩ := cells2 g8
  obtain ⟨l6, c60, c61, f60, f61⟩ := cells2 g6
  have HG6 := Lib.hid g6
  clear hr2 hk2 HR1 HK1 g8 g6 c50 c51 l5
  go_wp2_with fail
  have hh := block_set (block_set HG6.out 0 (.slice a L c)) 1 (.int .i64 (T : Int))
  have e0 := cell_in hh 0
  have e1 := cell_in hh 1
  rw [show ((#[Value.slice none 0 0, Value.int .i64 0].setIfInBounds 0 (.slice a L c)).setIfInBounds 1 (.int .i64 (T : Int)))[0]? = some (.slice a L c) from rfl] at e0
  rw [show ((#[Value.slice none 0 0, Value.int .i64 0].setIfInBounds 0 (.slice a L c)).setIfInBounds 1 (.int .i64 (T : Int)))[1]? = some (.int .i64 (T : Int)) from rfl] at e1
  clear hh
  have hK := ((Keeps.refl (fun b => b = w.heap.size + 1 + 1) w2).setCell (p := ⟨w.heap.size + 1 + 1, 0, none⟩) (.inr rfl) (.slice a L c)).setCell (p := ⟨w.heap.size + 1 + 1, 1, none⟩) (.inr rfl) (.int .i64 (T : Int))
  exact bodyPost_ret (v := .tuple #[.agg #[.slice a L c, .int .i64 (T : Int)], .bool true]) (by simp [results, Try.results27, go_sem, e0, e1]) rfl ⟨rfl, HR2.out.box HG6.out (by omega) hK, (HK2.out.setCell (p := ⟨w.heap.size + 1 + 1, 0, none⟩) (.inl (by simp; omega)) _).setCell (p := ⟨w.heap.size + 1 + 1, 1, none⟩) (.inl (by simp; omega)) _⟩
theorem set2_other {W : World} {b6 b o : Nat} (hne : b ≠ b6) (u v : Value) : ((W.setCell ⟨b6, 0, none⟩ u).setCell ⟨b6, 1, none⟩ v).cell? ⟨b, o, none⟩ = W.cell? ⟨b, o, none⟩ := by
  refine World.cell?_of_block (w := W) ?_
  show ((W.setCell ⟨b6, 0, none⟩ u).setCell ⟨b6, 1, none⟩ v).heap[b]? = _
  rw [Below.heap_setCell _ _ _ _ hne, Below.heap_setCell _ _ _ _ hne]
theorem after_skip {w w1 w2 : World} {g b5 b6 : Nat} {a : Option Addr} {L c T : Nat} {N : Int} {R : TypeId} (hg : g < w.heap.size) (h5 : w.heap.size < b5) (h6 : w.heap.size < b6) (h56 : b5 ≠ b6) (hsz : w.heap.size ≤ w1.heap.size) (l6 : b6 < w1.heap.size)
    (hc5 : (w1.alloc (.cells #[.slice a L c, .int .i64 T] R)).cell? ⟨b5, 1, none⟩ = some (.int .i64 N)) (l5 : b5 < w1.heap.size)
    (g8 : (w1.alloc (.cells #[.slice a L c, .int .i64 T] R)).heap[w1.heap.size]? = some (.cells #[.slice a L c, .int .i64 T] R (0, 0)))
    (g6 : w1.heap[b6]? = some (.cells #[.slice none 0 0, .int .i64 0] R (0, 0)))
    (hk : Keeps (fun k => k = g) (w1.alloc (.cells #[.slice a L c, .int .i64 T] R)) w2) :
    (w2.cell? ⟨b5, 1, none⟩ = some (.int .i64 N) ∧ w2.cell? ⟨w1.heap.size, 0, none⟩ = some (.slice a L c) ∧ w2.cell? ⟨w1.heap.size, 1, none⟩ = some (.int .i64 T)) ∧ w2.heap[b6]? = some (.cells #[.slice none 0 0, .int .i64 0] R (0, 0)) ∧
    ∀ u v, ((w2.setCell ⟨b6, 0, none⟩ u).setCell ⟨b6, 1, none⟩ v).cell? ⟨b5, 1, none⟩ = some (.int .i64 N) ∧ ((w2.setCell ⟨b6, 0, none⟩ u).setCell ⟨b6, 1, none⟩ v).cell? ⟨w1.heap.size, 0, none⟩ = some (.slice a L c) ∧ ((w2.setCell ⟨b6, 0, none⟩ u).setCell ⟨b6, 1, none⟩ v).cell? ⟨w1.heap.size, 1, none⟩ = some (.int .i64 T) := by
  have e5 : w2.cell? ⟨b5, 1, none⟩ = some (.int .i64 N) := (hk.cell (p := ⟨b5, 1, none⟩) (by simp; omega) (by show ¬ b5 = g; omega)).trans hc5
  have e8 := hk.heap g8 (by omega)
  have c0 := cell_in e8 0
  have c1 := cell_in e8 1
  have e6 := hk.heap (heap_old g6 _) (by omega)
  refine ⟨⟨e5, c0, c1⟩, e6, fun u v => ?_⟩
  rw [set2_other h56, set2_other (by omega), set2_other (by omega)]
  exact ⟨e5, c0, c1⟩
set_option maxHeartbeats 3200000 in
theorem do2 (a : Option Addr) (L c : Nat) (g t : Nat) (s : List UInt8) (N : Int) (w : World) (hL : L = (spread s).length) (hc : L ≤ c) (hr : IsReader w g s t) (h : IsBoo w a (spread s)) (hl : (spread s).length ≤ 1000000) (hcm : c ≤ maxLen) (t' : Nat) (hT : doS (spread s) t 2 N = t') :
    Calls Try.prog 27 #[.pointer (some ⟨g, 0, none⟩), .agg #[.slice a L c, .int .i64 t], .agg #[.int .i64 2, .int .i64 N]] w (DoPost w g s a L c t') := by
  obtain ⟨T, W, E, hS⟩ : ∃ T W E, takeS (spread s) t N = (T, W, E) := ⟨_, _, _, rfl⟩
  have hTT : T = t' := by rw [← hT]; unfold doS; rw [if_neg (by decide), if_neg (by decide), if_pos rfl, hS]
  subst hTT
  have CD := Lib.hid (fun W0 (h : IsBoo W0 a (spread s)) => dTakeU a L c (spread s) t N hL hc hr.le W0 h hl hcm T W E hS)
  have CR := Lib.hid (fun W0 (h : IsReader W0 g s t) => rSkipU W0 g t s N h T W E hS)
  have hgl := hr.lt
  have HR := Lib.hid hr
  have HI := Lib.hid h
  clear hr h hL hc hl hcm hT hS
  go_enter Try.func27, Try.ntmps27
  go_wp2_with fail
  refine (CD.out _ (((HI.out.alloc _).alloc _).alloc _)).mono ?_; rintro e w1 ⟨rfl, hb⟩
  obtain ⟨x0, x1, x2⟩ := heap3 w (.cells #[.slice a L c, .int .i64 t] 46) (.cells #[.int .i64 2, .int .i64 N] 51) (.cells #[.slice none 0 0, .int .i64 0] 46)
  have g5 := (Keeps.of_below (S := fun _ => False) hb).heap x1 (fun h => h)
  have g6 := (Keeps.of_below (S := fun _ => False) hb).heap x2 (fun h => h)
  have HR1 := Lib.hid ((((HR.out.alloc _).alloc _).alloc _).kept hb)
  have HK1 := Lib.hid (((((Keeps.refl (fun k => k = g) w).alloc (.cells #[.slice a L c, .int .i64 t] 46)).alloc (.cells #[.int .i64 2, .int .i64 N] 51)).alloc (.cells #[.slice none 0 0, .int .i64 0] 46)).trans (Keeps.of_below hb))
  have hsz := HK1.out.size
  obtain ⟨l5, c50, c51, -, -⟩ := cells2 g5
  have HG6 := Lib.hid g6
  clear hb x0 x1 x2 g5 g6
  have g8 := heap_alloc_new w1 (.cells #[.slice a L c, .int .i64 T] 46)
  obtain ⟨l8, c80, c81, -, -⟩ := cells2 g8
  have HG8 := Lib.hid g8
  have hc51 : (w1.alloc (.cells #[.slice a L c, .int .i64 T] 46)).cell? ⟨w.heap.size + 1, 1, none⟩ = some (.int .i64 N) := (World.cell?_alloc_lt _ _ _ (by simpa using l5)).trans c51
  clear g8
  have hrd : IsReader (w1.alloc (.cells #[.slice a L c, .int .i64 T] 46)).drew g s t := HR1.out.alloc _
  have CRd := Lib.hid ((CR.out _ hrd).mono (R' := fun e w' => e = .returned (.int .i64 E) ∧ IsReader w' g s T ∧ Keeps (fun k => k = g) (w1.alloc (.cells #[.slice a L c, .int .i64 T] 46)) w') (by rintro e w' ⟨h1, h2, h3⟩; exact ⟨h1, h2, ((Keeps.refl _ _).drew).trans h3⟩))
  clear CR hrd
  go_wp2_with fail
  go_region_held3 (fun w' => w'.cell? ⟨w.heap.size + 1, 1, none⟩ = some (.int .i64 N) ∧ w'.cell? ⟨w1.heap.size, 0, none⟩ = some (.slice a L c) ∧ w'.cell? ⟨w1.heap.size, 1, none⟩ = some (.int .i64 T)) (first | exact ⟨hc51, c80, c81⟩ | exact HX.out | exact HY.out) (first | (go_at_call 32; with_reducible refine CRd.out.mono ?_; rintro e w2 ⟨rfl, hr2, hk2⟩; have HA := Lib.hid (after_skip (b5 := w.heap.size + 1) (b6 := w.heap.size + 1 + 1) hgl (by omega) (by omega) (by omega) hsz (block_lt HG6.out) hc51 l5 HG8.out HG6.out hk2); have HX := Lib.hid HA.out.1; have HY := Lib.hid (HA.out.2.2 (.slice a L c) (.int .i64 T)); have hg6 := HA.out.2.1; obtain ⟨l6, c60, c61, f60, f61⟩ := cells2 hg6))
  simp only [Exit.then]
  rename_i hK hHeld
  refine hK _ _ ?_
  have HG6 := Lib.hid hg6
  have HR2 := Lib.hid hr2
  have HK2 := Lib.hid ((HK1.out.alloc (.cells #[.slice a L c, .int .i64 T] 46)).trans hk2)
  have hsz2 : w1.heap.size + 1 ≤ w2.heap.size := by simpa using hk2.size
  clear hK hHeld HX HY HA hr2 hk2 hg6 CRd HR1 HK1 HG8 hc51 c50 c51 c80 c81 l8
  go_wp2_with fail
  have hh := block_set (block_set HG6.out 0 (.slice a L c)) 1 (.int .i64 (T : Int))
  have e0 := cell_in hh 0
  have e1 := cell_in hh 1
  rw [show ((#[Value.slice none 0 0, Value.int .i64 0].setIfInBounds 0 (.slice a L c)).setIfInBounds 1 (.int .i64 (T : Int)))[0]? = some (.slice a L c) from rfl] at e0
  rw [show ((#[Value.slice none 0 0, Value.int .i64 0].setIfInBounds 0 (.slice a L c)).setIfInBounds 1 (.int .i64 (T : Int)))[1]? = some (.int .i64 (T : Int)) from rfl] at e1
  clear hh
  have hK := ((Keeps.refl (fun b => b = w.heap.size + 1 + 1) w2).setCell (p := ⟨w.heap.size + 1 + 1, 0, none⟩) (.inr rfl) (.slice a L c)).setCell (p := ⟨w.heap.size + 1 + 1, 1, none⟩) (.inr rfl) (.int .i64 (T : Int))
  exact bodyPost_ret (v := .tuple #[.agg #[.slice a L c, .int .i64 (T : Int)], .bool true]) (by simp [results, Try.results27, go_sem, e0, e1]) rfl ⟨rfl, HR2.out.box HG6.out (by omega) hK, (HK2.out.setCell (p := ⟨w.heap.size + 1 + 1, 0, none⟩) (.inl (by simp; omega)) _).setCell (p := ⟨w.heap.size + 1 + 1, 1, none⟩) (.inl (by simp; omega)) _⟩
set_option maxHeartbeats 3200000 in
theorem do3 (a : Option Addr) (L c : Nat) (g t : Nat) (s : List UInt8) (N : Int) (w : World) (hL : L = (spread s).length) (hc : L ≤ c) (hr : IsReader w g s t) (h : IsBoo w a (spread s)) (hl : (spread s).length ≤ 1000000) (hcm : c ≤ maxLen) (t' : Nat) (K : Int) (hk0 : (K == 0) = false) (hk1 : (K == 1) = false) (hk2 : (K == 2) = false) (hT : t + lack t = t') :
    Calls Try.prog 27 #[.pointer (some ⟨g, 0, none⟩), .agg #[.slice a L c, .int .i64 t], .agg #[.int .i64 K, .int .i64 N]] w (DoPost w g s a L c t') := by
  obtain ⟨T, hTd⟩ : ∃ T, t + lack t = T := ⟨_, rfl⟩
  obtain rfl : T = t' := by rw [← hTd, hT]
  obtain ⟨J, hJ⟩ : ∃ J, lack t = J := ⟨_, rfl⟩
  have htl := hr.le
  have CD := Lib.hid (fun W0 => dAlign2 a L c t (by omega) W0)
  have CR := Lib.hid (fun W0 (h : IsReader W0 g s t) => rAlignIn W0 g t s h)
  rw [hTd, hJ] at CD
  rw [hJ] at CR
  have hTJ : t + J = T := by rw [← hJ]; exact hTd
  rw [hTJ] at CR
  have hgl := hr.lt
  have HR := Lib.hid hr
  have HI := Lib.hid h
  clear hr h hL hc hl hcm hT hTd hJ htl hTJ
  go_enter Try.func27, Try.ntmps27
  go_wp2_with fail
  refine (CD.out _).mono ?_; rintro e w1 ⟨rfl, hb⟩
  obtain ⟨x0, x1, x2⟩ := heap3 w (.cells #[.slice a L c, .int .i64 t] 46) (.cells #[.int .i64 K, .int .i64 N] 51) (.cells #[.slice none 0 0, .int .i64 0] 46)
  have g5 := (Keeps.of_below (S := fun _ => False) hb).heap x1 (fun h => h)
  have g6 := (Keeps.of_below (S := fun _ => False) hb).heap x2 (fun h => h)
  have HR1 := Lib.hid ((((HR.out.alloc _).alloc _).alloc _).kept hb)
  have HK1 := Lib.hid (((((Keeps.refl (fun k => k = g) w).alloc (.cells #[.slice a L c, .int .i64 t] 46)).alloc (.cells #[.int .i64 K, .int .i64 N] 51)).alloc (.cells #[.slice none 0 0, .int .i64 0] 46)).trans (Keeps.of_below hb))
  have hsz := HK1.out.size
  obtain ⟨l5, c50, c51, -, -⟩ := cells2 g5
  have HG6 := Lib.hid g6
  clear hb x0 x1 x2 g5 g6
  have g8 := heap_alloc_new w1 (.cells #[.slice a L c, .int .i64 T] 46)
  obtain ⟨l8, c80, c81, -, -⟩ := cells2 g8
  have HG8 := Lib.hid g8
  have hc51 : (w1.alloc (.cells #[.slice a L c, .int .i64 T] 46)).cell? ⟨w.heap.size + 1, 1, none⟩ = some (.int .i64 N) := (World.cell?_alloc_lt _ _ _ (by simpa using l5)).trans c51
  clear g8
  have hrd : IsReader (w1.alloc (.cells #[.slice a L c, .int .i64 T] 46)).drew g s t := HR1.out.alloc _
  have CRd := Lib.hid ((CR.out _ hrd).mono (R' := fun e w' => e = .returned (.int .i64 J) ∧ IsReader w' g s T ∧ Keeps (fun k => k = g) (w1.alloc (.cells #[.slice a L c, .int .i64 T] 46)) w') (by rintro e w' ⟨h1, h2, h3, -⟩; exact ⟨h1, h2, ((Keeps.refl _ _).drew).trans h3⟩))
  clear CR hrd
  go_wp2_with fail
  go_region_held3 (fun w' => w'.cell? ⟨w.heap.size + 1, 1, none⟩ = some (.int .i64 N) ∧ w'.cell? ⟨w1.heap.size, 0, none⟩ = some (.slice a L c) ∧ w'.cell? ⟨w1.heap.size, 1, none⟩ = some (.int .i64 T)) (first | exact ⟨hc51, c80, c81⟩ | exact HX.out | exact HY.out) (first | (go_at_call 33; with_reducible refine CRd.out.mono ?_; rintro e w2 ⟨rfl, hr2, hk2'⟩; have HA := Lib.hid (after_skip (b5 := w.heap.size + 1) (b6 := w.heap.size + 1 + 1) hgl (by omega) (by omega) (by omega) hsz (block_lt HG6.out) hc51 l5 HG8.out HG6.out hk2'); have HX := Lib.hid HA.out.1; have HY := Lib.hid (HA.out.2.2 (.slice a L c) (.int .i64 T)); have hg6 := HA.out.2.1; obtain ⟨l6, c60, c61, f60, f61⟩ := cells2 hg6))
  simp only [Exit.then]
  rename_i hK hHeld
  refine hK _ _ ?_
  have HG6 := Lib.hid hg6
  have HR2 := Lib.hid hr2
  have HK2 := Lib.hid ((HK1.out.alloc (.cells #[.slice a L c, .int .i64 T] 46)).trans hk2')
  have hsz2 : w1.heap.size + 1 ≤ w2.heap.size := by simpa using hk2'.size
  clear hK hHeld HX HY HA hr2 hk2' hg6 CRd HR1 HK1 HG8 hc51 c50 c51 c80 c81 l8
  go_wp2_with fail
  have hh := block_set (block_set HG6.out 0 (.slice a L c)) 1 (.int .i64 (T : Int))
  have e0 := cell_in hh 0
  have e1 := cell_in hh 1
  rw [show ((#[Value.slice none 0 0, Value.int .i64 0].setIfInBounds 0 (.slice a L c)).setIfInBounds 1 (.int .i64 (T : Int)))[0]? = some (.slice a L c) from rfl] at e0
  rw [show ((#[Value.slice none 0 0, Value.int .i64 0].setIfInBounds 0 (.slice a L c)).setIfInBounds 1 (.int .i64 (T : Int)))[1]? = some (.int .i64 (T : Int)) from rfl] at e1
  clear hh
  have hK := ((Keeps.refl (fun b => b = w.heap.size + 1 + 1) w2).setCell (p := ⟨w.heap.size + 1 + 1, 0, none⟩) (.inr rfl) (.slice a L c)).setCell (p := ⟨w.heap.size + 1 + 1, 1, none⟩) (.inr rfl) (.int .i64 (T : Int))
  exact bodyPost_ret (v := .tuple #[.agg #[.slice a L c, .int .i64 (T : Int)], .bool true]) (by simp [results, Try.results27, go_sem, e0, e1]) rfl ⟨rfl, HR2.out.box HG6.out (by omega) hK, (HK2.out.setCell (p := ⟨w.heap.size + 1 + 1, 0, none⟩) (.inl (by simp; omega)) _).setCell (p := ⟨w.heap.size + 1 + 1, 1, none⟩) (.inl (by simp; omega)) _⟩
theorem keep3c {n : Nat} {w wx : World} {p1 p2 p3 : Addr} {c1 c2 c3 : Value} (hb : Below n w wx) (h : (p1.block < n ∧ p2.block < n ∧ p3.block < n) ∧ w.cell? p1 = some c1 ∧ w.cell? p2 = some c2 ∧ w.cell? p3 = some c3) : wx.cell? p1 = some c1 ∧ wx.cell? p2 = some c2 ∧ wx.cell? p3 = some c3 :=
  ⟨(hb.cell h.1.1).trans h.2.1, (hb.cell h.1.2.1).trans h.2.2.1, (hb.cell h.1.2.2).trans h.2.2.2⟩
theorem keep3s {n : Nat} {w wx : World} {b1 b2 b3 o1 o2 o3 b6 : Nat} {c1 c2 c3 u v : Value} (hb : Below n w wx) (h : ((b1 < n ∧ b2 < n ∧ b3 < n) ∧ b1 ≠ b6 ∧ b2 ≠ b6 ∧ b3 ≠ b6) ∧ w.cell? ⟨b1, o1, none⟩ = some c1 ∧ w.cell? ⟨b2, o2, none⟩ = some c2 ∧ w.cell? ⟨b3, o3, none⟩ = some c3) :
    ((wx.setCell ⟨b6, 0, none⟩ u).setCell ⟨b6, 1, none⟩ v).cell? ⟨b1, o1, none⟩ = some c1 ∧ ((wx.setCell ⟨b6, 0, none⟩ u).setCell ⟨b6, 1, none⟩ v).cell? ⟨b2, o2, none⟩ = some c2 ∧ ((wx.setCell ⟨b6, 0, none⟩ u).setCell ⟨b6, 1, none⟩ v).cell? ⟨b3, o3, none⟩ = some c3 := by
  rw [set2_other h.1.2.1, set2_other h.1.2.2.1, set2_other h.1.2.2.2]
  exact keep3c hb ⟨h.1.1, h.2⟩
set_option maxHeartbeats 3200000 in
theorem do1 (a : Option Addr) (L c : Nat) (g t : Nat) (s : List UInt8) (N : Int) (w : World) (hL : L = (spread s).length) (hc : L ≤ c) (hr : IsReader w g s t) (h : IsBoo w a (spread s)) (hl : (spread s).length ≤ 1000000) (hcm : c ≤ maxLen) :
    Calls Try.prog 27 #[.pointer (some ⟨g, 0, none⟩), .agg #[.slice a L c, .int .i64 t], .agg #[.int .i64 1, .int .i64 N]] w (DoPost w g s a L c t) := by
  obtain ⟨W, hS⟩ : ∃ W, peekS (spread s) t N = W := ⟨_, rfl⟩
  obtain ⟨x0, x1, x2⟩ := heap3 w (.cells #[.slice a L c, .int .i64 t] 46) (.cells #[.int .i64 1, .int .i64 N] 51) (.cells #[.slice none 0 0, .int .i64 0] 46)
  have hr0 := (((hr.alloc (.cells #[.slice a L c, .int .i64 t] 46)).alloc (.cells #[.int .i64 1, .int .i64 N] 51)).alloc (.cells #[.slice none 0 0, .int .i64 0] 46))
  have hi0 := (((h.alloc (.cells #[.slice a L c, .int .i64 t] 46)).alloc (.cells #[.int .i64 1, .int .i64 N] 51)).alloc (.cells #[.slice none 0 0, .int .i64 0] 46))
  have hkk := ((((Keeps.refl (fun k => k = g) w).alloc (.cells #[.slice a L c, .int .i64 t] 46)).alloc (.cells #[.int .i64 1, .int .i64 N] 51)).alloc (.cells #[.slice none 0 0, .int .i64 0] 46))
  have hsz0 : (((w.alloc (.cells #[.slice a L c, .int .i64 t] 46)).alloc (.cells #[.int .i64 1, .int .i64 N] 51)).alloc (.cells #[.slice none 0 0, .int .i64 0] 46)).heap.size = w.heap.size + 3 := by simp
  have htl := hr.le
  obtain ⟨W0, hW0⟩ : ∃ W0, (((w.alloc (.cells #[.slice a L c, .int .i64 t] 46)).alloc (.cells #[.int .i64 1, .int .i64 N] 51)).alloc (.cells #[.slice none 0 0, .int .i64 0] 46)) = W0 := ⟨_, rfl⟩
  have HW0 := Lib.hid hW0
  rw [hW0] at x0 x1 x2 hr0 hi0 hkk hsz0
  clear hW0
  have CD := Lib.hid (fun W1 (hb : Below W0.heap.size W0 W1) => (dPeekU a L c (spread s) t N hL hc htl W1 (hi0.kept hb) hl hcm W hS).mono (R' := fun e w' => e = .returned (.int .u64 W) ∧ Below W0.heap.size W0 w') (by rintro e w' ⟨h1, h2⟩; exact ⟨h1, hb.trans (h2.mono hb.size)⟩))
  have CR := Lib.hid (fun W1 (hb : Below W0.heap.size W0 W1) => (rPeekU W1 g t s N (hr0.kept hb) W hS).mono (R' := fun e w' => e = .returned (.int .u64 W) ∧ Below W0.heap.size W0 w') (by rintro e w' ⟨h1, h2⟩; exact ⟨h1, hb.trans (h2.mono hb.size)⟩))
  have hgl := hr.lt
  obtain ⟨l4, c40, c41, -, -⟩ := cells2 x0
  obtain ⟨l5, c50, c51, -, -⟩ := cells2 x1
  have hB0 : Below W0.heap.size W0 W0.drew := (Below.refl _ _).drew
  have HP := Lib.hid (show ((w.heap.size < W0.heap.size ∧ w.heap.size < W0.heap.size ∧ w.heap.size + 1 < W0.heap.size) ∧ w.heap.size ≠ w.heap.size + 1 + 1 ∧ w.heap.size ≠ w.heap.size + 1 + 1 ∧ w.heap.size + 1 ≠ w.heap.size + 1 + 1) ∧ W0.cell? ⟨w.heap.size, 0, none⟩ = some (.slice a L c) ∧ W0.cell? ⟨w.heap.size, 1, none⟩ = some (.int .i64 t) ∧ W0.cell? ⟨w.heap.size + 1, 1, none⟩ = some (.int .i64 N) from ⟨⟨⟨l4, l4, l5⟩, by omega, by omega, by omega⟩, c40, c41, c51⟩)
  have HP2 := Lib.hid (show (w.heap.size < W0.heap.size ∧ w.heap.size < W0.heap.size ∧ w.heap.size + 1 < W0.heap.size) ∧ W0.cell? ⟨w.heap.size, 0, none⟩ = some (.slice a L c) ∧ W0.cell? ⟨w.heap.size, 1, none⟩ = some (.int .i64 t) ∧ W0.cell? ⟨w.heap.size + 1, 1, none⟩ = some (.int .i64 N) from ⟨⟨l4, l4, l5⟩, c40, c41, c51⟩)
  have HR0 := Lib.hid hr0; have HKK := Lib.hid hkk; have HX2 := Lib.hid x2
  clear hr h hL hc hl hcm hS hr0 hi0 htl hkk x0 x1 x2
  go_enter Try.func27, Try.ntmps27
  go_wp2_with fail
  rw [HW0.out]
  go_region_held3 (fun w' => w'.cell? ⟨w.heap.size, 0, none⟩ = some (.slice a L c) ∧ w'.cell? ⟨w.heap.size, 1, none⟩ = some (.int .i64 t) ∧ w'.cell? ⟨w.heap.size + 1, 1, none⟩ = some (.int .i64 N)) (first | exact ⟨c40, c41, c51⟩ | exact keep3c (by assumption) HP2.out | exact keep3s (by assumption) HP.out) (first | (go_at_call 30; with_reducible refine (CR.out _ (by assumption)).mono ?_; rintro e w2 ⟨rfl, hb2⟩; obtain ⟨l6, c60, c61, f60, f61⟩ := cells2 ((Keeps.of_below (S := fun _ => False) hb2).heap HX2.out (fun h => h))) | (go_at_call 52; with_reducible refine (CD.out _ (by assumption)).mono ?_; rintro e w3 ⟨rfl, hb3⟩; have hg6 := ((Keeps.of_below (S := fun _ => False) hb3).heap HX2.out (fun h => h)); obtain ⟨m6, d60, d61, g60, g61⟩ := cells2 hg6))
  simp only [Exit.then]
  rename_i hK hHeld
  refine hK _ _ ?_
  have HG6 := Lib.hid hg6
  have HR2 := Lib.hid (HR0.out.kept hb3)
  have HK2 := Lib.hid (HKK.out.trans (Keeps.of_below hb3))
  have hsz3 := hb3.size
  clear hK hHeld hb3 hb2 hg6 HP HP2 CD CR HX2 HR0 HKK HW0 hB0 c40 c41 c50 c51 c60 c61 f60 f61
  go_wp2_with fail
  have hh := block_set (block_set HG6.out 0 (.slice a L c)) 1 (.int .i64 (t : Int))
  have e0 := cell_in hh 0
  have e1 := cell_in hh 1
  rw [show ((#[Value.slice none 0 0, Value.int .i64 0].setIfInBounds 0 (.slice a L c)).setIfInBounds 1 (.int .i64 (t : Int)))[0]? = some (.slice a L c) from rfl] at e0
  rw [show ((#[Value.slice none 0 0, Value.int .i64 0].setIfInBounds 0 (.slice a L c)).setIfInBounds 1 (.int .i64 (t : Int)))[1]? = some (.int .i64 (t : Int)) from rfl] at e1
  clear hh
  have hK := ((Keeps.refl (fun b => b = w.heap.size + 1 + 1) w3).setCell (p := ⟨w.heap.size + 1 + 1, 0, none⟩) (.inr rfl) (.slice a L c)).setCell (p := ⟨w.heap.size + 1 + 1, 1, none⟩) (.inr rfl) (.int .i64 (t : Int))
  exact bodyPost_ret (v := .tuple #[.agg #[.slice a L c, .int .i64 (t : Int)], .bool true]) (by simp [results, Try.results27, go_sem, e0, e1]) rfl ⟨rfl, HR2.out.box HG6.out (by omega) hK, (HK2.out.setCell (p := ⟨w.heap.size + 1 + 1, 0, none⟩) (.inl (by simp; omega)) _).setCell (p := ⟨w.heap.size + 1 + 1, 1, none⟩) (.inl (by simp; omega)) _⟩
theorem doT (a : Option Addr) (L c : Nat) (g t : Nat) (s : List UInt8) (K N : Int) (w : World) (hL : L = (spread s).length) (hc : L ≤ c) (hr : IsReader w g s t) (h : IsBoo w a (spread s)) (hl : (spread s).length ≤ 1000000) (hcm : c ≤ maxLen) :
    Calls Try.prog 27 #[.pointer (some ⟨g, 0, none⟩), .agg #[.slice a L c, .int .i64 t], .agg #[.int .i64 K, .int .i64 N]] w fun e w' => ∃ t' : Nat, e = .returned (.tuple #[.agg #[.slice a L c, .int .i64 t'], .bool true]) ∧ IsReader w' g s t' ∧ Keeps (fun k => k = g) w w' := by
  by_cases h0 : K = 0
  · subst h0
    exact (do0 a L c g t s N w hL hc hr h hl hcm _ rfl).mono fun e w' h => ⟨_, h⟩
  by_cases h1 : K = 1
  · subst h1
    exact (do1 a L c g t s N w hL hc hr h hl hcm).mono fun e w' h => ⟨_, h⟩
  by_cases h2 : K = 2
  · subst h2
    exact (do2 a L c g t s N w hL hc hr h hl hcm _ rfl).mono fun e w' h => ⟨_, h⟩
  exact (do3 a L c g t s N w hL hc hr h hl hcm _ K (by rw [beq_eq_false_iff_ne]; exact h0) (by rw [beq_eq_false_iff_ne]; exact h1) (by rw [beq_eq_false_iff_ne]; exact h2) rfl).mono fun e w' h => ⟨_, h⟩
end Go.Proofs.Ytnpbjnhjgoafpaa
