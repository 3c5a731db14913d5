import Derived.Test.YtedmnlfbmmlcbaaJ02
import Derived.Test.YtedmnlfbmmlcbaaJ05
import Derived.Test.YtedmnlfbmmlcbaaG10
import Derived.Deep.CutRange
/- The document's begins, Bools, on rows of bits. -/
namespace Go.Proofs.Ytedmnlfbmmlcbaa
open Go.ChangeShapes Go.WideShapes Go.ChangeAt Go.RowKit
set_option linter.unusedVariables false
set_option maxRecDepth 100000
/-- Does l begin with the row h? -/
def begL (l h : List Bool) : Bool := decide (h.length ≤ l.length) && decide (l.take h.length = h)
theorem IsB.alloc {w : World} {v : Value} {l : List Bool} (h : IsB w v l) (o : Obj) : IsB (w.alloc o) v l := h.kept ((Below.refl _ _).alloc (Nat.le_refl _) o)
end Go.Proofs.Ytedmnlfbmmlcbaa

/- Layer 45: contracts by values; the document's Decode; awake. -/
namespace Go.Proofs.Ytedmnlfbmmlcbaa
open Go.ChangeShapes Go.WideShapes Go.ChangeAt Go.RowKit Go.Deep
set_option linter.unusedVariables false
set_option maxRecDepth 100000
open Range

def encS (bl : List Bool) (l : List Int) : List UInt8 × Int := if bl.length ≠ l.length then ([], 1) else if l.all okB = false then ([], 2) else (told (prs bl l), 0)
def decS (s : List UInt8) (l : List Int) : List Bool × Int := if l.all okB = false then ([], 2) else (undo (fresh s) (nats l), 0)
theorem gEncodeT {w : World} {v u : Value} {bl : List Bool} {l : List Int} (h1 : IsB w v bl) (h2 : IsL w u l) (hl : l.length ≤ 100000) (S : List UInt8) (E : Int) (hr : encS bl l = (S, E)) :
    Calls Try.prog 33 #[v, u] w fun e w' => e = .returned (.tuple #[.string (sB S), .int .i64 E]) ∧ Below w.heap.size w w' := by
  obtain ⟨a, ca, rfl, h1⟩ := h1
  obtain ⟨b, cb, rfl, h2⟩ := h2
  unfold encS at hr
  by_cases hlen : bl.length = l.length
  · rw [if_neg (by omega)] at hr
    rw [hlen]
    cases hall : l.all okB with
    | false =>
      rw [hall, if_pos rfl] at hr
      obtain ⟨rfl, rfl⟩ := hr
      exact gEncodeRange a b ca cb l w h2 hall
    | true =>
      rw [hall, if_neg (by decide)] at hr
      obtain ⟨rfl, rfl⟩ := hr
      by_cases h0 : 0 < l.length
      · exact gEncode a b ca cb bl l w h1 h2 hlen hl h0 hall
      · have hn : l = [] := List.eq_nil_of_length_eq_zero (by omega)
        subst hn
        have hb : bl = [] := List.eq_nil_of_length_eq_zero hlen
        subst hb
        exact gEncodeNil a b ca cb w
  · rw [if_pos hlen] at hr
    obtain ⟨rfl, rfl⟩ := hr
    exact gEncodeArg a b _ _ ca cb w hlen
theorem dEncodeT {w : World} {v u : Value} {bl : List Bool} {l : List Int} (h1 : IsB w v bl) (h2 : IsL w u l) (hl : l.length ≤ 100000) (S : List UInt8) (E : Int) (hr : encS bl l = (S, E)) :
    Calls Try.prog 40 #[v, u] w fun e w' => e = .returned (.tuple #[.string (sB S), .int .i64 E]) ∧ Below w.heap.size w w' := by
  obtain ⟨a, ca, rfl, h1⟩ := h1
  obtain ⟨b, cb, rfl, h2⟩ := h2
  unfold encS at hr
  by_cases hlen : bl.length = l.length
  · rw [if_neg (by omega)] at hr
    rw [hlen]
    cases hall : l.all okB with
    | false =>
      rw [hall, if_pos rfl] at hr
      obtain ⟨rfl, rfl⟩ := hr
      refine (dEncodeRange a b ca cb l w h2 hall).mono ?_
      rintro e w' ⟨h, rfl⟩
      exact ⟨h, Below.refl _ _⟩
    | true =>
      rw [hall, if_neg (by decide)] at hr
      obtain ⟨rfl, rfl⟩ := hr
      exact dEncode a b ca cb bl l w h1 h2 hlen hl hall
  · rw [if_pos hlen] at hr
    obtain ⟨rfl, rfl⟩ := hr
    refine (dEncodeArg a b _ _ ca cb w hlen).mono ?_
    rintro e w' ⟨h, rfl⟩
    exact ⟨h, Below.refl _ _⟩
theorem lit2 (w : World) (bs : List Bool) (is : List Int) (t1 t2 c1 c2 : Nat) (hl : is.length ≤ 70368744177664) :
    IsB ((w.alloc (.cells (bs.map Value.bool).toArray t1)).alloc (.cells (is.map (Value.int .i64 ·)).toArray t2)) (.slice (some ⟨w.heap.size, 0, none⟩) bs.length c1) bs ∧
    IsL ((w.alloc (.cells (bs.map Value.bool).toArray t1)).alloc (.cells (is.map (Value.int .i64 ·)).toArray t2)) (.slice (some ⟨w.heap.size + 1, 0, none⟩) is.length c2) is := by
  refine ⟨(IsB.lit w bs t1 c1).alloc _, ⟨_, _, rfl, ?_⟩⟩
  have := IsInts.new (w.alloc (.cells (bs.map Value.bool).toArray t1)) is t2 (0, 0) hl
  simpa using this
theorem lit1 (w : World) (is : List Int) (t2 c2 : Nat) (hl : is.length ≤ 70368744177664) : IsL (w.alloc (.cells (is.map (Value.int .i64 ·)).toArray t2)) (.slice (some ⟨w.heap.size, 0, none⟩) is.length c2) is :=
  ⟨_, _, rfl, IsInts.new w is t2 (0, 0) hl⟩
theorem step1 {w a b : World} {o : Obj} (h : Below w.heap.size w a) (h2 : Below (a.alloc o).heap.size (a.alloc o) b) : Below w.heap.size w b :=
  (h.alloc h.size o).trans (h2.mono (by have := h.size; simp; omega))
theorem step2 {w a b : World} {o q : Obj} (h : Below w.heap.size w a) (h2 : Below ((a.alloc o).alloc q).heap.size ((a.alloc o).alloc q) b) : Below w.heap.size w b :=
  step1 (h.alloc h.size o) h2
end Go.Proofs.Ytedmnlfbmmlcbaa

/- Layer 45: one bit by values; the document's Decode. -/
namespace Go.Proofs.Ytedmnlfbmmlcbaa
open Go.ChangeShapes Go.WideShapes Go.ChangeAt Go.RowKit Go.Deep
set_option linter.unusedVariables false
set_option maxRecDepth 100000
open Range

def stepD (d : Dec) (Z : Int) : Dec := if okB Z then behind d Z.toNat else d
def bitD (d : Dec) (Z : Int) : Bool := if okB Z then bitOf d Z.toNat else false
def errD (Z : Int) : Int := if okB Z then 0 else 2
theorem moves_len (n x : Nat) (s : List UInt8) : (moves n x s).2.length ≤ s.length := by
  induction n with
  | zero => exact Nat.le_refl _
  | succ n ih => rw [moves_succ]; unfold moveB; simp; omega
theorem behind_len (d : Dec) (p : Nat) : (behind d p).s.length ≤ d.s.length := moves_len _ _ _
theorem stepD_len (d : Dec) (Z : Int) : (stepD d Z).s.length ≤ d.s.length := by
  unfold stepD; split
  · exact behind_len _ _
  · exact Nat.le_refl _
theorem stepD_fine {d : Dec} (h : Fine d) (Z : Int) : Fine (stepD d Z) := by
  unfold stepD
  cases hz : okB Z with
  | true => have := okB_yes hz; exact fine_behind h (by omega)
  | false => exact h
theorem after_len (d : Dec) (l : List Nat) : (after d l).s.length ≤ d.s.length := by
  induction l generalizing d with
  | nil => exact Nat.le_refl _
  | cons p l ih => exact Nat.le_trans (ih _) (behind_len d p)
theorem fresh_len (s : List UInt8) : (fresh s).s.length ≤ s.length := moves_len _ _ _
theorem undo_len' (d : Dec) (l : List Nat) : (undo d l).length = l.length := by
  induction l generalizing d with
  | nil => rfl
  | cons q l ih => simp [undo, ih]
theorem gBitT (w : World) (g : Nat) (d : Dec) (Z : Int) (h : IsDec w g d) (hf : Fine d) : Calls Try.prog 64 #[.pointer (some ⟨g, 0, none⟩), .int .i64 Z] w fun e w' =>
    e = .returned (.tuple #[.bool (bitD d Z), .int .i64 (errD Z)]) ∧ IsDec w' g (stepD d Z) ∧ Keeps (fun k => k = g) w w' := by
  unfold bitD errD stepD
  cases hz : okB Z with
  | true =>
    obtain ⟨P, rfl⟩ : ∃ P : Nat, Z = P := ⟨Z.toNat, by have := okB_yes hz; omega⟩
    simp only [if_true, Int.toNat_natCast]
    exact gBit w g d P h hf hz
  | false =>
    simp only [Bool.false_eq_true, if_false]
    refine (gBitOut ⟨g, 0, none⟩ Z w hz).mono ?_
    rintro e w' ⟨rfl, rfl⟩
    exact ⟨rfl, h, Keeps.refl _ _⟩
end Go.Proofs.Ytedmnlfbmmlcbaa
