/- Layer 45: the mathematics of spans: settling, steps, codes, and that decoding undoes them. -/
import Derived.Test.YtkdkedgpchcfpaaBase
namespace Go.Proofs.Ytkdkedgpchcfpaa.Range
set_option linter.unusedVariables false
set_option maxRecDepth 100000

/-- Bytes that sttl, with fuel. -/
def sttl : Nat → Nat → Nat → List UInt8 × Nat × Nat
  | 0, a, b => ([], a, b)
  | f + 1, a, b => if a / 16777216 = b / 16777216 then
      ((UInt8.ofNat (a / 16777216)) :: (sttl f (a % 16777216 * 256) (b % 16777216 * 256 + 255)).1, (sttl f (a % 16777216 * 256) (b % 16777216 * 256 + 255)).2)
    else ([], a, b)
/-- Wide enough for so many rounds. -/
def Wide (f a b : Nat) : Prop := a ≤ b ∧ b < 4294967296 ∧ f ≤ 4 ∧ 4294967296 ≤ (b - a + 1) * 256 ^ f
def Apart (a b : Nat) : Prop := a ≤ b ∧ b < 4294967296 ∧ a / 16777216 ≠ b / 16777216
theorem wide4 (a b : Nat) (h : a ≤ b) (hb : b < 4294967296) : Wide 4 a b := ⟨h, hb, by omega, by
  have : 1 * 256 ^ 4 ≤ (b - a + 1) * 256 ^ 4 := Nat.mul_le_mul_right _ (by omega)
  omega⟩
theorem wide0 {a b : Nat} (h : Wide 0 a b) : a / 16777216 ≠ b / 16777216 := by
  obtain ⟨h1, h2, -, h4⟩ := h
  simp at h4; omega
theorem wide_next {f a b : Nat} (h : Wide (f + 1) a b) (he : a / 16777216 = b / 16777216) : Wide f (a % 16777216 * 256) (b % 16777216 * 256 + 255) := by
  obtain ⟨h1, h2, h3, h4⟩ := h
  refine ⟨by omega, by omega, by omega, ?_⟩
  rw [Nat.pow_succ] at h4
  have e : b % 16777216 * 256 + 255 - a % 16777216 * 256 + 1 = (b - a + 1) * 256 := by omega
  rw [e, Nat.mul_assoc, Nat.mul_comm 256]; exact h4
theorem settle_apart (f a b : Nat) (h : Wide f a b) : Apart (sttl f a b).2.1 (sttl f a b).2.2 := by
  induction f generalizing a b with
  | zero => exact ⟨h.1, h.2.1, wide0 h⟩
  | succ f ih =>
    unfold sttl
    by_cases he : a / 16777216 = b / 16777216
    · rw [if_pos he]; exact ih _ _ (wide_next h he)
    · rw [if_neg he]; exact ⟨h.1, h.2.1, he⟩
theorem settle_len (f a b : Nat) : (sttl f a b).1.length ≤ f := by
  induction f generalizing a b with
  | zero => simp [sttl]
  | succ f ih =>
    unfold sttl
    by_cases he : a / 16777216 = b / 16777216
    · rw [if_pos he]; simp; exact ih _ _
    · rw [if_neg he]; simp
theorem settle_yes {f a b : Nat} (he : a / 16777216 = b / 16777216) : sttl (f + 1) a b = ((UInt8.ofNat (a / 16777216)) :: (sttl f (a % 16777216 * 256) (b % 16777216 * 256 + 255)).1, (sttl f (a % 16777216 * 256) (b % 16777216 * 256 + 255)).2) := by
  rw [sttl, if_pos he]
theorem settle_no {f a b : Nat} (he : a / 16777216 ≠ b / 16777216) : sttl f a b = ([], a, b) := by
  cases f with
  | zero => rfl
  | succ f => rw [sttl, if_neg he]
/-- The middle. -/
def mid (a b p : Nat) : Nat := a + (b - a) / 2048 * p
theorem mid_le (a b p : Nat) (h : a ≤ b) (hp : p < 2048) : a ≤ mid a b p ∧ mid a b p ≤ b ∧ (a < b → mid a b p < b) ∧ (b - a) / 2048 * p ≤ b - a := by
  unfold mid
  have h1 : (b - a) / 2048 * p ≤ (b - a) / 2048 * 2047 := Nat.mul_le_mul_left _ (by omega)
  have h2 : (b - a) / 2048 * 2047 ≤ b - a := by omega
  generalize (b - a) / 2048 * p = q at *
  exact ⟨by omega, by omega, by omega, by omega⟩
/-- Behind a bit. -/
def part (a b p : Nat) (bit : Bool) : List UInt8 × Nat × Nat := if bit then sttl 4 (mid a b p + 1) b else sttl 4 a (mid a b p)
theorem apart_lt {a b : Nat} (h : Apart a b) : a < b := by
  obtain ⟨h1, h2, h3⟩ := h
  rcases Nat.lt_or_ge a b with h | h
  · exact h
  · exact absurd (by rw [show a = b by omega]) h3
theorem part_apart {a b p : Nat} {bit : Bool} (h : Apart a b) (hp : p < 2048) : Apart (part a b p bit).2.1 (part a b p bit).2.2 := by
  have hm := mid_le a b p h.1 hp
  have hlt := hm.2.2.1 (apart_lt h)
  have h2 := h.2.1
  unfold part
  cases bit
  · rw [if_neg (by decide)]; exact settle_apart _ _ _ (wide4 _ _ hm.1 (by omega))
  · rw [if_pos rfl]; exact settle_apart _ _ _ (wide4 _ _ (by omega) h2)
/-- The bytes of a. -/
def four (a : Nat) : List UInt8 := [UInt8.ofNat (a / 16777216), UInt8.ofNat (a / 65536 % 256), UInt8.ofNat (a / 256 % 256), UInt8.ofNat (a % 256)]
/-- Whatever is told from a span on: the settled bytes, and the span that is left. -/
def run : Nat → Nat → List (Bool × Nat) → List UInt8 × Nat × Nat
  | a, b, [] => ([], a, b)
  | a, b, (bit, p) :: l => ((part a b p bit).1 ++ (run (part a b p bit).2.1 (part a b p bit).2.2 l).1, (run (part a b p bit).2.1 (part a b p bit).2.2 l).2)
theorem run_snoc (a b : Nat) (l : List (Bool × Nat)) (bit : Bool) (p : Nat) : run a b (l ++ [(bit, p)]) =
    ((run a b l).1 ++ (part (run a b l).2.1 (run a b l).2.2 p bit).1, (part (run a b l).2.1 (run a b l).2.2 p bit).2) := by
  induction l generalizing a b with
  | nil => simp [run]
  | cons x l ih => obtain ⟨c, q⟩ := x; simp only [List.cons_append, run, ih, List.append_assoc]
theorem run_apart (a b : Nat) (l : List (Bool × Nat)) (h : Apart a b) (hl : ∀ x ∈ l, x.2 < 2048) : Apart (run a b l).2.1 (run a b l).2.2 := by
  induction l generalizing a b with
  | nil => exact h
  | cons x l ih => obtain ⟨c, q⟩ := x; exact ih _ _ (part_apart h (hl (c, q) (by simp))) (fun y hy => hl y (by simp [hy]))
theorem part_len (a b p : Nat) (bit : Bool) : (part a b p bit).1.length ≤ 4 := by
  unfold part; split <;> exact settle_len _ _ _
theorem run_len (a b : Nat) (l : List (Bool × Nat)) : (run a b l).1.length ≤ 4 * l.length := by
  induction l generalizing a b with
  | nil => simp [run]
  | cons x l ih => obtain ⟨c, q⟩ := x; simp only [run, List.length_append, List.length_cons]; have := part_len a b q c; have := ih (part a b q c).2.1 (part a b q c).2.2; omega
def top : Nat := 4294967295
theorem apart_all : Apart 0 top := ⟨by decide, by decide, by decide⟩
def told (l : List (Bool × Nat)) : List UInt8 := if l = [] then [] else (run 0 top l).1 ++ four (run 0 top l).2.1

/-- The number of the first four bytes, and what is moved in. -/
def first (n : Nat) (s : List UInt8) : Nat := match n with
  | 0 => 0
  | n + 1 => (s.getD 0 0).toNat * 256 ^ n + first n (s.drop 1)
def moveB (x : Nat) (s : List UInt8) : Nat × List UInt8 := (x % 16777216 * 256 + (s.getD 0 0).toNat, s.drop 1)
def moves : Nat → Nat → List UInt8 → Nat × List UInt8
  | 0, x, s => (x, s)
  | n + 1, x, s => moves n (moveB x s).1 (moveB x s).2
theorem moves_succ (n x : Nat) (s : List UInt8) : moves (n + 1) x s = moveB (moves n x s).1 (moves n x s).2 := by
  induction n generalizing x s with
  | zero => rfl
  | succ n ih => rw [moves, ih]; rfl
theorem move_lt (x : Nat) (s : List UInt8) : (moveB x s).1 < 4294967296 := by
  unfold moveB; have := (s.getD 0 0).toNat_lt; simp only; omega
theorem first4 (s : List UInt8) : first 4 s = (s.getD 0 0).toNat * 16777216 + (s.getD 1 0).toNat * 65536 + (s.getD 2 0).toNat * 256 + (s.getD 3 0).toNat := by
  simp [first, List.getD_eq_getElem?_getD]; omega
theorem moves_four (s : List UInt8) : moves 4 0 s = (first 4 s, s.drop 4) := by
  rw [first4]
  have h0 := (s.getD 0 0).toNat_lt
  have h1 := (s.getD 1 0).toNat_lt
  have h2 := (s.getD 2 0).toNat_lt
  have h3 := (s.getD 3 0).toNat_lt
  simp only [moves, moveB, List.drop_drop, List.getD_eq_getElem?_getD, List.getElem?_drop] at *
  congr 1
  simp only [Nat.add_zero, Nat.reduceAdd] at *
  omega
theorem first_move (s : List UInt8) : moveB (first 4 s) (s.drop 4) = (first 4 (s.drop 1), s.drop 5) := by
  rw [first4, first4]
  have h0 := (s.getD 0 0).toNat_lt
  have h1 := (s.getD 1 0).toNat_lt
  have h2 := (s.getD 2 0).toNat_lt
  have h3 := (s.getD 3 0).toNat_lt
  simp only [moveB, List.drop_drop, List.getD_eq_getElem?_getD, List.getElem?_drop] at *
  congr 1
  simp only [Nat.add_zero, Nat.reduceAdd] at *
  omega
theorem first_moves (n : Nat) (s : List UInt8) : moves n (first 4 s) (s.drop 4) = (first 4 (s.drop n), s.drop (n + 4)) := by
  induction n with
  | zero => rfl
  | succ n ih => rw [moves_succ, ih]; have := first_move (s.drop n); rw [List.drop_drop, List.drop_drop, List.drop_drop] at this; rw [this]
/-- A decoder's bit. -/
structure Dec where
  a : Nat
  b : Nat
  x : Nat
  s : List UInt8
def fresh (s : List UInt8) : Dec := ⟨0, top, (moves 4 0 s).1, (moves 4 0 s).2⟩
def bitOf (d : Dec) (p : Nat) : Bool := decide (mid d.a d.b p < d.x)
def behind (d : Dec) (p : Nat) : Dec :=
  ⟨(part d.a d.b p (bitOf d p)).2.1, (part d.a d.b p (bitOf d p)).2.2, (moves (part d.a d.b p (bitOf d p)).1.length d.x d.s).1, (moves (part d.a d.b p (bitOf d p)).1.length d.x d.s).2⟩
def undo : Dec → List Nat → List Bool
  | _, [] => []
  | d, p :: l => bitOf d p :: undo (behind d p) l
def after : Dec → List Nat → Dec
  | d, [] => d
  | d, p :: l => after (behind d p) l
theorem after_snoc (d : Dec) (l : List Nat) (p : Nat) : after d (l ++ [p]) = behind (after d l) p := by
  induction l generalizing d with
  | nil => rfl
  | cons q l ih => exact ih _
theorem decode_snoc (d : Dec) (l : List Nat) (p : Nat) : undo d (l ++ [p]) = undo d l ++ [bitOf (after d l) p] := by
  induction l generalizing d with
  | nil => rfl
  | cons q l ih => simp [undo, after, ih]
theorem decode_len (d : Dec) (l : List Nat) : (undo d l).length = l.length := by
  induction l generalizing d with
  | nil => rfl
  | cons q l ih => simp [undo, ih]
/-- A decoder that may be. -/
def Fine (d : Dec) : Prop := Apart d.a d.b ∧ d.x < 4294967296
theorem moves_lt (n x : Nat) (s : List UInt8) (h : x < 4294967296) : (moves n x s).1 < 4294967296 := by
  cases n with
  | zero => exact h
  | succ n => rw [moves_succ]; exact move_lt _ _
theorem fine_fresh (s : List UInt8) : Fine (fresh s) := ⟨apart_all, moves_lt _ _ _ (by decide)⟩
theorem fine_behind {d : Dec} {p : Nat} (h : Fine d) (hp : p < 2048) : Fine (behind d p) := ⟨part_apart h.1 hp, moves_lt _ _ _ h.2⟩
theorem fine_after {d : Dec} {l : List Nat} (h : Fine d) (hl : ∀ p ∈ l, p < 2048) : Fine (after d l) := by
  induction l generalizing d with
  | nil => exact h
  | cons p l ih => exact ih (fine_behind h (hl p (by simp))) (fun q hq => hl q (by simp [hq]))
theorem first_cons (c : UInt8) (r : List UInt8) : first 4 (c :: r) = c.toNat * 16777216 + first 4 r / 256 := by
  rw [first4, first4]
  have h0 := (r.getD 0 0).toNat_lt
  have h1 := (r.getD 1 0).toNat_lt
  have h2 := (r.getD 2 0).toNat_lt
  have h3 := (r.getD 3 0).toNat_lt
  simp only [List.getD_cons_zero, List.getD_cons_succ] at *
  omega
theorem first_settle (f a b : Nat) (r : List UInt8) (hb : b < 4294967296) (h1 : (sttl f a b).2.1 ≤ first 4 r) (h2 : first 4 r ≤ (sttl f a b).2.2) :
    a ≤ first 4 ((sttl f a b).1 ++ r) ∧ first 4 ((sttl f a b).1 ++ r) ≤ b := by
  induction f generalizing a b with
  | zero => exact ⟨h1, h2⟩
  | succ f ih =>
    by_cases he : a / 16777216 = b / 16777216
    · rw [settle_yes he] at *
      have := ih _ _ (by omega) h1 h2
      rw [List.cons_append, first_cons]
      have e : (UInt8.ofNat (a / 16777216)).toNat = a / 16777216 := by simp; omega
      rw [e]; omega
    · rw [settle_no he] at *; exact ⟨h1, h2⟩
theorem first_part (a b p : Nat) (bit : Bool) (r : List UInt8) (h : Apart a b) (hp : p < 2048) (h1 : (part a b p bit).2.1 ≤ first 4 r) (h2 : first 4 r ≤ (part a b p bit).2.2) :
    a ≤ first 4 ((part a b p bit).1 ++ r) ∧ first 4 ((part a b p bit).1 ++ r) ≤ b ∧ decide (mid a b p < first 4 ((part a b p bit).1 ++ r)) = bit := by
  have hm := mid_le a b p h.1 hp
  have hb := h.2.1
  unfold part at *
  cases bit
  · rw [if_neg (by decide)] at *
    have := first_settle 4 a (mid a b p) r (by omega) h1 h2
    refine ⟨this.1, by omega, by simp; omega⟩
  · rw [if_pos rfl] at *
    have := first_settle 4 (mid a b p + 1) b r (by omega) h1 h2
    refine ⟨by omega, this.2, by simp; omega⟩
theorem first_four (a : Nat) (r : List UInt8) (h : a < 4294967296) : first 4 (four a ++ r) = a := by
  rw [first4]
  simp [four]; omega
theorem run_first (a b : Nat) (l : List (Bool × Nat)) (r : List UInt8) (h : Apart a b) (hl : ∀ x ∈ l, x.2 < 2048) :
    a ≤ first 4 ((run a b l).1 ++ (four (run a b l).2.1 ++ r)) ∧ first 4 ((run a b l).1 ++ (four (run a b l).2.1 ++ r)) ≤ b := by
  induction l generalizing a b with
  | nil => simp only [run, List.nil_append]; rw [first_four _ _ (by have := h.1; have := h.2.1; omega)]; exact ⟨Nat.le_refl _, h.1⟩
  | cons x l ih =>
    obtain ⟨c, q⟩ := x
    have hq := hl (c, q) (by simp)
    have := ih _ _ (part_apart (p := q) (bit := c) h hq) (fun y hy => hl y (by simp [hy]))
    have := first_part a b q c _ h hq this.1 this.2
    simp only [run, List.append_assoc]
    exact ⟨this.1, this.2.1⟩
theorem run_back (a b : Nat) (l : List (Bool × Nat)) (r t : List UInt8) (h : Apart a b) (hl : ∀ x ∈ l, x.2 < 2048) (ht : t = (run a b l).1 ++ (four (run a b l).2.1 ++ r)) :
    undo ⟨a, b, first 4 t, t.drop 4⟩ (l.map (·.2)) = l.map (·.1) := by
  induction l generalizing a b t with
  | nil => rfl
  | cons x l ih =>
    obtain ⟨c, q⟩ := x
    have hq := hl (c, q) (by simp)
    have h2 := run_first _ _ l r (part_apart (p := q) (bit := c) h hq) (fun y hy => hl y (by simp [hy]))
    have h3 := first_part a b q c _ h hq h2.1 h2.2
    simp only [run, List.append_assoc] at ht
    rw [← ht] at h3
    have hbit : bitOf ⟨a, b, first 4 t, t.drop 4⟩ q = c := h3.2.2
    simp only [List.map_cons, undo, hbit]
    congr 1
    have e : behind ⟨a, b, first 4 t, t.drop 4⟩ q = ⟨(part a b q c).2.1, (part a b q c).2.2, first 4 (t.drop (part a b q c).1.length), (t.drop (part a b q c).1.length).drop 4⟩ := by
      unfold behind; rw [hbit]; simp only [first_moves, List.drop_drop]
    rw [e]
    exact ih _ _ _ (part_apart h hq) (fun y hy => hl y (by simp [hy])) (by rw [ht]; simp)
/-- Decoding what was told. -/
theorem back (l : List (Bool × Nat)) (r : List UInt8) (hl : ∀ x ∈ l, x.2 < 2048) : undo (fresh (told l ++ r)) (l.map (·.2)) = l.map (·.1) := by
  unfold told fresh
  by_cases h : l = []
  · subst h; rfl
  · rw [if_neg h, moves_four]
    exact run_back 0 top l r _ apart_all hl (by simp)
end Go.Proofs.Ytkdkedgpchcfpaa.Range
