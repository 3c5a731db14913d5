import Derived.Test.YtmhjmoeeahepaaaGreatPP16
import Derived.Test.YtmhjmoeeahepaaaGreatPP12
/- Layer 9: read, Decode. -/
namespace Go.Proofs.YtmhjmoeeahepaaaGreat
open Go.ChangeShapes Go.WideShapes Go.ChangeAt Go.RowKit
set_option linter.unusedVariables false
set_option linter.unusedSimpArgs false
set_option maxRecDepth 100000
open KraftMath CanonMath
theorem dec_short {l : List Int} {row : List Bool} (h : check l 16 = 0) (hn : ∀ s, ¬ Hit l row s) {s : Nat} (hs : s < l.length) (hlt : row.length < len l s) : decL l row = (0, 0, 3) := by
  rw [decL_none h hn, if_pos]
  obtain ⟨t, ht, h0, hb⟩ := no_gap h hn ⟨s, hs, hlt⟩
  rw [List.any_eq_true]
  refine ⟨t, List.mem_range.2 ht, ?_⟩
  unfold shortAt
  rw [Bool.and_eq_true, decide_eq_true_iff]
  exact ⟨h0, hb⟩
theorem dec_form {l : List Int} {row : List Bool} (h : check l 16 = 0) (hn : ∀ s, ¬ Hit l row s) (hle : ∀ s, s < l.length → len l s ≤ row.length) : decL l row = (0, 0, 4) := by
  rw [decL_none h hn, if_neg]
  rw [List.any_eq_true]
  rintro ⟨t, ht, h2⟩
  have ht := List.mem_range.1 ht
  unfold shortAt at h2
  rw [Bool.and_eq_true, decide_eq_true_iff, begL_row] at h2
  obtain ⟨h0, h3, h4⟩ := h2
  have hl := hle t ht
  refine hn t ?_
  rw [hit_iff h]
  have e : len l t = row.length := by omega
  refine ⟨ht, h0, hl, ?_⟩
  rw [e, Nat.sub_self, Nat.pow_zero, Nat.div_one] at h4
  have hc := ok_c h ht
  rw [e] at hc ⊢
  rw [List.take_length, ← h4, val_msb _ _ hc]
theorem val_next (row : List Bool) (j : Nat) (hj : j < row.length) : val (row.take (j + 1)) = 2 * val (row.take j) + (row.getD j false).toNat := by
  rw [List.take_succ_eq_append_getElem hj, val_snoc]
  simp [List.getD_eq_getElem?_getD, hj]
theorem used_pos {l : List Int} (h : check l 16 = 0) : 1 ≤ l.length := by
  cases l with
  | nil => rcases ((check_ok [] 16).1 h).2.2.2.2 with ⟨h1, -⟩ | ⟨h1, -⟩ <;> simp [used] at h1
  | cons x l => simp
theorem step_none {l : List Int} {row : List Bool} {j : Nat} (h : check l 16 = 0) (hno : ∀ s, Hit l row s → j < len l s) (hs : ∀ s, s < l.length → ¬ (l.getD s 0 = ((j + 1 : Nat) : Int) ∧ (codesL l).getD s 0 = ((val (row.take (j + 1)) : Nat) : Int))) : ∀ s, Hit l row s → j + 1 < len l s := by
  intro s hh
  have h1 := hno s hh
  refine Nat.lt_of_le_of_ne h1 fun e => ?_
  have h2 := (hit_iff h).1 hh
  refine hs s h2.1 ⟨?_, ?_⟩
  · rw [lenI h h2.1, ← e]
  · rw [codes_at h h2.1, ← h2.2.2.2, ← e]
theorem step_hit {l : List Int} {row : List Bool} {j s : Nat} (h : check l 16 = 0) (hj : j < row.length) (hs : s < l.length) (h1 : l.getD s 0 = ((j + 1 : Nat) : Int)) (h2 : (codesL l).getD s 0 = ((val (row.take (j + 1)) : Nat) : Int)) : decL l row = ((s : Int), ((j + 1 : Nat) : Int), 0) := by
  rw [lenI h hs] at h1
  rw [codes_at h hs] at h2
  have e1 : len l s = j + 1 := by omega
  have e2 : code l s = val (row.take (j + 1)) := by omega
  have hh : Hit l row s := (hit_iff h).2 ⟨hs, by omega, by omega, by rw [e1, e2]⟩
  rw [decL_hit h hh, e1]
end Go.Proofs.YtmhjmoeeahepaaaGreat

/- Layer 9: Encode. -/
namespace Go.Proofs.YtmhjmoeeahepaaaGreat
open Go.ChangeShapes Go.WideShapes Go.ChangeAt Go.RowKit
set_option linter.unusedVariables false
set_option linter.unusedSimpArgs false
set_option maxRecDepth 100000
open KraftMath CanonMath
/-- May the number be encoded? -/
def goodS (l : List Int) (x : Int) : Bool := decide (0 ≤ x) && decide (x < l.length) && decide (l.getD x.toNat 0 ≠ 0)
def bitsS (l : List Int) (x : Int) : List Bool := msb (code l x.toNat) (len l x.toNat)
def encT (l syms : List Int) : List Bool := syms.flatMap (bitsS l)
def encL (l syms : List Int) : List Bool × Int := if check l 16 ≠ 0 then ([], check l 16) else if syms.all (goodS l) then (encT l syms, 0) else ([], 7)
theorem encT_take (l syms : List Int) (k : Nat) (h : k < syms.length) : encT l (syms.take (k + 1)) = encT l (syms.take k) ++ bitsS l (syms.getD k 0) := by
  rw [take_getD syms k h]; simp [encT]
theorem all_take (l syms : List Int) (k : Nat) (h : k < syms.length) (h1 : (syms.take k).all (goodS l) = true) (h2 : goodS l (syms.getD k 0) = true) : (syms.take (k + 1)).all (goodS l) = true := by
  rw [take_getD syms k h, List.all_append, h1]; simp only [List.all_cons, List.all_nil, h2]; rfl
theorem all_bad (l syms : List Int) (k : Nat) (h : k < syms.length) (h2 : goodS l (syms.getD k 0) = false) : syms.all (goodS l) = false := by
  rw [← Bool.not_eq_true]
  intro h3
  have := List.all_eq_true.1 h3 (syms.getD k 0) (by simp [List.getD_eq_getElem?_getD, h])
  rw [h2] at this; cases this
theorem encT_len {l : List Int} (h : check l 16 = 0) (syms : List Int) (hg : syms.all (goodS l) = true) : (encT l syms).length ≤ 16 * syms.length := by
  induction syms with
  | nil => simp [encT]
  | cons x t ih =>
    rw [List.all_cons, Bool.and_eq_true] at hg
    have := ih hg.2
    have e : encT l (x :: t) = bitsS l x ++ encT l t := by simp [encT]
    rw [e, List.length_append, List.length_cons]
    have h2 : (bitsS l x).length ≤ 16 := by
      unfold bitsS
      rw [msb_len]
      have hx := hg.1
      unfold goodS at hx
      simp only [Bool.and_eq_true, decide_eq_true_eq] at hx
      exact (ok_b h x.toNat (by omega)).2
    omega
theorem msb_part (c n k : Nat) (hk : k + 1 ≤ n) : (msb c n).take (n - (k + 1)) ++ [c / 2 ^ k % 2 == 1] = (msb c n).take (n - k) := by
  have h1 := takeB (msb c n) (n - (k + 1)) (by rw [msb_len]; omega)
  rw [show n - (k + 1) + 1 = n - k by omega] at h1
  rw [h1]
  congr 2
  have h2 := msb_drop c n (k + 1) hk
  rw [dropB _ _ (by rw [msb_len]; omega), msb] at h2
  exact (List.cons.inj h2).1.symm
end Go.Proofs.YtmhjmoeeahepaaaGreat

/- Bits and bytes, plainly. -/
namespace Go.Proofs.YtmhjmoeeahepaaaGreat.Bits
/-- The lowest n bits of x, the lowest one first. -/
def bitsOf (x : Nat) : Nat → List Bool
  | 0 => []
  | n + 1 => (x % 2 == 1) :: bitsOf (x / 2) n
/-- The word of bits, the first one lowest. -/
def wordOf : List Bool → Nat
  | [] => 0
  | b :: l => (if b then 1 else 0) + 2 * wordOf l
theorem bitsOf_length (x n : Nat) : (bitsOf x n).length = n := by
  induction n generalizing x with
  | zero => rfl
  | succ n ih => simp [bitsOf, ih]
theorem bitsOf_add (x n m : Nat) : bitsOf x (n + m) = bitsOf x n ++ bitsOf (x / 2 ^ n) m := by
  induction n generalizing x with
  | zero => simp [bitsOf]
  | succ n ih => rw [show n + 1 + m = (n + m) + 1 from by omega]; simp only [bitsOf, ih, List.cons_append]; rw [Nat.div_div_eq_div_mul, show 2 * 2 ^ n = 2 ^ (n + 1) from by rw [Nat.pow_succ]; omega]
theorem bitsOf_mod (x n : Nat) : bitsOf (x % 2 ^ n) n = bitsOf x n := by
  induction n generalizing x with
  | zero => rfl
  | succ n ih =>
    simp only [bitsOf]
    have h1 : x % 2 ^ (n + 1) % 2 = x % 2 := Nat.mod_mod_of_dvd _ ⟨2 ^ n, by rw [Nat.pow_succ]; omega⟩
    have h2 : x % 2 ^ (n + 1) / 2 = x / 2 % 2 ^ n := by
      rw [Nat.pow_succ, Nat.mul_comm, Nat.mod_mul_right_div_self]
    rw [h1, h2, ih]
theorem bitsOf_join (r x n m : Nat) (h : r < 2 ^ n) : bitsOf (r + x * 2 ^ n) (n + m) = bitsOf r n ++ bitsOf x m := by
  rw [bitsOf_add]
  have hp : 0 < 2 ^ n := Nat.two_pow_pos n
  congr 1
  · rw [← bitsOf_mod (r + x * 2 ^ n), Nat.add_mul_mod_self_right, bitsOf_mod]
  · rw [Nat.add_mul_div_right _ _ hp, Nat.div_eq_of_lt h, Nat.zero_add]
theorem wordOf_lt (l : List Bool) : wordOf l < 2 ^ l.length := by
  induction l with
  | nil => simp [wordOf]
  | cons b l ih => simp only [wordOf, List.length_cons, Nat.pow_succ]; split <;> omega
theorem wordOf_bitsOf (x n : Nat) : wordOf (bitsOf x n) = x % 2 ^ n := by
  induction n generalizing x with
  | zero => simp [bitsOf, wordOf, Nat.mod_one]
  | succ n ih =>
    simp only [bitsOf, wordOf, ih]
    rw [Nat.pow_succ, Nat.mul_comm (2 ^ n) 2, Nat.mod_mul]
    have : x % 2 = 0 ∨ x % 2 = 1 := by omega
    rcases this with h | h <;> simp [h]
theorem bitsOf_wordOf (l : List Bool) : bitsOf (wordOf l) l.length = l := by
  induction l with
  | nil => rfl
  | cons b l ih =>
    simp only [wordOf, List.length_cons, bitsOf]
    congr 1
    · cases b <;> simp <;> omega
    · rw [show ((if b = true then 1 else 0) + 2 * wordOf l) / 2 = wordOf l from by split <;> omega, ih]
theorem wordOf_append (a b : List Bool) : wordOf (a ++ b) = wordOf a + 2 ^ a.length * wordOf b := by
  induction a with
  | nil => simp [wordOf]
  | cons c a ih => simp only [List.cons_append, wordOf, ih, List.length_cons, Nat.pow_succ, Nat.mul_add]; rw [Nat.mul_comm (2 ^ a.length) 2, Nat.mul_assoc]; omega
theorem wordOf_take (l : List Bool) (n : Nat) : wordOf (l.take n) = wordOf l % 2 ^ n := by
  induction n generalizing l with
  | zero => simp [wordOf, Nat.mod_one]
  | succ n ih =>
    cases l with
    | nil => simp [wordOf]
    | cons b l =>
      simp only [List.take_succ_cons, wordOf, ih]
      rw [Nat.pow_succ, Nat.mul_comm (2 ^ n) 2, Nat.mod_mul]
      have e1 : ((if b = true then 1 else 0) + 2 * wordOf l) % 2 = if b = true then 1 else 0 := by split <;> omega
      have e2 : ((if b = true then 1 else 0) + 2 * wordOf l) / 2 = wordOf l := by split <;> omega
      rw [e1, e2]
theorem wordOf_drop (l : List Bool) (n : Nat) : wordOf (l.drop n) = wordOf l / 2 ^ n := by
  induction n generalizing l with
  | zero => simp
  | succ n ih =>
    cases l with
    | nil => simp [wordOf]
    | cons b l =>
      simp only [List.drop_succ_cons, wordOf, ih]
      rw [Nat.pow_succ, Nat.mul_comm (2 ^ n) 2, ← Nat.div_div_eq_div_mul]
      rw [show ((if b = true then 1 else 0) + 2 * wordOf l) / 2 = wordOf l from by split <;> omega]
/-- Bits as bytes, eight to a byte, the first one lowest; what lacks of the last one is 0. -/
def packF : Nat → List Bool → List UInt8
  | 0, _ => []
  | f + 1, l => if l = [] then [] else UInt8.ofNat (wordOf (l.take 8)) :: packF f (l.drop 8)
def pack (l : List Bool) : List UInt8 := packF l.length l
/-- The bits of bytes. -/
def spread : List UInt8 → List Bool
  | [] => []
  | b :: l => bitsOf b.toNat 8 ++ spread l
theorem spread_append (a b : List UInt8) : spread (a ++ b) = spread a ++ spread b := by
  induction a with
  | nil => rfl
  | cons c a ih => simp [spread, ih]
theorem spread_length (l : List UInt8) : (spread l).length = 8 * l.length := by
  induction l with
  | nil => rfl
  | cons c a ih => simp [spread, ih, bitsOf_length]; omega
theorem packF_nil (f : Nat) : packF f [] = [] := by cases f <;> simp [packF]
theorem packF_enough (f g : Nat) (l : List Bool) (h : l.length ≤ f) (k : l.length ≤ g) : packF f l = packF g l := by
  induction f generalizing g l with
  | zero => obtain rfl := List.eq_nil_of_length_eq_zero (l := l) (by omega); rw [packF_nil, packF_nil]
  | succ f ih =>
    cases g with
    | zero => obtain rfl := List.eq_nil_of_length_eq_zero (l := l) (by omega); rw [packF_nil, packF_nil]
    | succ g =>
      simp only [packF]
      split
      · rfl
      · rename_i hne
        have : 0 < l.length := List.length_pos_iff.2 hne
        rw [ih g (l.drop 8) (by simp; omega) (by simp; omega)]
theorem pack_nil : pack [] = [] := rfl
theorem pack_step (l : List Bool) (h : l ≠ []) : pack l = UInt8.ofNat (wordOf (l.take 8)) :: pack (l.drop 8) := by
  have hp : 0 < l.length := List.length_pos_iff.2 h
  unfold pack
  obtain ⟨n, hn⟩ : ∃ n, l.length = n + 1 := ⟨l.length - 1, by omega⟩
  rw [hn]
  simp only [packF, if_neg h]
  rw [packF_enough n (l.drop 8).length (l.drop 8) (by simp; omega) (by simp)]
theorem pack_byte (b : UInt8) (l : List Bool) : pack (bitsOf b.toNat 8 ++ l) = b :: pack l := by
  have h8 := bitsOf_length b.toNat 8
  rw [pack_step _ (by intro h; have := congrArg List.length h; simp [h8] at this)]
  rw [List.take_left' h8, List.drop_left' h8, wordOf_bitsOf, Nat.mod_eq_of_lt (by have := b.toNat_lt; omega)]
  simp
theorem pack_spread (bs : List UInt8) (l : List Bool) : pack (spread bs ++ l) = bs ++ pack l := by
  induction bs with
  | nil => rfl
  | cons b bs ih => simp only [spread, List.append_assoc, pack_byte, ih, List.cons_append]
theorem pack_few (l : List Bool) (h : l ≠ []) (h8 : l.length ≤ 8) : pack l = [UInt8.ofNat (wordOf l)] := by
  rw [pack_step l h, List.take_of_length_le h8, List.drop_eq_nil_of_le h8, pack_nil]
theorem pack_length (l : List Bool) : (pack l).length = (l.length + 7) / 8 := by
  generalize hn : l.length = n
  induction n using Nat.strongRecOn generalizing l with
  | _ n ih =>
    by_cases h : l = []
    · subst h; simp at hn; subst hn; rfl
    · have hp : 0 < l.length := List.length_pos_iff.2 h
      rw [pack_step l h, List.length_cons, ih (l.drop 8).length (by simp; omega) _ rfl]
      simp only [List.length_drop]; omega
/-- What bits are lacking of the last byte. -/
theorem spread_pack (l : List Bool) : ∃ k, k < 8 ∧ spread (pack l) = l ++ List.replicate k false ∧ (l.length + k) % 8 = 0 := by
  generalize hn : l.length = n
  induction n using Nat.strongRecOn generalizing l with
  | _ n ih =>
    by_cases h : l = []
    · subst h; simp at hn; subst hn; exact ⟨0, by omega, rfl, rfl⟩
    · have hp : 0 < l.length := List.length_pos_iff.2 h
      by_cases h8 : 8 ≤ l.length
      · obtain ⟨k, hk, e, hm⟩ := ih (l.drop 8).length (by simp; omega) (l.drop 8) rfl
        refine ⟨k, hk, ?_, by simp at hm; omega⟩
        rw [pack_step l h, spread, e]
        have hlt : wordOf (l.take 8) < 256 := by have := wordOf_lt (l.take 8); rw [List.length_take_of_le h8] at this; exact this
        rw [show (UInt8.ofNat (wordOf (l.take 8))).toNat = wordOf (l.take 8) from by simp; omega]
        have := bitsOf_wordOf (l.take 8)
        rw [List.length_take_of_le h8] at this
        rw [this, ← List.append_assoc, List.take_append_drop]
      · refine ⟨8 - l.length, by omega, ?_, by omega⟩
        have hlt : wordOf l < 2 ^ l.length := wordOf_lt l
        have hle : 2 ^ l.length ≤ 2 ^ 8 := Nat.pow_le_pow_right (by omega) (by omega)
        rw [pack_few l h (by omega), spread, spread, List.append_nil]
        rw [show (UInt8.ofNat (wordOf l)).toNat = wordOf l from by simp; omega]
        have e8 : 8 = l.length + (8 - l.length) := by omega
        conv => lhs; rw [e8]
        rw [bitsOf_add, bitsOf_wordOf, Nat.div_eq_of_lt hlt]
        congr 1
        generalize 8 - l.length = m
        clear e8
        induction m with
        | zero => rfl
        | succ m ih => simp [bitsOf, List.replicate_succ, ih]
end Go.Proofs.YtmhjmoeeahepaaaGreat.Bits
namespace Go.Proofs.YtmhjmoeeahepaaaGreat.Bits
theorem wordOf_spread_lt (bs : List UInt8) : wordOf (spread bs) < 2 ^ (8 * bs.length) := by have := wordOf_lt (spread bs); rwa [spread_length] at this
theorem wordOf_spread_snoc (bs : List UInt8) (b : UInt8) : wordOf (spread (bs ++ [b])) = wordOf (spread bs) + 2 ^ (8 * bs.length) * b.toNat := by
  rw [spread_append, wordOf_append, spread_length]
  simp only [spread, List.append_nil]
  rw [wordOf_bitsOf, Nat.mod_eq_of_lt (by have := b.toNat_lt; omega)]
theorem spread_take (bs : List UInt8) (n : Nat) : spread (bs.take n) = (spread bs).take (8 * n) := by
  induction n generalizing bs with
  | zero => simp [spread]
  | succ n ih =>
    cases bs with
    | nil => simp [spread]
    | cons b bs =>
      simp only [List.take_succ_cons, spread, ih]
      rw [List.take_append, bitsOf_length, List.take_of_length_le (l := bitsOf b.toNat 8) (by rw [bitsOf_length]; omega), show 8 * (n + 1) - 8 = 8 * n from by omega]
theorem spread_drop (bs : List UInt8) (n : Nat) : spread (bs.drop n) = (spread bs).drop (8 * n) := by
  induction n generalizing bs with
  | zero => simp
  | succ n ih =>
    cases bs with
    | nil => simp [spread]
    | cons b bs =>
      simp only [List.drop_succ_cons, spread, ih]
      rw [List.drop_append, bitsOf_length, List.drop_eq_nil_of_le («as» := bitsOf b.toNat 8) (by rw [bitsOf_length]; omega), List.nil_append, show 8 * (n + 1) - 8 = 8 * n from by omega]
/-- The word that a look at the next n bits tells: what lacks is 0. -/
def peek (l : List Bool) (n : Nat) : Nat := wordOf (l.take n)
theorem peek_lt (l : List Bool) (n : Nat) : peek l n < 2 ^ n := by
  have := wordOf_lt (l.take n)
  exact Nat.lt_of_lt_of_le this (Nat.pow_le_pow_right (by omega) (by simp; omega))
theorem mod_div_mod (W u n m : Nat) (h : u + n ≤ m) : W % 2 ^ m / 2 ^ u % 2 ^ n = W / 2 ^ u % 2 ^ n := by
  obtain ⟨k, rfl⟩ : ∃ k, m = u + n + k := ⟨m - (u + n), by omega⟩
  rw [Nat.pow_add, Nat.pow_add, Nat.mul_assoc, Nat.mod_mul_right_div_self, Nat.mod_mod_of_dvd _ ⟨2 ^ k, rfl⟩]
theorem peek_bytes (bs : List UInt8) (u n : Nat) (h : u + n ≤ 64) : wordOf (spread (bs.take 8)) / 2 ^ u % 2 ^ n = peek ((spread bs).drop u) n := by
  unfold peek
  rw [wordOf_take, wordOf_drop, spread_take, wordOf_take]
  exact mod_div_mod _ _ _ _ h
theorem spread_at (bs : List UInt8) (a : Nat) : (spread bs).drop a = (spread (bs.drop (a / 8))).drop (a % 8) := by
  rw [spread_drop, List.drop_drop]; congr 1; omega
end Go.Proofs.YtmhjmoeeahepaaaGreat.Bits

/- Layer 10: tables of codes: mathematics. -/
namespace Go.Proofs.YtmhjmoeeahepaaaGreat
set_option linter.unusedVariables false
set_option maxRecDepth 100000
open KraftMath CanonMath TurnMath Bits
theorem dec_short9 {l : List Int} {row : List Bool} (h : check l 16 = 0) (hn : ∀ s, ¬ Hit l row s) {s : Nat} (hs : s < l.length) (hlt : row.length < len l s) : decL l row = (0, 0, 3) := by
  rw [decL_none h hn, if_pos]
  obtain ⟨t, ht, h0, hb⟩ := no_gap h hn ⟨s, hs, hlt⟩
  rw [List.any_eq_true]
  refine ⟨t, List.mem_range.2 ht, ?_⟩
  unfold shortAt
  rw [Bool.and_eq_true, decide_eq_true_iff]
  exact ⟨h0, hb⟩
theorem dec_form9 {l : List Int} {row : List Bool} (h : check l 16 = 0) (hn : ∀ s, ¬ Hit l row s) (hle : ∀ s, s < l.length → len l s ≤ row.length) : decL l row = (0, 0, 4) := by
  rw [decL_none h hn, if_neg]
  rw [List.any_eq_true]
  rintro ⟨t, ht, h2⟩
  have ht := List.mem_range.1 ht
  unfold shortAt at h2
  rw [Bool.and_eq_true, decide_eq_true_iff, begL_row] at h2
  obtain ⟨h0, h3, h4⟩ := h2
  have hl := hle t ht
  refine hn t ?_
  rw [hit_iff h]
  have e : len l t = row.length := by omega
  refine ⟨ht, h0, hl, ?_⟩
  rw [e, Nat.sub_self, Nat.pow_zero, Nat.div_one] at h4
  have hc := ok_c h ht
  rw [e] at hc ⊢
  rw [List.take_length, ← h4, val_msb _ _ hc]
theorem word_msb (c : Nat) : ∀ n, wordOf (msb c n) = turn c n
  | 0 => rfl
  | n + 1 => by
    rw [msb, wordOf, word_msb c n, turn]
    by_cases h : c / 2 ^ n % 2 = 1
    · rw [h]; simp; omega
    · have h0 : c / 2 ^ n % 2 = 0 := by omega
      rw [h0]; simp
theorem word_inj {a b : List Bool} (h : a.length = b.length) (h2 : wordOf a = wordOf b) : a = b := by
  rw [← bitsOf_wordOf a, ← bitsOf_wordOf b, h, h2]
theorem bits_take (v n k : Nat) (h : k ≤ n) : (bitsOf v n).take k = bitsOf v k := by
  refine word_inj (by rw [List.length_take, bitsOf_length, bitsOf_length]; omega) ?_
  rw [wordOf_take, wordOf_bitsOf, wordOf_bitsOf, Nat.mod_mod_of_dvd _ (Nat.pow_dvd_pow 2 h)]
theorem begL_bits {v L c n : Nat} (hn : n ≤ L) : begL (bitsOf v L) (msb c n) = true ↔ v % 2 ^ n = turn c n := by
  unfold begL
  rw [msb_len, bitsOf_length, Bool.and_eq_true, decide_eq_true_iff, decide_eq_true_iff, bits_take v L n hn]
  constructor
  · rintro ⟨-, h⟩
    rw [← word_msb, ← h, wordOf_bitsOf]
  · intro h
    exact ⟨hn, word_inj (by rw [bitsOf_length, msb_len]) (by rw [wordOf_bitsOf, word_msb, h])⟩
/-- The entry of a number of L bits, as far as the first k symbols tell. -/
def entK (l : List Int) (L k v : Nat) : Nat × Nat := match (List.range k).find? (hitAt l (bitsOf v L)) with
  | some s => (s, len l s)
  | none => (0, 0)
theorem find_succ {α : Type} (p : Nat → Bool) (k : Nat) : (List.range (k + 1)).find? p = ((List.range k).find? p).or (if p k then some k else none) := by
  rw [List.range_succ, List.find?_append]
  simp only [List.find?_cons, List.find?_nil]
  cases p k <;> simp
theorem entK_succ {l : List Int} (h : check l 16 = 0) {L k v : Nat} (hk : k < l.length) : entK l L (k + 1) v = if hitAt l (bitsOf v L) k then (k, len l k) else entK l L k v := by
  unfold entK
  rw [find_succ (α := Nat)]
  cases hf : (List.range k).find? (hitAt l (bitsOf v L)) with
  | none =>
    simp only [Option.none_or]
    cases hitAt l (bitsOf v L) k <;> rfl
  | some s =>
    simp only [Option.some_or]
    have h1 := List.find?_some hf
    have h2 := List.mem_range.1 (List.mem_of_find?_eq_some hf)
    cases hh : hitAt l (bitsOf v L) k with
    | false => rfl
    | true =>
      have := hit_one h ((hitAt_iff (by omega)).1 h1) ((hitAt_iff hk).1 hh)
      omega
theorem hitAt_mod {l : List Int} {L k v : Nat} (hL : len l k ≤ L) : hitAt l (bitsOf v L) k = (decide (len l k ≠ 0) && decide (v % 2 ^ len l k = turn (code l k) (len l k))) := by
  unfold hitAt
  congr 1
  rw [Bool.eq_iff_iff, begL_bits hL, decide_eq_true_iff]
def entB (l : List Int) (L v : Nat) : Nat × Nat := entK l L l.length v
theorem entB_hit {l : List Int} (h : check l 16 = 0) {L v s : Nat} (hh : Hit l (bitsOf v L) s) : entB l L v = (s, len l s) := by
  unfold entB entK
  cases hf : (List.range l.length).find? (hitAt l (bitsOf v L)) with
  | none =>
    rw [List.find?_eq_none] at hf
    exact absurd ((hitAt_iff hh.1).2 hh) (by simpa using hf s (List.mem_range.2 hh.1))
  | some t =>
    have h1 := List.find?_some hf
    have h2 := List.mem_range.1 (List.mem_of_find?_eq_some hf)
    have : t = s := hit_one h ((hitAt_iff h2).1 h1) hh
    rw [this]
theorem entB_none {l : List Int} {L v : Nat} (hh : ∀ s, ¬ Hit l (bitsOf v L) s) : entB l L v = (0, 0) := by
  unfold entB entK
  cases hf : (List.range l.length).find? (hitAt l (bitsOf v L)) with
  | none => rfl
  | some t =>
    have h1 := List.find?_some hf
    have h2 := List.mem_range.1 (List.mem_of_find?_eq_some hf)
    exact absurd ((hitAt_iff h2).1 h1) (hh t)
def padL (rest : List Bool) (L : Nat) : List Bool := rest.take L ++ List.replicate (L - (rest.take L).length) false
theorem word_pad (a : List Bool) (k : Nat) : wordOf (a ++ List.replicate k false) = wordOf a := by
  rw [wordOf_append]
  have : wordOf (List.replicate k false) = 0 := by
    induction k with
    | zero => rfl
    | succ k ih => rw [List.replicate_succ, wordOf, ih]; rfl
  rw [this]; simp
theorem pad_len (rest : List Bool) (L : Nat) : (padL rest L).length = L := by
  unfold padL; rw [List.length_append, List.length_replicate, List.length_take]; omega
theorem bits_peek (rest : List Bool) (L : Nat) : bitsOf (peek rest L) L = padL rest L := by
  refine word_inj (by rw [bitsOf_length, pad_len]) ?_
  rw [wordOf_bitsOf, Nat.mod_eq_of_lt (peek_lt rest L)]
  unfold padL
  rw [word_pad]; rfl
theorem pad_take (rest : List Bool) (L n : Nat) (h : n ≤ rest.length) (hL : n ≤ L) : (padL rest L).take n = rest.take n := by
  unfold padL
  rw [List.take_append_of_le_length (by rw [List.length_take]; omega), List.take_take, Nat.min_eq_left hL]
/-- A full row begins with a code, if the codes leave no gap. -/
theorem full_hit {l : List Int} (h : check l 16 = 0) (hk : ksum 16 l = 65536) {row : List Bool} (hr : row.length ≤ 16) (hle : ∀ s, s < l.length → len l s ≤ row.length) : ∃ s, Hit l row s := by
  have htk : takes l (ord l) = ksum 16 l := by unfold ord; rw [takes_upto, ksum_below]
  rw [hk] at htk
  have hv := val_lt row
  have hp : 2 ^ row.length * 2 ^ (16 - row.length) = 2 ^ 16 := by rw [← Nat.pow_add, show row.length + (16 - row.length) = 16 by omega]
  have hq : 0 < 2 ^ (16 - row.length) := Nat.pow_pos (by decide)
  have hx : val row * 2 ^ (16 - row.length) < takes l (ord l) := by
    rw [htk, show (65536 : Nat) = 2 ^ 16 from rfl, ← hp]; exact Nat.mul_lt_mul_of_pos_right hv hq
  obtain ⟨s, hs, lo, hi⟩ := within l _ hx
  obtain ⟨m1, m2, m3, m4⟩ := (mem_ord l s).1 hs
  have hls := hle s m1
  refine ⟨s, (hit_iff h).2 ⟨m1, by omega, hls, ?_⟩⟩
  have e1 : 2 ^ (16 - len l s) = 2 ^ (row.length - len l s) * 2 ^ (16 - row.length) := by rw [← Nat.pow_add, show row.length - len l s + (16 - row.length) = 16 - len l s by omega]
  rw [e1, ← Nat.mul_assoc] at lo hi
  have lo2 := Nat.le_of_mul_le_mul_right lo hq
  have hi2 := Nat.lt_of_mul_lt_mul_right hi
  have hv2 := val_take row (len l s) row.length hls (Nat.le_refl _)
  rw [List.take_length] at hv2
  rw [← hv2]
  exact Nat.div_eq_of_lt_le lo2 hi2
def nextL (l : List Int) (L : Nat) (rest : List Bool) : Int × Int × Int :=
  if (entB l L (peek rest L)).2 = 0 then (0, 0, 4) else if rest.length < (entB l L (peek rest L)).2 then (0, 0, 3) else (((entB l L (peek rest L)).1 : Nat), ((entB l L (peek rest L)).2 : Nat), 0)
theorem pad_hit {l : List Int} (h : check l 16 = 0) {L : Nat} {rest : List Bool} {s : Nat} (hL : len l s ≤ L) (hr : len l s ≤ rest.length) : Hit l (padL rest L) s ↔ Hit l rest s := by
  rw [hit_iff h, hit_iff h, pad_len, pad_take rest L _ hr hL]
  exact ⟨fun ⟨a, b, c, d⟩ => ⟨a, b, hr, d⟩, fun ⟨a, b, c, d⟩ => ⟨a, b, hL, d⟩⟩
theorem single {l : List Int} (h : check l 16 = 0) (hu : used l = 1) (hk : ksum 16 l = 32768) : ∃ z, z < l.length ∧ len l z = 1 ∧ ∀ s, s < l.length → len l s ≠ 0 → s = z := by
  obtain ⟨-, -, -, hb, -⟩ := (check_ok l 16).1 h
  have hord := ord_length l hb
  rw [hu] at hord
  have htk : takes l (ord l) = ksum 16 l := by unfold ord; rw [takes_upto, ksum_below]
  obtain ⟨z, hz⟩ := List.length_eq_one_iff.1 hord
  have hzm : z ∈ ord l := by rw [hz]; simp
  obtain ⟨m1, m2, m3, m4⟩ := (mem_ord l z).1 hzm
  rw [hz, hk] at htk
  simp only [takes, Nat.add_zero] at htk
  refine ⟨z, m1, ?_, ?_⟩
  · refine Decidable.byContradiction fun hne => ?_
    have : 2 ^ (16 - len l z) ≤ 2 ^ 14 := Nat.pow_le_pow_right (by decide) (by omega)
    omega
  · intro s hs h0
    have : s ∈ ord l := (mem_ord l s).2 ⟨hs, by omega, (ok_b h s hs).2, by have := lenI h hs; omega⟩
    rw [hz] at this
    simpa using this
theorem next_dec {l : List Int} (h : check l 16 = 0) {L : Nat} (hL : ∀ s, s < l.length → len l s ≤ L) (hL16 : L ≤ 16) (hL1 : 1 ≤ L) (rest : List Bool) (hd : ∀ s, ¬ Hit l rest s → True) : nextL l L rest = (decL l rest : Int × Int × Int) := by
  unfold nextL
  by_cases hh : ∃ s, Hit l (padL rest L) s
  · obtain ⟨s, hs⟩ := hh
    have e := entB_hit h (L := L) (v := peek rest L) (s := s) (by rw [bits_peek]; exact hs)
    have hsl := hs.1
    have hs0 := hs.2.1
    rw [e]
    simp only
    rw [if_neg hs0]
    by_cases hr : rest.length < len l s
    · rw [if_pos hr]
      refine (dec_short9 h ?_ hsl hr).symm
      intro t ht
      have htl := ((hit_iff h).1 ht).2.2.1
      have := hit_one h ((pad_hit h (hL t ht.1) htl).2 ht) hs
      subst this
      omega
    · rw [if_neg hr]
      exact (decL_hit h ((pad_hit h (hL s hsl) (by omega)).1 hs)).symm
  · have hno : ∀ s, ¬ Hit l (padL rest L) s := fun s hs => hh ⟨s, hs⟩
    have e := entB_none (l := l) (L := L) (v := peek rest L) (by rw [bits_peek]; exact hno)
    rw [e]
    simp only [if_true]
    rcases ((check_ok l 16).1 h).2.2.2.2 with ⟨hu, hk⟩ | ⟨hu, hk⟩
    · obtain ⟨z, hz1, hz2, hz3⟩ := single h hu hk
      have hnr : ∀ s, ¬ Hit l rest s := by
        intro s hs
        exact hno s ((pad_hit h (hL s hs.1) (((hit_iff h).1 hs).2.2.1)).2 hs)
      by_cases hr : 1 ≤ rest.length
      · refine (dec_form9 h hnr ?_).symm
        intro s hs
        by_cases h0 : len l s = 0
        · omega
        · rw [hz3 s hs h0, hz2]; exact hr
      · exfalso
        have hre : rest = [] := List.length_eq_zero_iff.1 (by omega)
        subst hre
        refine hno z ((hit_iff h).2 ⟨hz1, by omega, by rw [pad_len, hz2]; exact hL1, ?_⟩)
        rw [hz2]
        have hc := code_first l z (by
          obtain ⟨-, -, -, hb, -⟩ := (check_ok l 16).1 h
          have hord := ord_length l hb
          rw [hu] at hord
          obtain ⟨y, hy⟩ := List.length_eq_one_iff.1 hord
          have hzm : z ∈ ord l := (mem_ord l z).2 ⟨hz1, by omega, by omega, by have := lenI h hz1; omega⟩
          rw [hy] at hzm ⊢
          simp at hzm
          subst hzm; rfl)
        rw [hc]
        unfold padL
        obtain ⟨M, rfl⟩ : ∃ M, L = M + 1 := ⟨L - 1, by omega⟩
        simp [List.replicate_succ, val]
    · exfalso
      obtain ⟨s, hs⟩ := full_hit h hk (row := padL rest L) (by rw [pad_len]; exact hL16) (by intro s hs; rw [pad_len]; exact hL s hs)
      exact hno s hs
end Go.Proofs.YtmhjmoeeahepaaaGreat
