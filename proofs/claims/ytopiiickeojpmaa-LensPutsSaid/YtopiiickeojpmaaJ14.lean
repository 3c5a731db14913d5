import Derived.Test.YtopiiickeojpmaaE4
import Derived.Test.YtopiiickeojpmaaJ13
/- Layer 9: the greatest of a row. -/
namespace Go.Proofs.Ytopiiickeojpmaa
open Go.ChangeShapes Go.WideShapes Go.ChangeAt Go.RowKit
set_option linter.unusedVariables false
set_option linter.unusedSimpArgs false
set_option maxRecDepth 100000
theorem maxs_step (l : List Int) (k : Nat) (hk : k < l.length) (M : Int) (h1 : ∀ x ∈ l.take k, x ≤ M) (h2 : M ∈ l.take k) : (∀ x ∈ l.take (k + 1), x ≤ max M (l.getD k 0)) ∧ max M (l.getD k 0) ∈ l.take (k + 1) := by
  rw [take_getD l k hk]
  constructor
  · intro x hx
    rcases List.mem_append.1 hx with hx | hx
    · have := h1 x hx; omega
    · rw [List.mem_singleton] at hx; omega
  · rcases Int.le_total M (l.getD k 0) with h | h
    · rw [Int.max_eq_right h]; simp
    · rw [Int.max_eq_left h]; exact List.mem_append_left _ h2
end Go.Proofs.Ytopiiickeojpmaa

/- Layer 9: read, Decode. -/
namespace Go.Proofs.Ytopiiickeojpmaa
open Go.ChangeShapes Go.WideShapes Go.ChangeAt Go.RowKit
set_option linter.unusedVariables false
set_option linter.unusedSimpArgs false
set_option maxRecDepth 100000
open KraftMath CanonMath
theorem dec_short {l : List Int} {row : List Bool} (h : check l 16 = 0) (hn : ∀ s, ¬ Hit l row s) {s : Nat} (hs : s < l.length) (hlt : row.length < len l s) : decL l row = (0, 0, 3) := by
  rw [decL_none h hn, if_pos]
  obtain ⟨t, ht, h0, hb⟩ := no_gap h hn ⟨s, hs, hlt⟩
  rw [List.any_eq_true]
  refine ⟨t, List.mem_range.2 ht, ?_⟩
  unfold shortAt
  rw [Bool.and_eq_true, decide_eq_true_iff]
  exact ⟨h0, hb⟩
theorem dec_form {l : List Int} {row : List Bool} (h : check l 16 = 0) (hn : ∀ s, ¬ Hit l row s) (hle : ∀ s, s < l.length → len l s ≤ row.length) : decL l row = (0, 0, 4) := by
  rw [decL_none h hn, if_neg]
  rw [List.any_eq_true]
  rintro ⟨t, ht, h2⟩
  have ht := List.mem_range.1 ht
  unfold shortAt at h2
  rw [Bool.and_eq_true, decide_eq_true_iff, begL_row] at h2
  obtain ⟨h0, h3, h4⟩ := h2
  have hl := hle t ht
  refine hn t ?_
  rw [hit_iff h]
  have e : len l t = row.length := by omega
  refine ⟨ht, h0, hl, ?_⟩
  rw [e, Nat.sub_self, Nat.pow_zero, Nat.div_one] at h4
  have hc := ok_c h ht
  rw [e] at hc ⊢
  rw [List.take_length, ← h4, val_msb _ _ hc]
theorem val_next (row : List Bool) (j : Nat) (hj : j < row.length) : val (row.take (j + 1)) = 2 * val (row.take j) + (row.getD j false).toNat := by
  rw [List.take_succ_eq_append_getElem hj, val_snoc]
  simp [List.getD_eq_getElem?_getD, hj]
theorem used_pos {l : List Int} (h : check l 16 = 0) : 1 ≤ l.length := by
  cases l with
  | nil => rcases ((check_ok [] 16).1 h).2.2.2.2 with ⟨h1, -⟩ | ⟨h1, -⟩ <;> simp [used] at h1
  | cons x l => simp
theorem step_none {l : List Int} {row : List Bool} {j : Nat} (h : check l 16 = 0) (hno : ∀ s, Hit l row s → j < len l s) (hs : ∀ s, s < l.length → ¬ (l.getD s 0 = ((j + 1 : Nat) : Int) ∧ (codesL l).getD s 0 = ((val (row.take (j + 1)) : Nat) : Int))) : ∀ s, Hit l row s → j + 1 < len l s := by
  intro s hh
  have h1 := hno s hh
  refine Nat.lt_of_le_of_ne h1 fun e => ?_
  have h2 := (hit_iff h).1 hh
  refine hs s h2.1 ⟨?_, ?_⟩
  · rw [lenI h h2.1, ← e]
  · rw [codes_at h h2.1, ← h2.2.2.2, ← e]
theorem step_hit {l : List Int} {row : List Bool} {j s : Nat} (h : check l 16 = 0) (hj : j < row.length) (hs : s < l.length) (h1 : l.getD s 0 = ((j + 1 : Nat) : Int)) (h2 : (codesL l).getD s 0 = ((val (row.take (j + 1)) : Nat) : Int)) : decL l row = ((s : Int), ((j + 1 : Nat) : Int), 0) := by
  rw [lenI h hs] at h1
  rw [codes_at h hs] at h2
  have e1 : len l s = j + 1 := by omega
  have e2 : code l s = val (row.take (j + 1)) := by omega
  have hh : Hit l row s := (hit_iff h).2 ⟨hs, by omega, by omega, by rw [e1, e2]⟩
  rw [decL_hit h hh, e1]
end Go.Proofs.Ytopiiickeojpmaa

/- Layer 9: Encode. -/
namespace Go.Proofs.Ytopiiickeojpmaa
open Go.ChangeShapes Go.WideShapes Go.ChangeAt Go.RowKit
set_option linter.unusedVariables false
set_option linter.unusedSimpArgs false
set_option maxRecDepth 100000
open KraftMath CanonMath
/-- May the number be encoded? -/
def goodS (l : List Int) (x : Int) : Bool := decide (0 ≤ x) && decide (x < l.length) && decide (l.getD x.toNat 0 ≠ 0)
def bitsS (l : List Int) (x : Int) : List Bool := msb (code l x.toNat) (len l x.toNat)
def encT (l syms : List Int) : List Bool := syms.flatMap (bitsS l)
def encL (l syms : List Int) : List Bool × Int := if check l 16 ≠ 0 then ([], check l 16) else if syms.all (goodS l) then (encT l syms, 0) else ([], 7)
theorem encT_take (l syms : List Int) (k : Nat) (h : k < syms.length) : encT l (syms.take (k + 1)) = encT l (syms.take k) ++ bitsS l (syms.getD k 0) := by
  rw [take_getD syms k h]; simp [encT]
theorem all_take (l syms : List Int) (k : Nat) (h : k < syms.length) (h1 : (syms.take k).all (goodS l) = true) (h2 : goodS l (syms.getD k 0) = true) : (syms.take (k + 1)).all (goodS l) = true := by
  rw [take_getD syms k h, List.all_append, h1]; simp only [List.all_cons, List.all_nil, h2]; rfl
theorem all_bad (l syms : List Int) (k : Nat) (h : k < syms.length) (h2 : goodS l (syms.getD k 0) = false) : syms.all (goodS l) = false := by
  rw [← Bool.not_eq_true]
  intro h3
  have := List.all_eq_true.1 h3 (syms.getD k 0) (by simp [List.getD_eq_getElem?_getD, h])
  rw [h2] at this; cases this
theorem encT_len {l : List Int} (h : check l 16 = 0) (syms : List Int) (hg : syms.all (goodS l) = true) : (encT l syms).length ≤ 16 * syms.length := by
  induction syms with
  | nil => simp [encT]
  | cons x t ih =>
    rw [List.all_cons, Bool.and_eq_true] at hg
    have := ih hg.2
    have e : encT l (x :: t) = bitsS l x ++ encT l t := by simp [encT]
    rw [e, List.length_append, List.length_cons]
    have h2 : (bitsS l x).length ≤ 16 := by
      unfold bitsS
      rw [msb_len]
      have hx := hg.1
      unfold goodS at hx
      simp only [Bool.and_eq_true, decide_eq_true_eq] at hx
      exact (ok_b h x.toNat (by omega)).2
    omega
theorem msb_part (c n k : Nat) (hk : k + 1 ≤ n) : (msb c n).take (n - (k + 1)) ++ [c / 2 ^ k % 2 == 1] = (msb c n).take (n - k) := by
  have h1 := takeB (msb c n) (n - (k + 1)) (by rw [msb_len]; omega)
  rw [show n - (k + 1) + 1 = n - k by omega] at h1
  rw [h1]
  congr 2
  have h2 := msb_drop c n (k + 1) hk
  rw [dropB _ _ (by rw [msb_len]; omega), msb] at h2
  exact (List.cons.inj h2).1.symm
end Go.Proofs.Ytopiiickeojpmaa
