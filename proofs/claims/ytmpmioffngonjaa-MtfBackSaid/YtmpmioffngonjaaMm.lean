/- Bytes moved to the front, plainly. -/
namespace Go.Proofs.Ytmpmioffngonjaa.MtfMath
/-- The one at a place first. -/
def moved (r : List UInt8) (k : Nat) : List UInt8 := r.getD k 0 :: (r.take k ++ r.drop (k + 1))
def all : List UInt8 := (List.range 256).map UInt8.ofNat
structure Fine (r : List UInt8) : Prop where
  len : r.length = 256
  nodup : r.Nodup
  has : ∀ b, b ∈ r
theorem fine_all : Fine all := by
  refine ⟨by simp [all], ?_, ?_⟩
  · unfold all
    rw [List.nodup_iff_pairwise_ne, List.pairwise_map]
    refine List.Pairwise.imp_of_mem ?_ (List.nodup_iff_pairwise_ne.1 List.nodup_range)
    intro a b ha hb hne e
    simp at ha hb
    have := congrArg UInt8.toNat e
    simp at this
    omega
  · intro b
    unfold all
    rw [List.mem_map]
    exact ⟨b.toNat, by simp; exact b.toNat_lt, by simp⟩
theorem take_drop (r : List UInt8) (k : Nat) (h : k < r.length) : r = r.take k ++ r.getD k 0 :: r.drop (k + 1) := by
  have e : r.getD k 0 = r[k] := by simp [List.getD_eq_getElem?_getD, h]
  rw [e, ← List.drop_eq_getElem_cons h, List.take_append_drop]
theorem moved_perm (r : List UInt8) (k : Nat) (h : k < r.length) : (moved r k).Perm r := by
  conv => rhs; rw [take_drop r k h]
  exact List.perm_middle.symm
theorem moved_length (r : List UInt8) (k : Nat) (h : k < r.length) : (moved r k).length = r.length := (moved_perm r k h).length_eq
theorem fine_moved (r : List UInt8) (k : Nat) (h : k < 256) (hr : Fine r) : Fine (moved r k) := by
  have hp := moved_perm r k (by rw [hr.len]; exact h)
  exact ⟨by rw [hp.length_eq, hr.len], hp.nodup_iff.2 hr.nodup, fun b => hp.mem_iff.2 (hr.has b)⟩
def moveL : List UInt8 → List UInt8 → List Nat
  | _, [] => []
  | r, b :: s => r.idxOf b :: moveL (moved r (r.idxOf b)) s
def backL : List UInt8 → List Nat → List UInt8
  | _, [] => []
  | r, k :: l => r.getD k 0 :: backL (moved r k) l
theorem idx_lt (r : List UInt8) (b : UInt8) (hr : Fine r) : r.idxOf b < 256 := by rw [← hr.len]; exact List.idxOf_lt_length_of_mem (hr.has b)
theorem get_idx (r : List UInt8) (b : UInt8) (hr : Fine r) : r.getD (r.idxOf b) 0 = b := by
  have h := List.idxOf_lt_length_of_mem (hr.has b)
  simp [List.getD_eq_getElem?_getD, h]
theorem idx_get (r : List UInt8) (k : Nat) (h : k < 256) (hr : Fine r) : r.idxOf (r.getD k 0) = k := by
  have h' : k < r.length := by rw [hr.len]; exact h
  have e : r.getD k 0 = r[k] := by simp [List.getD_eq_getElem?_getD, h']
  rw [e]
  exact List.Nodup.idxOf_getElem hr.nodup k h'
theorem moveL_length (r s : List UInt8) : (moveL r s).length = s.length := by
  induction s generalizing r with
  | nil => rfl
  | cons b s ih => simp [moveL, ih]
theorem backL_length (r : List UInt8) (l : List Nat) : (backL r l).length = l.length := by
  induction l generalizing r with
  | nil => rfl
  | cons b s ih => simp [backL, ih]
theorem moveL_lt (r s : List UInt8) (hr : Fine r) : ∀ k ∈ moveL r s, k < 256 := by
  induction s generalizing r with
  | nil => simp [moveL]
  | cons b s ih =>
    intro k hk
    simp only [moveL, List.mem_cons] at hk
    rcases hk with rfl | hk
    · exact idx_lt r b hr
    · exact ih _ (fine_moved r _ (idx_lt r b hr) hr) k hk
theorem back_move (r s : List UInt8) (hr : Fine r) : backL r (moveL r s) = s := by
  induction s generalizing r with
  | nil => rfl
  | cons b s ih => simp only [moveL, backL]; rw [get_idx r b hr, ih _ (fine_moved r _ (idx_lt r b hr) hr)]
theorem move_back (r : List UInt8) (l : List Nat) (hr : Fine r) (hl : ∀ k ∈ l, k < 256) : moveL r (backL r l) = l := by
  induction l generalizing r with
  | nil => rfl
  | cons k l ih =>
    have hk := hl k (List.mem_cons_self ..)
    simp only [moveL, backL]
    rw [idx_get r k hk hr, ih _ (fine_moved r k hk hr) (fun x hx => hl x (List.mem_cons_of_mem _ hx))]
theorem idx_head (r : List UInt8) (b c : UInt8) (h : r.head? = some c) : r.idxOf b = 0 ↔ b = c := by
  cases r with
  | nil => simp at h
  | cons x r =>
    simp at h; subst h
    rw [List.idxOf_cons]
    constructor
    · intro e; by_cases hx : x = b
      · exact hx.symm
      · rw [show (x == b) = false from beq_eq_false_iff_ne.2 hx, cond_false] at e; omega
    · rintro rfl; rw [show (b == b) = true from beq_iff_eq.2 rfl, cond_true]
theorem move_zero (r s : List UInt8) (hr : Fine r) (i : Nat) (h1 : 1 ≤ i) (h2 : i < s.length) : (moveL r s).getD i 0 = 0 ↔ s.getD i 0 = s.getD (i - 1) 0 := by
  induction s generalizing r i with
  | nil => simp at h2
  | cons b s ih =>
    have hf := fine_moved r _ (idx_lt r b hr) hr
    obtain ⟨i, rfl⟩ : ∃ j, i = j + 1 := ⟨i - 1, by omega⟩
    simp only [moveL, List.getD_cons_succ, Nat.add_sub_cancel]
    cases i with
    | zero =>
      cases s with
      | nil => simp at h2
      | cons c s =>
        simp only [moveL, List.getD_cons_zero]
        rw [idx_head _ c b (by unfold moved; rw [get_idx r b hr]; rfl)]
    | succ i =>
      rw [ih _ hf (i + 1) (by omega) (by simp at h2; omega), Nat.add_sub_cancel, List.getD_cons_succ]
/-- The row behind so many bytes; the row behind so many places. -/
def rowS : List UInt8 → List UInt8 → List UInt8
  | r, [] => r
  | r, b :: s => rowS (moved r (r.idxOf b)) s
def rowL : List UInt8 → List Nat → List UInt8
  | r, [] => r
  | r, k :: l => rowL (moved r k) l
theorem rowS_snoc (r s : List UInt8) (b : UInt8) : rowS r (s ++ [b]) = moved (rowS r s) ((rowS r s).idxOf b) := by
  induction s generalizing r with
  | nil => rfl
  | cons c s ih => exact ih _
theorem rowL_snoc (r : List UInt8) (l : List Nat) (k : Nat) : rowL r (l ++ [k]) = moved (rowL r l) k := by
  induction l generalizing r with
  | nil => rfl
  | cons c s ih => exact ih _
theorem moveL_snoc (r s : List UInt8) (b : UInt8) : moveL r (s ++ [b]) = moveL r s ++ [(rowS r s).idxOf b] := by
  induction s generalizing r with
  | nil => rfl
  | cons c s ih => simp only [List.cons_append, moveL, rowS, ih]
theorem backL_snoc (r : List UInt8) (l : List Nat) (k : Nat) : backL r (l ++ [k]) = backL r l ++ [(rowL r l).getD k 0] := by
  induction l generalizing r with
  | nil => rfl
  | cons c s ih => simp only [List.cons_append, backL, rowL, ih]
theorem fine_rowS (r s : List UInt8) (hr : Fine r) : Fine (rowS r s) := by
  induction s generalizing r with
  | nil => exact hr
  | cons b s ih => exact ih _ (fine_moved r _ (idx_lt r b hr) hr)
theorem fine_rowL (r : List UInt8) (l : List Nat) (hr : Fine r) (hl : ∀ k ∈ l, k < 256) : Fine (rowL r l) := by
  induction l generalizing r with
  | nil => exact hr
  | cons k l ih => exact ih _ (fine_moved r k (hl k (List.mem_cons_self ..)) hr) (fun x hx => hl x (List.mem_cons_of_mem _ hx))
end Go.Proofs.Ytmpmioffngonjaa.MtfMath
