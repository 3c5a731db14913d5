/- Layer 24: how often symbols occur (mathematics); tokens in a row. -/
import Derived.Test.YtofmjcelmbkebaaAF4
namespace Go.Proofs.Ytofmjcelmbkebaa
open Go.ChangeShapes Go.WideShapes Go.ChangeAt Go.RowKit
set_option linter.unusedVariables false
set_option linter.unusedSimpArgs false
set_option maxRecDepth 100000
/-- A token. -/
structure Tk where
  k : Int
  b : Int
  l : Int
  d : Int
  r : Int
def Tk.ok (t : Tk) : Prop := Tok.OkTok t.k t.b t.l t.d t.r
instance (t : Tk) : Decidable t.ok := by unfold Tk.ok; infer_instance
def tkV (t : Tk) : Value := .agg #[.int .i64 t.k, .int .i64 t.b, .int .i64 t.l, .int .i64 t.d, .int .i64 t.r]
def tkAt (w : World) (x : Addr) (i : Nat) (t : Tk) : Prop :=
  w.cell? (x.add (i * 5)) = some (.int .i64 t.k) ∧ w.cell? ⟨(x.add (i * 5)).block, (x.add (i * 5)).off + 1, none⟩ = some (.int .i64 t.b) ∧ w.cell? ⟨(x.add (i * 5)).block, (x.add (i * 5)).off + 2, none⟩ = some (.int .i64 t.l) ∧
  w.cell? ⟨(x.add (i * 5)).block, (x.add (i * 5)).off + 3, none⟩ = some (.int .i64 t.d) ∧ w.cell? ⟨(x.add (i * 5)).block, (x.add (i * 5)).off + 4, none⟩ = some (.int .i64 t.r)
theorem tkAt.kept {w w' : World} {x : Addr} {i : Nat} {t : Tk} (h : tkAt w x i t) (hb : Below w.heap.size w w') : tkAt w' x i t := by
  obtain ⟨h0, h1, h2, h3, h4⟩ := h
  exact ⟨(hb.cell (cell_block h0)).trans h0, (hb.cell (cell_block h1)).trans h1, (hb.cell (cell_block h2)).trans h2, (hb.cell (cell_block h3)).trans h3, (hb.cell (cell_block h4)).trans h4⟩
def IsTk (w : World) (a : Option Addr) (l : List Tk) : Prop := l = [] ∨ ∃ x, a = some x ∧ ∀ i t, l[i]? = some t → tkAt w x i t
theorem IsTk.at {w : World} {a : Option Addr} {l : List Tk} (h : IsTk w a l) (k : Nat) (hk : k < l.length) : ∃ x : Addr, a = some x ∧ x.block < w.heap.size ∧ tkAt w x k l[k] := by
  rcases h with rfl | ⟨x, rfl, hc⟩
  · simp at hk
  · have h1 := hc k l[k] (by simp [hk])
    exact ⟨x, rfl, by have := cell_block h1.1; rwa [add_block] at this, h1⟩
theorem IsTk.kept {w w' : World} {a : Option Addr} {l : List Tk} (h : IsTk w a l) (hb : Below w.heap.size w w') : IsTk w' a l := by
  rcases h with rfl | ⟨x, rfl, hc⟩
  · exact .inl rfl
  · exact .inr ⟨x, rfl, fun i t ht => (hc i t ht).kept hb⟩
def symN (t : Tk) : Nat := (Tok.symTok t.k t.b t.l t.d t.r).toNat
theorem sym_ok (t : Tk) (h : t.ok) : Tok.symTok t.k t.b t.l t.d t.r = (symN t : Int) ∧ symN t ≤ 400 ∧ Tok.chk t.k t.b t.l t.d t.r = 0 ∧ (t.k = 1 → 1 ≤ t.d ∧ t.d ≤ 67108864) := by
  have hb : 0 ≤ Tok.symTok t.k t.b t.l t.d t.r ∧ Tok.symTok t.k t.b t.l t.d t.r ≤ 400 := by
    unfold Tok.symTok
    unfold Tk.ok at h
    rw [if_pos h]
    unfold Tok.OkTok at h
    rcases h with h | h | h
    · rw [if_pos h.1]; omega
    · have := Tok.slotL_le t.l.toNat (by omega) (by omega)
      rw [if_neg (by omega), if_pos h.1]; omega
    · have := Tok.slotL_le t.l.toNat (by omega) (by omega)
      rw [if_neg (by omega), if_neg (by omega)]; omega
  unfold symN
  refine ⟨by omega, by omega, ?_, fun hk => ?_⟩
  · unfold Tok.chk; exact if_pos h
  · unfold Tk.ok Tok.OkTok at h
    rcases h with h | h | h <;> omega
theorem sym_no (t : Tk) (h : ¬ t.ok) : Tok.chk t.k t.b t.l t.d t.r = 10 := by unfold Tok.chk; exact if_neg h
def bump (o : List Int) (i : Nat) : List Int := o.set i (o.getD i 0 + 1)
theorem bump_len (o : List Int) (i : Nat) : (bump o i).length = o.length := by simp [bump]
def tally (p : List Int × List Int) (t : Tk) : List Int × List Int := (bump p.1 (symN t), if t.k = 1 then bump p.2 (Slo.slotD t.d.toNat) else p.2)
/-- How often each symbol, and each distance slot, occurs. -/
def tl (l : List Tk) : List Int × List Int := l.foldl tally (List.replicate 401 0, List.replicate 52 0)
theorem tl_snoc (l : List Tk) (t : Tk) : tl (l ++ [t]) = tally (tl l) t := by simp [tl, List.foldl_append]
theorem snoc_ind {P : List Tk → Prop} (h0 : P []) (h1 : ∀ l t, P l → P (l ++ [t])) (l : List Tk) : P l := by
  rw [← List.reverse_reverse l]
  induction l.reverse with
  | nil => exact h0
  | cons a t ih => rw [List.reverse_cons]; exact h1 _ _ ih
theorem tl_len (l : List Tk) : (tl l).1.length = 401 ∧ (tl l).2.length = 52 := by
  refine snoc_ind (P := fun l => (tl l).1.length = 401 ∧ (tl l).2.length = 52) (by simp [tl]) (fun l t ih => ?_) l
  show (tl (l ++ [t])).1.length = 401 ∧ (tl (l ++ [t])).2.length = 52
  rw [tl_snoc]
  unfold tally
  refine ⟨by rw [bump_len]; exact ih.1, ?_⟩
  simp only
  split
  · rw [bump_len]; exact ih.2
  · exact ih.2
theorem bump_bd (o : List Int) (i n : Nat) (h : ∀ j, 0 ≤ o.getD j 0 ∧ o.getD j 0 ≤ n) : ∀ j, 0 ≤ (bump o i).getD j 0 ∧ (bump o i).getD j 0 ≤ (n + 1 : Nat) := by
  intro j
  unfold bump
  have h1 := h j
  have h2 := h i
  by_cases hi : i < o.length
  · rw [set_getD0 _ _ _ _ hi]
    split <;> omega
  · rw [List.set_eq_of_length_le (by omega)]; omega
theorem tl_bd (l : List Tk) : (∀ j, 0 ≤ (tl l).1.getD j 0 ∧ (tl l).1.getD j 0 ≤ l.length) ∧ (∀ j, 0 ≤ (tl l).2.getD j 0 ∧ (tl l).2.getD j 0 ≤ l.length) := by
  have hz : ∀ n j : Nat, (List.replicate n (0 : Int)).getD j 0 = 0 := fun n j => by
    simp only [List.getD_eq_getElem?_getD, List.getElem?_replicate]
    split <;> rfl
  refine snoc_ind (P := fun l => (∀ j, 0 ≤ (tl l).1.getD j 0 ∧ (tl l).1.getD j 0 ≤ l.length) ∧ (∀ j, 0 ≤ (tl l).2.getD j 0 ∧ (tl l).2.getD j 0 ≤ l.length)) ?_ (fun l t ih => ?_) l
  · refine ⟨fun j => ?_, fun j => ?_⟩
    · show 0 ≤ (List.replicate 401 (0 : Int)).getD j 0 ∧ (List.replicate 401 (0 : Int)).getD j 0 ≤ ((0 : Nat) : Int)
      rw [hz]; omega
    · show 0 ≤ (List.replicate 52 (0 : Int)).getD j 0 ∧ (List.replicate 52 (0 : Int)).getD j 0 ≤ ((0 : Nat) : Int)
      rw [hz]; omega
  · show (∀ j, 0 ≤ (tl (l ++ [t])).1.getD j 0 ∧ (tl (l ++ [t])).1.getD j 0 ≤ ((l ++ [t]).length : Nat)) ∧ (∀ j, 0 ≤ (tl (l ++ [t])).2.getD j 0 ∧ (tl (l ++ [t])).2.getD j 0 ≤ ((l ++ [t]).length : Nat))
    rw [tl_snoc, List.length_append]
    unfold tally
    refine ⟨bump_bd _ _ _ ih.1, ?_⟩
    simp only
    split
    · exact bump_bd _ _ _ ih.2
    · intro j
      have := ih.2 j
      simp only [List.length_singleton]
      omega
theorem tl_succ (l : List Tk) (k : Nat) (h : k < l.length) : tl (l.take (k + 1)) = tally (tl (l.take k)) l[k] := by
  rw [List.take_succ_eq_append_getElem h, tl_snoc]
end Go.Proofs.Ytofmjcelmbkebaa
