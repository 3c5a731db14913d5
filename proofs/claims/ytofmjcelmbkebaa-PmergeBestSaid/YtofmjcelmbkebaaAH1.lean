/- The library's stable sort: the order by what a function says, then by the number itself; merging. -/
import Derived.Test.YtofmjcelmbkebaaK2
namespace Go.Proofs.Ytofmjcelmbkebaa.St
set_option linter.unusedVariables false
set_option maxRecDepth 100000

def lx (fr : Int → Int) (x y : Int) : Prop := fr x < fr y ∨ (fr x = fr y ∧ x < y)
instance (fr : Int → Int) (x y : Int) : Decidable (lx fr x y) := by unfold lx; exact inferInstance
theorem lx_trans {fr : Int → Int} {x y z : Int} (h : lx fr x y) (k : lx fr y z) : lx fr x z := by unfold lx at *; omega
theorem lx_irrefl {fr : Int → Int} {x : Int} : ¬ lx fr x x := by unfold lx; omega
theorem lx_asymm {fr : Int → Int} {x y : Int} (h : lx fr x y) (k : lx fr y x) : False := by unfold lx at *; omega
theorem lx_low {fr : Int → Int} {x y : Int} (h : x < y) : lx fr y x ↔ fr y < fr x := by unfold lx; omega
theorem lx_up {fr : Int → Int} {x y : Int} (h : x < y) : lx fr x y ↔ ¬ fr y < fr x := by unfold lx; omega
def Srt (fr : Int → Int) (l : List Int) : Prop := l.Pairwise (lx fr)
theorem srt_unique {fr : Int → Int} : ∀ (a b : List Int), Srt fr a → Srt fr b → a.Perm b → a = b
  | [], b, _, _, h => by simpa using h.symm.eq_nil.symm
  | x :: a, [], _, _, h => by have := h.length_eq; simp at this
  | x :: a, y :: b, ha, hb, h => by
    have hx : x ∈ y :: b := h.mem_iff.1 (by simp)
    have hy : y ∈ x :: a := h.mem_iff.2 (by simp)
    have ha' := List.pairwise_cons.1 ha
    have hb' := List.pairwise_cons.1 hb
    have e : x = y := by
      rcases List.mem_cons.1 hx with e | h1
      · exact e
      · rcases List.mem_cons.1 hy with e | h2
        · exact e.symm
        · exact (lx_asymm (ha'.1 y h2) (hb'.1 x h1)).elim
    subst e
    rw [srt_unique a b ha'.2 hb'.2 (List.Perm.cons_inv h)]
def insF (fr : Int → Int) (u : Int) : List Int → List Int
  | [] => [u]
  | v :: r => if lx fr u v then u :: v :: r else v :: insF fr u r
def sortF (fr : Int → Int) : List Int → List Int
  | [] => []
  | x :: l => insF fr x (sortF fr l)
theorem insF_perm (fr : Int → Int) (u : Int) : ∀ l, (insF fr u l).Perm (u :: l)
  | [] => List.Perm.refl _
  | v :: r => by
    unfold insF
    split
    · exact List.Perm.refl _
    · exact ((insF_perm fr u r).cons v).trans (List.Perm.swap u v r)
theorem sortF_perm (fr : Int → Int) : ∀ l, (sortF fr l).Perm l
  | [] => List.Perm.refl _
  | x :: l => (insF_perm fr x _).trans ((sortF_perm fr l).cons x)
theorem insF_srt (fr : Int → Int) (u : Int) : ∀ l, Srt fr l → (∀ v ∈ l, v ≠ u) → Srt fr (insF fr u l)
  | [], _, _ => by simp [insF, Srt]
  | v :: r, h, hn => by
    have h' := List.pairwise_cons.1 h
    unfold insF
    split
    · rename_i hlt
      refine List.pairwise_cons.2 ⟨fun z hz => ?_, h⟩
      rcases List.mem_cons.1 hz with rfl | hz
      · exact hlt
      · exact lx_trans hlt (h'.1 z hz)
    · rename_i hlt
      refine List.pairwise_cons.2 ⟨fun z hz => ?_, insF_srt fr u r h'.2 (fun w hw => hn w (by simp [hw]))⟩
      have hz' := (insF_perm fr u r).mem_iff.1 hz
      rcases List.mem_cons.1 hz' with rfl | hz'
      · have := hn v (by simp)
        unfold lx at *; omega
      · exact h'.1 z hz'
theorem sortF_srt (fr : Int → Int) : ∀ l : List Int, l.Nodup → Srt fr (sortF fr l)
  | [], _ => by simp [sortF, Srt]
  | x :: l, h => by
    have h' := List.nodup_cons.1 h
    refine insF_srt fr x _ (sortF_srt fr l h'.2) (fun v hv e => ?_)
    subst e
    exact h'.1 ((sortF_perm fr l).mem_iff.1 hv)
theorem asc_nodup {l : List Int} (h : l.Pairwise (· < ·)) : l.Nodup := h.imp (fun {a b} (hab : a < b) => (show a ≠ b by omega))
/-- Two places of a row are turned round. -/
theorem set_two (A B C : List Int) (u v : Int) : ((A ++ u :: (B ++ v :: C)).set A.length v).set (A.length + 1 + B.length) u = A ++ v :: (B ++ u :: C) := by
  rw [List.set_append_right _ _ (Nat.le_refl _), Nat.sub_self, List.set_cons_zero, List.set_append_right _ _ (by omega), show A.length + 1 + B.length - A.length = B.length + 1 by omega, List.set_cons_succ, List.set_append_right _ _ (Nat.le_refl _), Nat.sub_self, List.set_cons_zero]
theorem get_mid (A C : List Int) (u : Int) : (A ++ u :: C).getD A.length 0 = u := by
  simp [List.getD_eq_getElem?_getD]
theorem get_far (A B C : List Int) (u v : Int) : (A ++ u :: (B ++ v :: C)).getD (A.length + 1 + B.length) 0 = v := by
  have := get_mid (A ++ u :: B) C v
  rw [List.length_append, List.length_cons, List.append_assoc, List.cons_append] at this
  rw [show A.length + (B.length + 1) = A.length + 1 + B.length by omega] at this
  exact this
theorem cut_at (l : List Int) (i : Nat) (h : i < l.length) : ∃ a u b, l = a ++ u :: b ∧ a.length = i := by
  refine ⟨l.take i, l[i], l.drop (i + 1), ?_, List.length_take_of_le (by omega)⟩
  rw [← List.drop_eq_getElem_cons h, List.take_append_drop]
theorem cut_le (l : List Int) (i : Nat) (h : i ≤ l.length) : ∃ a b, l = a ++ b ∧ a.length = i :=
  ⟨l.take i, l.drop i, (List.take_append_drop _ _).symm, List.length_take_of_le h⟩
theorem srt_append {fr : Int → Int} {a b : List Int} : Srt fr (a ++ b) ↔ Srt fr a ∧ Srt fr b ∧ ∀ x ∈ a, ∀ y ∈ b, lx fr x y := List.pairwise_append
/-- The last of one row is behind the first of another one: all are. -/
theorem srt_cross {fr : Int → Int} {a b : List Int} (ha : Srt fr a) (hb : Srt fr b) (h : ∀ a' u v b', a = a' ++ [u] → b = v :: b' → lx fr u v) : ∀ x ∈ a, ∀ y ∈ b, lx fr x y := by
  intro x hx y hy
  rcases List.eq_nil_or_concat a with rfl | ⟨a', u, rfl⟩
  · simp at hx
  · cases b with
    | nil => simp at hy
    | cons v b' =>
      rw [List.concat_eq_append] at *
      have huv := h a' u v b' rfl rfl
      have h1 : x = u ∨ lx fr x u := by
        rcases List.mem_append.1 hx with hx | hx
        · exact .inr ((srt_append.1 ha).2.2 x hx u (by simp))
        · exact .inl (by simpa using hx)
      have h2 : y = v ∨ lx fr v y := by
        rcases List.mem_cons.1 hy with e | hy
        · exact .inl e
        · exact .inr ((List.pairwise_cons.1 hb).1 y hy)
      rcases h1 with rfl | h1 <;> rcases h2 with rfl | h2
      · exact huv
      · exact lx_trans huv h2
      · exact lx_trans h1 huv
      · exact lx_trans h1 (lx_trans huv h2)
def cmpV (a b : Int) : Int := if a < b then -1 else if b < a then 1 else 0
theorem cmpV_neg (a b : Int) : decide (cmpV a b < 0) = decide (a < b) := by
  unfold cmpV
  by_cases h : a < b
  · rw [if_pos h]; simp [h]
  · rw [if_neg h]
    split <;> simp [h]
end Go.Proofs.Ytofmjcelmbkebaa.St
