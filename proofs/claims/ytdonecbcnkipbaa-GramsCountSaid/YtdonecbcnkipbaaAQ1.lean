/- Layer 43: rows of bytes and how often they stand: mathematics. -/
import Derived.Test.YtdonecbcnkipbaaQm
import Derived.Test.YtdonecbcnkipbaaBase
namespace Go.Proofs.Ytdonecbcnkipbaa.Gm
open RollMath
set_option linter.unusedVariables false
abbrev Tx := List UInt8
abbrev Gr := List UInt8 × Nat
theorem lt_irr : ∀ a : Tx, Op.bytesLess a a = false
  | [] => rfl
  | x :: a => by rw [Op.bytesLess, lt_irr a]; simp
theorem lt_tri : ∀ a b : Tx, a ≠ b → Op.bytesLess a b = false → Op.bytesLess b a = true
  | [], [], h, _ => absurd rfl h
  | [], y :: b, _, h => by simp [Op.bytesLess] at h
  | x :: a, [], _, _ => rfl
  | x :: a, y :: b, hne, h => by
    rw [Op.bytesLess] at h ⊢
    simp only [Bool.or_eq_false_iff, decide_eq_false_iff_not, Bool.and_eq_false_iff] at h
    obtain ⟨h1, h2⟩ := h
    by_cases e : x = y
    · subst e
      have := lt_tri a b (fun e => hne (by rw [e])) (by rcases h2 with h2 | h2; (· simp at h2); (· exact h2))
      simp [this]
    · have h3 : y < x := by
        rw [UInt8.lt_iff_toNat_lt] at h1 ⊢
        have : x.toNat ≠ y.toNat := fun h => e (UInt8.toNat_inj.1 h)
        omega
      simp [h3]
theorem lt_tr : ∀ a b c : Tx, Op.bytesLess a b = true → Op.bytesLess b c = true → Op.bytesLess a c = true
  | _, [], _, h, _ => by simp [Op.bytesLess] at h
  | a, y :: b, [], _, h => by simp [Op.bytesLess] at h
  | [], y :: b, z :: c, _, _ => rfl
  | x :: a, y :: b, z :: c, h1, h2 => by
    rw [Op.bytesLess] at h1 h2 ⊢
    simp only [Bool.or_eq_true, decide_eq_true_eq, Bool.and_eq_true, beq_iff_eq, UInt8.lt_iff_toNat_lt] at h1 h2 ⊢
    rcases h1 with h1 | ⟨rfl, h1⟩ <;> rcases h2 with h2 | ⟨rfl, h2⟩
    · left; omega
    · left; exact h1
    · left; exact h2
    · right; exact ⟨rfl, lt_tr a b c h1 h2⟩
def ahd (a b : Gr) : Bool := decide (b.2 < a.2) || (decide (a.2 = b.2) && Op.bytesLess a.1 b.1)
theorem ahd_irr (a : Gr) : ahd a a = false := by simp [ahd, lt_irr]
theorem ahd_tr {a b c : Gr} (h1 : ahd a b = true) (h2 : ahd b c = true) : ahd a c = true := by
  unfold ahd at *
  simp only [Bool.or_eq_true, decide_eq_true_eq, Bool.and_eq_true] at h1 h2 ⊢
  rcases h1 with h1 | ⟨e1, h1⟩ <;> rcases h2 with h2 | ⟨e2, h2⟩
  · left; omega
  · left; omega
  · left; omega
  · right; exact ⟨by omega, lt_tr _ _ _ h1 h2⟩
theorem ahd_tri {a b : Gr} (h : a.1 ≠ b.1) (h1 : ahd a b = false) : ahd b a = true := by
  unfold ahd at *
  simp only [Bool.or_eq_false_iff, decide_eq_false_iff_not, Bool.and_eq_false_iff, Bool.or_eq_true, decide_eq_true_eq, Bool.and_eq_true] at h1 ⊢
  obtain ⟨h1, h2⟩ := h1
  rcases h2 with h2 | h2
  · left; omega
  · by_cases e : b.2 = a.2
    · right; exact ⟨e, lt_tri _ _ h h2⟩
    · left; omega
def wins (s : Tx) (k : Nat) : List Tx := (List.range (s.length + 1 - k)).map fun i => (s.drop i).take k
def allW (ls : List Tx) (k : Nat) : List Tx := ls.flatMap fun s => wins s k
theorem wins_len {s : Tx} {k : Nat} {t : Tx} (h : t ∈ wins s k) : t.length = k := by
  unfold wins at h
  simp only [List.mem_map, List.mem_range] at h
  obtain ⟨i, hi, rfl⟩ := h
  rw [List.length_take, List.length_drop]; omega
theorem allW_len {ls : List Tx} {k : Nat} {t : Tx} (h : t ∈ allW ls k) : t.length = k := by
  unfold allW at h
  obtain ⟨s, -, hs⟩ := List.mem_flatMap.1 h
  exact wins_len hs
theorem findTo_count (s p : Tx) : ∀ n, (findTo s p n).length = ((List.range n).map fun i => (s.drop i).take p.length).count p
  | 0 => rfl
  | n + 1 => by
    rw [List.range_succ, List.map_append, List.count_append, ← findTo_count s p n]
    show (if (s.drop n).take p.length = p then findTo s p n ++ [(n : Int)] else findTo s p n).length = _
    by_cases h : (s.drop n).take p.length = p
    · rw [if_pos h]; simp [h]
    · rw [if_neg h]; simp [h]
theorem find_count (s p : Tx) : (findL s p).length = (wins s p.length).count p := by
  unfold findL wins
  split
  · exact findTo_count s p _
  · rw [show s.length + 1 - p.length = 0 by omega]; rfl
/-- How often a row stands in all. -/
def manyL (ls : List Tx) (p : Tx) : Nat := (ls.map fun s => (findL s p).length).sum
theorem many_count (ls : List Tx) (p : Tx) : manyL ls p = (allW ls p.length).count p := by
  unfold manyL allW
  induction ls with
  | nil => rfl
  | cons s ls ih => rw [List.map_cons, List.sum_cons, ih, List.flatMap_cons, List.count_append, find_count]
/-- Where a gram belongs, from behind. -/
def atP (l : List Gr) (g : Gr) : Nat → Nat
  | 0 => 0
  | n + 1 => if ahd g (l.getD n ([], 0)) = true then atP l g n else n + 1
def putL (l : List Gr) (g : Gr) : List Gr := l.take (atP l g l.length) ++ [g] ++ l.drop (atP l g l.length)
theorem atP_le (l : List Gr) (g : Gr) : ∀ n, atP l g n ≤ n
  | 0 => Nat.le_refl _
  | n + 1 => by unfold atP; split; (· have := atP_le l g n; omega); (· omega)
theorem atP_above (l : List Gr) (g : Gr) : ∀ n j, atP l g n ≤ j → j < n → ahd g (l.getD j ([], 0)) = true
  | 0, j, _, h => by omega
  | n + 1, j, h1, h2 => by
    unfold atP at h1
    split at h1
    · by_cases e : j = n
      · subst e; assumption
      · exact atP_above l g n j h1 (by omega)
    · omega
theorem atP_below (l : List Gr) (g : Gr) : ∀ n, 0 < atP l g n → ahd g (l.getD (atP l g n - 1) ([], 0)) = false
  | 0, h => by simp [atP] at h
  | n + 1, h => by
    unfold atP at h ⊢
    split
    · rename_i hh
      rw [if_pos hh] at h
      exact atP_below l g n h
    · rename_i hh
      rw [Nat.add_sub_cancel]
      exact Bool.eq_false_iff.2 hh
theorem put_mem (l : List Gr) (g x : Gr) : x ∈ putL l g ↔ x = g ∨ x ∈ l := by
  unfold putL
  rw [List.mem_append, List.mem_append, List.mem_singleton]
  have : x ∈ l ↔ x ∈ l.take (atP l g l.length) ∨ x ∈ l.drop (atP l g l.length) := by
    rw [← List.mem_append, List.take_append_drop]
  rw [this]
  constructor
  · rintro ((h | h) | h)
    · exact .inr (.inl h)
    · exact .inl h
    · exact .inr (.inr h)
  · rintro (h | h | h)
    · exact .inl (.inr h)
    · exact .inl (.inl h)
    · exact .inr h
theorem put_sorted {l : List Gr} {g : Gr} (hs : l.Pairwise fun x y => ahd x y = true) (hg : ∀ x ∈ l, x.1 ≠ g.1) : (putL l g).Pairwise fun x y => ahd x y = true := by
  obtain ⟨a, ha⟩ : ∃ a, atP l g l.length = a := ⟨_, rfl⟩
  have hle : a ≤ l.length := by rw [← ha]; exact atP_le _ _ _
  have hup : ∀ x ∈ l.drop a, ahd g x = true := by
    intro x hx
    obtain ⟨j, hj, e⟩ := List.mem_iff_getElem.1 hx
    rw [List.length_drop] at hj
    have := atP_above l g l.length (a + j) (by omega) (by omega)
    rw [List.getD_eq_getElem?_getD, List.getElem?_eq_getElem (by omega)] at this
    rw [List.getElem_drop] at e
    rw [← e]; exact this
  have hdn : ∀ x ∈ l.take a, ahd x g = true := by
    intro x hx
    obtain ⟨j, hj, e⟩ := List.mem_iff_getElem.1 hx
    rw [List.length_take] at hj
    rw [List.getElem_take] at e
    have h1 : 0 < a := by omega
    have h2 := atP_below l g l.length (by omega)
    rw [ha, List.getD_eq_getElem?_getD, List.getElem?_eq_getElem (by omega), Option.getD_some] at h2
    have h3 := ahd_tri (fun h => hg _ (List.getElem_mem (show a - 1 < l.length by omega)) h.symm) h2
    by_cases e2 : j = a - 1
    · subst e2; rw [← e]; exact h3
    · rw [← e]
      exact ahd_tr (List.pairwise_iff_getElem.1 hs j (a - 1) (by omega) (by omega) (by omega)) h3
  unfold putL
  rw [ha, List.append_assoc, List.pairwise_append]
  refine ⟨hs.sublist (List.take_sublist _ _), ?_, ?_⟩
  · rw [List.singleton_append, List.pairwise_cons]
    exact ⟨hup, hs.sublist (List.drop_sublist _ _)⟩
  · intro x hx y hy
    rw [List.mem_append, List.mem_singleton] at hy
    rcases hy with rfl | hy
    · exact hdn x hx
    · exact ahd_tr (hdn x hx) (hup y hy)
/-- out is the grams of q, in their order, counted in W. -/
def IsCount (W q : List Tx) (out : List Gr) : Prop := out.Pairwise (fun x y => ahd x y = true) ∧ ∀ g, g ∈ out ↔ g.1 ∈ q ∧ g.2 = W.count g.1
theorem unique_sorted : ∀ (a b : List Gr), a.Pairwise (fun x y => ahd x y = true) → b.Pairwise (fun x y => ahd x y = true) → (∀ g, g ∈ a ↔ g ∈ b) → a = b
  | [], [], _, _, _ => rfl
  | [], y :: b, _, _, h => by have := (h y).2 (by simp); simp at this
  | x :: a, [], _, _, h => by have := (h x).1 (by simp); simp at this
  | x :: a, y :: b, h1, h2, h => by
    rw [List.pairwise_cons] at h1 h2
    have e : x = y := by
      have hx := (h x).1 (by simp)
      have hy := (h y).2 (by simp)
      rcases List.mem_cons.1 hx with hx | hx
      · exact hx
      · rcases List.mem_cons.1 hy with hy | hy
        · exact hy.symm
        · have := ahd_tr (h1.1 y hy) (h2.1 x hx)
          rw [ahd_irr] at this; simp at this
    subst e
    have : a = b := by
      refine unique_sorted a b h1.2 h2.2 (fun g => ⟨fun hg => ?_, fun hg => ?_⟩)
      · rcases List.mem_cons.1 ((h g).1 (List.mem_cons_of_mem _ hg)) with e | e
        · subst e; have := h1.1 g hg; rw [ahd_irr] at this; simp at this
        · exact e
      · rcases List.mem_cons.1 ((h g).2 (List.mem_cons_of_mem _ hg)) with e | e
        · subst e; have := h2.1 g hg; rw [ahd_irr] at this; simp at this
        · exact e
    rw [this]
theorem count_unique {W q : List Tx} {a b : List Gr} (h1 : IsCount W q a) (h2 : IsCount W q b) : a = b := unique_sorted a b h1.1 h2.1 (fun g => by rw [h1.2, h2.2])
/-- The document's step. -/
def metL (l : List Gr) (s : Tx) : Bool := l.any fun g => decide (g.1 = s)
def stepD (ls : List Tx) (out : List Gr) (s : Tx) : List Gr := if metL out s = true then out else putL out (s, manyL ls s)
theorem met_iff {W q : List Tx} {out : List Gr} (h : IsCount W q out) (s : Tx) : metL out s = true ↔ s ∈ q := by
  unfold metL
  rw [List.any_eq_true]
  constructor
  · rintro ⟨g, hg, e⟩
    have := (h.2 g).1 hg
    rw [← of_decide_eq_true e]; exact this.1
  · intro hs
    exact ⟨(s, W.count s), (h.2 _).2 ⟨hs, rfl⟩, by simp⟩
theorem step_count {ls : List Tx} {k : Nat} {q : List Tx} {out : List Gr} {s : Tx} (h : IsCount (allW ls k) q out) (hs : s.length = k) : IsCount (allW ls k) (q ++ [s]) (stepD ls out s) := by
  have hm := met_iff h s
  have hmem : ∀ t : Tx, t ∈ q ++ [s] ↔ t ∈ q ∨ t = s := fun t => by simp
  unfold stepD
  by_cases e : metL out s = true
  · rw [if_pos e]
    refine ⟨h.1, fun g => ?_⟩
    rw [h.2, hmem]
    constructor
    · rintro ⟨a, b⟩; exact ⟨.inl a, b⟩
    · rintro ⟨a | a, b⟩
      · exact ⟨a, b⟩
      · exact ⟨by rw [a]; exact hm.1 e, b⟩
  · rw [if_neg e]
    have hq : s ∉ q := fun h => e (hm.2 h)
    refine ⟨put_sorted h.1 (fun x hx hh => hq (by have hh : x.1 = s := hh; rw [← hh]; exact ((h.2 x).1 hx).1)), fun g => ?_⟩
    rw [put_mem, h.2, hmem, many_count, hs]
    constructor
    · rintro (rfl | ⟨a, b⟩)
      · exact ⟨.inr rfl, rfl⟩
      · exact ⟨.inl a, b⟩
    · rintro ⟨a | a, b⟩
      · exact .inr ⟨a, b⟩
      · left; obtain ⟨g1, g2⟩ := g; simp only at a b; subst a; rw [b]
theorem fold_count (ls : List Tx) (k : Nat) : ∀ (r q : List Tx) (out : List Gr), (∀ s ∈ r, s.length = k) → IsCount (allW ls k) q out → IsCount (allW ls k) (q ++ r) (r.foldl (stepD ls) out)
  | [], q, out, _, h => by rw [List.append_nil]; exact h
  | s :: r, q, out, hr, h => by
    rw [List.foldl_cons, show q ++ s :: r = (q ++ [s]) ++ r by simp]
    exact fold_count ls k r (q ++ [s]) _ (fun s hs => hr s (List.mem_cons_of_mem _ hs)) (step_count h (hr s (by simp)))
/-- What is counted. -/
def cntL (ls : List Tx) (k : Nat) : List Gr := (allW ls k).foldl (stepD ls) []
theorem cnt_is (ls : List Tx) (k : Nat) : IsCount (allW ls k) (allW ls k) (cntL ls k) := by
  have := fold_count ls k (allW ls k) [] [] (fun s hs => allW_len hs) ⟨List.Pairwise.nil, fun g => by simp⟩
  exact this
/-- What the document builds. -/
def bldS (k : Nat) (size : Int) (out : Tx) (g : Gr) : Tx := if 2 ≤ g.2 ∧ (findL out g.1).length = 0 ∧ ((out.length + k : Nat) : Int) ≤ size then g.1 ++ out else out
def bldL (k : Nat) (size : Int) (l : List Gr) : Tx := l.foldl (bldS k size) []
theorem find_mem (out t : Tx) : (findL out t).length = 0 ↔ t ∉ wins out t.length := by
  rw [find_count, List.count_eq_zero]
theorem wins_more {t out : Tx} {k : Nat} (ht : t.length = k) (h1 : 1 ≤ k) (x : Tx) : x ∈ wins (t ++ out) k ↔ x ∈ wins (t ++ out.take (k - 1)) k ∨ x ∈ wins out k := by
  unfold wins
  simp only [List.mem_map, List.mem_range, List.length_append, List.length_take]
  constructor
  · rintro ⟨i, hi, rfl⟩
    by_cases h : i < k
    · left
      refine ⟨i, by omega, ?_⟩
      have e : (t ++ out.take (k - 1)) = (t ++ out).take (t.length + (k - 1)) := by rw [List.take_append, List.take_of_length_le (show t.length ≤ t.length + (k - 1) by omega), Nat.add_sub_cancel_left]
      rw [e, List.drop_take, List.take_take]
      congr 1
      omega
    · right
      refine ⟨i - k, by omega, ?_⟩
      rw [List.drop_append, List.drop_eq_nil_of_le (show t.length ≤ i by omega), List.nil_append, ht]
  · rintro (⟨i, hi, rfl⟩ | ⟨i, hi, rfl⟩)
    · refine ⟨i, by omega, ?_⟩
      have e : (t ++ out.take (k - 1)) = (t ++ out).take (t.length + (k - 1)) := by rw [List.take_append, List.take_of_length_le (show t.length ≤ t.length + (k - 1) by omega), Nat.add_sub_cancel_left]
      rw [e, List.drop_take, List.take_take]
      congr 1
      omega
    · refine ⟨i + k, by omega, ?_⟩
      rw [List.drop_append, List.drop_eq_nil_of_le (show t.length ≤ i + k by omega), List.nil_append, ht, Nat.add_sub_cancel]
/-- Once there is nothing that could be taken, nothing is. -/
theorem bld_stop (k : Nat) (size : Int) (out : Tx) : ∀ l : List Gr, (∀ g ∈ l, g.2 < 2 ∨ size < ((out.length + k : Nat) : Int)) → l.foldl (bldS k size) out = out
  | [], _ => rfl
  | g :: l, h => by
    have e : bldS k size out g = out := by
      unfold bldS
      rw [if_neg]
      intro hh
      rcases h g (by simp) with h | h <;> omega
    rw [List.foldl_cons, e]
    exact bld_stop k size out l (fun g hg => h g (List.mem_cons_of_mem _ hg))
theorem bld_le (k : Nat) (size : Int) (h0 : 0 ≤ size) : ∀ (l : List Gr) (out : Tx), (∀ g ∈ l, g.1.length = k) → (out.length : Int) ≤ size → ((l.foldl (bldS k size) out).length : Int) ≤ size
  | [], out, _, h => h
  | g :: l, out, hl, h => by
    rw [List.foldl_cons]
    refine bld_le k size h0 l _ (fun g hg => hl g (List.mem_cons_of_mem _ hg)) ?_
    unfold bldS
    split
    · rw [List.length_append, hl g (by simp)]; omega
    · exact h
theorem bld_few (k : Nat) (size : Int) : ∀ (l : List Gr) (out : Tx), (∀ g ∈ l, g.1.length = k) → (l.foldl (bldS k size) out).length ≤ out.length + k * l.length
  | [], out, _ => by simp
  | g :: l, out, hl => by
    rw [List.foldl_cons]
    refine Nat.le_trans (bld_few k size l _ (fun g hg => hl g (List.mem_cons_of_mem _ hg))) ?_
    rw [List.length_cons, Nat.mul_succ]
    unfold bldS
    split
    · rw [List.length_append, hl g (by simp)]; omega
    · omega
theorem bld_keeps (k : Nat) (size : Int) (h1 : 1 ≤ k) (x : Tx) : ∀ (l : List Gr) (out : Tx), (∀ g ∈ l, g.1.length = k) → x ∈ wins out k → x ∈ wins (l.foldl (bldS k size) out) k
  | [], out, _, h => h
  | g :: l, out, hl, h => by
    rw [List.foldl_cons]
    refine bld_keeps k size h1 x l _ (fun g hg => hl g (List.mem_cons_of_mem _ hg)) ?_
    unfold bldS
    split
    · exact (wins_more (hl g (by simp)) h1 x).2 (.inr h)
    · exact h
theorem bld_holds (k : Nat) (size : Int) (h1 : 1 ≤ k) : ∀ (l : List Gr) (out : Tx), (∀ g ∈ l, g.1.length = k) → ((out.length + k * l.length : Nat) : Int) ≤ size → ∀ g ∈ l, 2 ≤ g.2 → g.1 ∈ wins (l.foldl (bldS k size) out) k
  | [], out, _, _, g, hg, _ => by simp at hg
  | x :: l, out, hl, hs, g, hg, h2 => by
    rw [List.length_cons, Nat.mul_succ] at hs
    have hx := hl x (by simp)
    have hl' : ∀ g ∈ l, g.1.length = k := fun g hg => hl g (List.mem_cons_of_mem _ hg)
    have hlen : (bldS k size out x).length ≤ out.length + k := by
      unfold bldS; split
      · rw [List.length_append, hx]; omega
      · omega
    rw [List.foldl_cons]
    rcases List.mem_cons.1 hg with rfl | hg
    · refine bld_keeps k size h1 g.1 l _ hl' ?_
      unfold bldS
      by_cases hf : (findL out g.1).length = 0
      · rw [if_pos ⟨h2, hf, by omega⟩]
        refine (wins_more hx h1 g.1).2 (.inl ?_)
        unfold wins
        simp only [List.mem_map, List.mem_range, List.length_append]
        refine ⟨0, by omega, ?_⟩
        rw [List.drop_zero, List.take_append_of_le_length (by omega), List.take_of_length_le (by omega)]
      · rw [if_neg (fun h => hf h.2.1)]
        rw [find_mem, hx] at hf
        exact Classical.not_not.1 hf
    · exact bld_holds k size h1 l _ hl' (by omega) g hg h2
theorem cnt_len {ls : List Tx} {k : Nat} {g : Gr} (h : g ∈ cntL ls k) : g.1.length = k := allW_len (((cnt_is ls k).2 g).1 h).1
end Go.Proofs.Ytdonecbcnkipbaa.Gm
