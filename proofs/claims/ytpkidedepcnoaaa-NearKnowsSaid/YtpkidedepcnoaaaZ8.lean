/- Layer 21: rising. -/
import Derived.Test.YtpkidedepcnoaaaZ7
import Derived.Maps.RangeWalk
namespace Go.Proofs.Ytpkidedepcnoaaa
open Go.ChangeShapes Go.WideShapes Go.ChangeAt Go.RowKit Go.Maps
set_option linter.unusedVariables false
set_option linter.unusedSimpArgs false
set_option maxRecDepth 100000
theorem snoc_ind {P : List Mt → Prop} (nil : P []) (append_singleton : ∀ l x, P l → P (l ++ [x])) (l : List Mt) : P l := by
  have : ∀ n (l : List Mt), l.length = n → P l := by
    intro n
    induction n with
    | zero => intro l hl; rw [List.length_eq_zero_iff.1 hl]; exact nil
    | succ n ih =>
      intro l hl
      have hne : l ≠ [] := by intro e; subst e; simp at hl
      rw [← List.dropLast_concat_getLast hne]
      exact append_singleton _ _ (ih _ (by simp [hl]))
  exact this _ l rfl
/-- One match more of those that are kept: only if it is nearer than the last one. -/
def keepStep (out : List Mt) (x : Mt) : List Mt := if out.length = 0 ∨ x.2 < (out.getLastD (0, 0)).2 then out ++ [x] else out
def scanK (l : List Mt) : List Mt := l.foldl keepStep []
theorem scanK_snoc (l : List Mt) (x : Mt) : scanK (l ++ [x]) = keepStep (scanK l) x := by unfold scanK; rw [List.foldl_append]; rfl
theorem scanK_len : ∀ l : List Mt, (scanK l).length ≤ l.length := by
  intro l
  induction l using snoc_ind with
  | nil => simp [scanK]
  | append_singleton l x ih =>
    rw [scanK_snoc]
    unfold keepStep
    split
    · simp only [List.length_append]; simp; exact ih
    · simp only [List.length_append]; omega
theorem scanK_spec (l : List Mt) : l.Pairwise (fun x y => y.1 < x.1) → (∀ x, x ∈ scanK l ↔ x ∈ l ∧ ∀ y ∈ l, x.1 < y.1 → x.2 < y.2) ∧ (scanK l).Pairwise (fun x y => y.1 < x.1) ∧ (l ≠ [] → scanK l ≠ [] ∧ ∀ y ∈ l, ((scanK l).getLastD (0, 0)).2 ≤ y.2) := by
  induction l using snoc_ind with
  | nil => intro _; exact ⟨fun x => by simp [scanK], by simp [scanK], fun h => (h rfl).elim⟩
  | append_singleton l x ih =>
    intro hp
    rw [List.pairwise_append] at hp
    obtain ⟨hp1, -, hp2⟩ := hp
    obtain ⟨h1, h2, h3⟩ := ih hp1
    have hx : ∀ y ∈ l, x.1 < y.1 := fun y hy => hp2 y hy x (List.mem_singleton.2 rfl)
    have hold : ∀ z, z ∈ l → ((∀ y ∈ l, z.1 < y.1 → z.2 < y.2) ↔ ∀ y ∈ l ++ [x], z.1 < y.1 → z.2 < y.2) := by
      intro z hz
      constructor
      · intro h y hy hlt
        rcases List.mem_append.1 hy with hy | hy
        · exact h y hy hlt
        · rw [List.mem_singleton] at hy
          subst hy
          have := hx z hz; omega
      · intro h y hy hlt
        exact h y (List.mem_append_left _ hy) hlt
    rw [scanK_snoc]
    generalize scanK l = out at *
    unfold keepStep
    have hkeep : (out.length = 0 ∨ x.2 < (out.getLastD (0, 0)).2) ↔ ∀ y ∈ l, x.2 < y.2 := by
      by_cases hl : l = []
      · subst hl
        have : out = [] := by
          cases out with
          | nil => rfl
          | cons a b => have := (h1 a).1 List.mem_cons_self; simp at this
        subst this
        simp
      · obtain ⟨h4, h5⟩ := h3 hl
        constructor
        · rintro (h | h) y hy
          · exact (h4 (List.length_eq_zero_iff.1 h)).elim
          · have := h5 y hy; omega
        · intro h
          right
          have hm : out.getLastD (0, 0) ∈ out := by
            rw [List.getLastD_eq_getLast?, List.getLast?_eq_some_getLast h4]
            exact List.getLast_mem h4
          exact h _ ((h1 _).1 hm).1
    by_cases hc : out.length = 0 ∨ x.2 < (out.getLastD (0, 0)).2
    · rw [if_pos hc]
      have hk := hkeep.1 hc
      refine ⟨fun z => ?_, ?_, fun _ => ⟨by simp, fun y hy => ?_⟩⟩
      · rw [List.mem_append, List.mem_append, List.mem_singleton]
        constructor
        · rintro (h | rfl)
          · obtain ⟨ha, hb⟩ := (h1 z).1 h
            exact ⟨.inl ha, (hold z ha).1 hb⟩
          · refine ⟨.inr rfl, fun y hy hlt => ?_⟩
            rcases List.mem_append.1 hy with hy | hy
            · exact hk y hy
            · rw [List.mem_singleton] at hy; subst hy; omega
        · rintro ⟨ha | rfl, hb⟩
          · exact .inl ((h1 z).2 ⟨ha, (hold z ha).2 hb⟩)
          · exact .inr rfl
      · rw [List.pairwise_append]
        exact ⟨h2, List.pairwise_singleton _ _, fun a ha b hb => by rw [List.mem_singleton] at hb; subst hb; exact hx a ((h1 a).1 ha).1⟩
      · have e : (out ++ [x]).getLastD (0, 0) = x := by rw [List.getLastD_eq_getLast?]; simp
        rw [e]
        rcases List.mem_append.1 hy with hy | hy
        · have := hk y hy; omega
        · rw [List.mem_singleton] at hy; subst hy; omega
    · rw [if_neg hc]
      have hl : l ≠ [] := by
        intro e
        subst e
        exact hc (hkeep.2 (by simp))
      obtain ⟨h4, h5⟩ := h3 hl
      refine ⟨fun z => ?_, h2, fun _ => ⟨h4, fun y hy => ?_⟩⟩
      · rw [List.mem_append, List.mem_singleton]
        constructor
        · intro h
          obtain ⟨ha, hb⟩ := (h1 z).1 h
          exact ⟨.inl ha, (hold z ha).1 hb⟩
        · rintro ⟨ha | rfl, hb⟩
          · exact (h1 z).2 ⟨ha, (hold z ha).2 hb⟩
          · exact (hc (hkeep.2 (fun y hy => hb y (List.mem_append_left _ hy) (hx y hy)))).elim
      · rcases List.mem_append.1 hy with hy | hy
        · exact h5 y hy
        · rw [List.mem_singleton] at hy
          subst hy
          omega
/-- What the range over the map has told so far. -/
def AccOk (M : Nat → Option Nat) (i : Nat) (left : Lit → Bool) (acc : List Mt) : Prop :=
  (∀ kl, left kl = true → ∃ k : Nat, kl = .int .i64 (k : Int) ∧ (M k).isSome = true) ∧
  (∀ x ∈ acc, ∃ n p : Nat, x = ((n : Int), (i : Int) - (p : Int)) ∧ M n = some p ∧ left (.int .i64 (n : Int)) = false) ∧
  (∀ n p : Nat, M n = some p → left (.int .i64 (n : Int)) = true ∨ ((n : Int), (i : Int) - (p : Int)) ∈ acc) ∧
  acc.Pairwise (fun x y => x.1 ≠ y.1)
theorem AccOk.step {M : Nat → Option Nat} {i : Nat} {left : Lit → Bool} {acc : List Mt} (h : AccOk M i left acc) (k p : Nat) (hl : left (.int .i64 (k : Int)) = true) (hM : M k = some p) : AccOk M i (fun z => left z && !z.sameKey (.int .i64 (k : Int))) (acc ++ [((k : Int), (i : Int) - (p : Int))]) := by
  obtain ⟨h1, h2, h3, h4⟩ := h
  have hself : (Lit.int .i64 (k : Int)).sameKey (.int .i64 (k : Int)) = true := WideAt.sameKey_self trivial
  refine ⟨fun kl hkl => h1 kl (by simp only [Bool.and_eq_true] at hkl; exact hkl.1), fun x hx => ?_, fun n q hq => ?_, ?_⟩
  · rcases List.mem_append.1 hx with hx | hx
    · obtain ⟨n, q, e1, e2, e3⟩ := h2 x hx
      exact ⟨n, q, e1, e2, by simp only [e3, Bool.false_and]⟩
    · rw [List.mem_singleton] at hx
      exact ⟨k, p, hx, hM, by simp only [hself, Bool.not_true, Bool.and_false]⟩
  · by_cases e : n = k
    · subst e
      rw [hM] at hq
      injection hq with hq
      subst hq
      exact .inr (List.mem_append_right _ (List.mem_singleton.2 rfl))
    · rcases h3 n q hq with h | h
      · left
        have : (Lit.int .i64 (n : Int)).sameKey (.int .i64 (k : Int)) = false := sameKey_ne (by simp; omega)
        simp only [h, this, Bool.not_false, Bool.and_true]
      · exact .inr (List.mem_append_left _ h)
  · rw [List.pairwise_append]
    refine ⟨h4, List.pairwise_singleton _ _, fun a ha b hb => ?_⟩
    rw [List.mem_singleton] at hb
    subst hb
    obtain ⟨n, q, e1, e2, e3⟩ := h2 a ha
    rw [e1]
    intro e
    have : n = k := by have e := (show (n : Int) = (k : Int) by simpa using e); omega
    subst this
    rw [hl] at e3; cases e3
/-- What rising tells of a map. -/
def RisesTo (M : Nat → Option Nat) (i : Nat) (out : List Mt) : Prop :=
  out.Pairwise (fun x y => x.1 < y.1) ∧ (∀ x ∈ out, ∃ n p : Nat, x = ((n : Int), (i : Int) - (p : Int)) ∧ M n = some p) ∧ ∀ n p : Nat, ((n : Int), (i : Int) - (p : Int)) ∈ out ↔ (M n = some p ∧ ∀ n' p', M n' = some p' → n < n' → p' < p)
theorem rises_of {M : Nat → Option Nat} {i : Nat} {left : Lit → Bool} {acc l : List Mt} (h : AccOk M i left acc) (hz : ∀ kl, left kl = false) (hp : l.Perm acc) (hs : l.Pairwise (fun x y => y.1 ≤ x.1)) : RisesTo M i (scanK l).reverse := by
  obtain ⟨-, h2, h3, h4⟩ := h
  have hne : l.Pairwise (fun x y => x.1 ≠ y.1) := hp.symm.pairwise h4 (fun {a b} hab => Ne.symm hab)
  have hlt : l.Pairwise (fun x y => y.1 < x.1) := (hs.and hne).imp (fun ⟨a, b⟩ => by omega)
  obtain ⟨s1, s2, -⟩ := scanK_spec l hlt
  have hmem : ∀ x, x ∈ l ↔ ∃ n p : Nat, x = ((n : Int), (i : Int) - (p : Int)) ∧ M n = some p := fun x => by
    rw [hp.mem_iff]
    constructor
    · intro hx
      obtain ⟨n, p, e1, e2, -⟩ := h2 x hx
      exact ⟨n, p, e1, e2⟩
    · rintro ⟨n, p, rfl, e2⟩
      rcases h3 n p e2 with h | h
      · rw [hz] at h; cases h
      · exact h
  refine ⟨by rw [List.pairwise_reverse]; exact s2, fun x hx => ?_, fun n p => ?_⟩
  · rw [List.mem_reverse] at hx
    exact (hmem x).1 ((s1 x).1 hx).1
  · rw [List.mem_reverse, s1]
    constructor
    · rintro ⟨ha, hb⟩
      obtain ⟨n', p', e1, e2⟩ := (hmem _).1 ha
      simp only [Prod.mk.injEq] at e1
      have en : n = n' := by omega
      have ep : p = p' := by omega
      subst en; subst ep
      refine ⟨e2, fun m q hq hlt => ?_⟩
      have := hb _ ((hmem _).2 ⟨m, q, rfl, hq⟩) (by simp only; omega)
      simp only at this; omega
    · rintro ⟨ha, hb⟩
      refine ⟨(hmem _).2 ⟨n, p, rfl, ha⟩, fun y hy hlt => ?_⟩
      obtain ⟨m, q, rfl, hq⟩ := (hmem y).1 hy
      have := hb m q hq (by simp only at hlt; omega)
      simp only; omega
end Go.Proofs.Ytpkidedepcnoaaa
