/- Layer 21: the nearest sources are among the records of those that are less, and greater (mathematics). -/
import Derived.Test.YtpkidedepcnoaaaZ4
namespace Go.Proofs.Ytpkidedepcnoaaa
open Go.ChangeShapes Go.WideShapes Go.ChangeAt Go.RowKit
set_option linter.unusedVariables false
set_option linter.unusedSimpArgs false
set_option maxRecDepth 100000
/-- Of three ends in order the outer ones share what both neighbours do. -/
theorem mid_min {L : List UInt8} {a : List Nat} (h : IsSuf L a) (x y z : Nat) (hxy : x < y) (hyz : y < z) (hz : z < a.length) : comAt L (a.getD x 0) (a.getD z 0) = min (comAt L (a.getD x 0) (a.getD y 0)) (comAt L (a.getD y 0) (a.getD z 0)) := by
  have gl : ∀ j, j < a.length → a.getD j 0 < L.length := fun j hj => h.lt _ (getD_mem a j hj)
  have k1 := pw_getD h.inc x y hxy (by omega)
  have k2 := pw_getD h.inc y z hyz hz
  have l1 := gl x (by omega)
  have l2 := gl y (by omega)
  have l3 := gl z hz
  have m := com_mid L (a.getD x 0) (a.getD y 0) (a.getD z 0) (by omega) (by omega) (by omega) (by omega) (by omega)
  have t := com_trans L (a.getD x 0) (a.getD y 0) (a.getD z 0) (by omega) (by omega) (by omega)
  omega
/-- How much a place shares with place i, up to so much. -/
def shr (L : List UInt8) (i most p : Nat) : Nat := min (comAt L i p) most
def Cov (M : Nat → Option Nat) (k q : Nat) : Prop := ∃ n p, M n = some p ∧ k ≤ n ∧ q ≤ p
def Sound (f : Nat → Nat) (lw i : Nat) (M : Nat → Option Nat) : Prop := ∀ n p, M n = some p → lw ≤ p ∧ p < i ∧ f p = n ∧ 2 ≤ n
/-- Of all places that K tells the map covers each. -/
structure Inv (f : Nat → Nat) (lw i : Nat) (M : Nat → Option Nat) (K : Nat → Prop) : Prop where
  sound : Sound f lw i M
  cov : ∀ p, K p → lw ≤ p → p < i → 2 ≤ f p → Cov M (f p) p
def newM (M : Nat → Option Nat) (n p : Nat) : Nat → Option Nat := putM M n (max p ((M n).getD 0))
theorem Cov.put {M : Nat → Option Nat} {k q : Nat} (h : Cov M k q) (n p : Nat) : Cov (newM M n p) k q := by
  obtain ⟨n', p', h1, h2, h3⟩ := h
  by_cases e : n' = n
  · subst e
    refine ⟨n', max p ((M n').getD 0), by unfold newM putM; rw [if_pos rfl], h2, ?_⟩
    rw [h1, Option.getD_some]; omega
  · exact ⟨n', p', by unfold newM putM; rw [if_neg e]; exact h1, h2, h3⟩
theorem Cov.new (M : Nat → Option Nat) (n p k q : Nat) (hk : k ≤ n) (hq : q ≤ p) : Cov (newM M n p) k q :=
  ⟨n, _, by unfold newM putM; rw [if_pos rfl], hk, by omega⟩
theorem Cov.less {M : Nat → Option Nat} {k q k' q' : Nat} (h : Cov M k q) (hk : k' ≤ k) (hq : q' ≤ q) : Cov M k' q' := by
  obtain ⟨n, p, h1, h2, h3⟩ := h
  exact ⟨n, p, h1, by omega, by omega⟩
theorem Sound.put {f : Nat → Nat} {lw i : Nat} {M : Nat → Option Nat} (h : Sound f lw i M) (p : Nat) (h1 : lw ≤ p) (h2 : p < i) (h3 : 2 ≤ f p) : Sound f lw i (newM M (f p) p) := by
  intro n q hq
  unfold newM putM at hq
  by_cases e : n = f p
  · rw [if_pos e] at hq
    subst e
    cases hm : M (f p) with
    | none => rw [hm] at hq; simp at hq; subst hq; exact ⟨h1, h2, rfl, h3⟩
    | some u =>
      rw [hm, Option.getD_some] at hq
      injection hq with hq
      have hu := h _ _ hm
      by_cases e2 : u ≤ p
      · have : q = p := by omega
        subst this; exact ⟨h1, h2, rfl, h3⟩
      · have : q = u := by omega
        subst this; exact hu
  · rw [if_neg e] at hq
    exact h n q hq
theorem Inv.put {f : Nat → Nat} {lw i : Nat} {M : Nat → Option Nat} {K : Nat → Prop} (h : Inv f lw i M K) (p : Nat) (h1 : lw ≤ p) (h2 : p < i) (h3 : 2 ≤ f p) : Inv f lw i (newM M (f p) p) (fun q => K q ∨ q = p) :=
  ⟨h.sound.put p h1 h2 h3, fun q hq a b c => by
    rcases hq with hq | rfl
    · exact (h.cov q hq a b c).put _ _
    · exact Cov.new _ _ _ _ _ (Nat.le_refl _) (Nat.le_refl _)⟩
theorem Inv.mono {f : Nat → Nat} {lw i : Nat} {M : Nat → Option Nat} {K K' : Nat → Prop} (h : Inv f lw i M K) (hk : ∀ p, K' p → lw ≤ p → p < i → 2 ≤ f p → K p ∨ Cov M (f p) p) : Inv f lw i M K' :=
  ⟨h.sound, fun p hp a b c => (hk p hp a b c).elim (fun h2 => h.cov p h2 a b c) id⟩
/-- The nearest place so far, and that the map covers it. -/
def Bst (lw i : Nat) (M : Nat → Option Nat) (n : Nat) (best : Int) : Prop := best = (lw : Int) - 1 ∨ ∃ b : Nat, best = b ∧ lw ≤ b ∧ b < i ∧ Cov M n b
theorem Bst.less {lw i n n' : Nat} {M : Nat → Option Nat} {best : Int} (h : Bst lw i M n best) (hn : n' ≤ n) : Bst lw i M n' best := by
  rcases h with h | ⟨b, h1, h2, h3, h4⟩
  · exact .inl h
  · exact .inr ⟨b, h1, h2, h3, h4.less hn (Nat.le_refl _)⟩
/-- A place that is passed over is none, or is covered. -/
theorem skip_ok {f : Nat → Nat} {lw i : Nat} {M : Nat → Option Nat} {K : Nat → Prop} {n : Nat} {best : Int} (h : Inv f lw i M K) (hb : Bst lw i M n best) (p : Nat) (hf : f p ≤ n) (hp : i ≤ p ∨ (p : Int) ≤ best) : Inv f lw i M (fun q => K q ∨ q = p) :=
  h.mono (fun q hq a b c => by
    rcases hq with hq | rfl
    · exact .inl hq
    · right
      rcases hp with hp | hp
      · omega
      · rcases hb with hb | ⟨u, hb1, hb2, hb3, hb4⟩
        · omega
        · exact hb4.less hf (by omega))
/-- What is told of a map that covers all: the records. -/
theorem kept_iff {f : Nat → Nat} {lw i : Nat} {M : Nat → Option Nat} (h : Inv f lw i M (fun _ => True)) (n p : Nat) :
    (M n = some p ∧ ∀ n' p', M n' = some p' → n < n' → p' < p) ↔ (lw ≤ p ∧ p < i ∧ f p = n ∧ 2 ≤ n ∧ ∀ q, p < q → q < i → f q < n) := by
  constructor
  · rintro ⟨h1, h2⟩
    obtain ⟨a, b, c, d⟩ := h.sound n p h1
    refine ⟨a, b, c, d, fun q hq hqi => ?_⟩
    apply Classical.byContradiction
    intro hn
    obtain ⟨n', p', e1, e2, e3⟩ := h.cov q trivial (by omega) hqi (by omega)
    by_cases e : n' = n
    · subst e
      rw [h1] at e1; injection e1 with e1; omega
    · have := h2 n' p' e1 (by omega); omega
  · rintro ⟨a, b, c, d, e⟩
    obtain ⟨n', p', e1, e2, e3⟩ := h.cov p trivial a b (by omega)
    obtain ⟨a', b', c', d'⟩ := h.sound n' p' e1
    have hp : p' = p := by
      apply Classical.byContradiction
      intro hn
      have := e p' (by omega) b'
      omega
    subst hp
    refine ⟨by rw [← c, c']; exact e1, fun m q hm hlt => ?_⟩
    obtain ⟨a2, b2, c2, d2⟩ := h.sound m q hm
    apply Classical.byContradiction
    intro hn
    by_cases f2 : q = p'
    · subst f2; omega
    · have := e q (by omega) b2; omega
/-- The document's list: its records. -/
theorem atS_mem (L : List UInt8) (i most : Nat) (hm : 2 ≤ most) (hm2 : most ≤ 258) : ∀ D, 1 ≤ (atS L i most D).1 ∧ (∀ d, 1 ≤ d → d ≤ D → nAt L i most d ≤ (atS L i most D).1) ∧ ((atS L i most D).1 = 1 ∨ ∃ d, 1 ≤ d ∧ d ≤ D ∧ nAt L i most d = (atS L i most D).1) ∧
    (∀ n d : Nat, ((n : Int), (d : Int)) ∈ (atS L i most D).2 ↔ 1 ≤ d ∧ d ≤ D ∧ nAt L i most d = n ∧ 2 ≤ n ∧ ∀ d', 1 ≤ d' → d' < d → nAt L i most d' < n) ∧
    (∀ x ∈ (atS L i most D).2, ∃ n d : Nat, x = ((n : Int), (d : Int))) ∧ (atS L i most D).2.Pairwise (fun x y => x.1 < y.1)
  | 0 => by
    refine ⟨Nat.le_refl _, fun d h1 h2 => by omega, .inl rfl, fun n d => ?_, fun x hx => by simp [atS] at hx, by simp [atS]⟩
    constructor
    · intro h; simp [atS] at h
    · rintro ⟨h1, h2, -⟩; omega
  | D + 1 => by
    obtain ⟨h0, h1, h2, h3, h4, h5⟩ := atS_mem L i most hm hm2 D
    have e : atS L i most (D + 1) = if (atS L i most D).1 < nAt L i most (D + 1) then (nAt L i most (D + 1), (atS L i most D).2 ++ [(((nAt L i most (D + 1) : Nat) : Int), ((D + 1 : Nat) : Int))]) else atS L i most D := rfl
    rw [e]
    generalize atS L i most D = r at *
    by_cases hc : r.1 < nAt L i most (D + 1)
    · rw [if_pos hc]
      refine ⟨by simp only; omega, fun d a b => ?_, .inr ⟨D + 1, by omega, Nat.le_refl _, rfl⟩, fun n d => ?_, fun x hx => ?_, ?_⟩
      · by_cases f : d = D + 1
        · subst f; exact Nat.le_refl _
        · have := h1 d a (by omega); simp only; omega
      · simp only [List.mem_append, List.mem_singleton, Prod.mk.injEq]
        constructor
        · rintro (h | ⟨ha, hb⟩)
          · obtain ⟨a, b, c⟩ := (h3 n d).1 h
            exact ⟨a, by omega, c⟩
          · have ha : n = nAt L i most (D + 1) := by omega
            have hb : d = D + 1 := by omega
            subst ha hb
            exact ⟨by omega, Nat.le_refl _, rfl, by omega, fun d' a b => by have := h1 d' a (by omega); omega⟩
        · rintro ⟨a, b, c, d1, d2⟩
          by_cases f : d = D + 1
          · subst f; right; exact ⟨by omega, rfl⟩
          · left; exact (h3 n d).2 ⟨a, by omega, c, d1, d2⟩
      · rcases List.mem_append.1 hx with hx | hx
        · exact h4 x hx
        · rw [List.mem_singleton] at hx; exact ⟨_, _, hx⟩
      · rw [List.pairwise_append]
        refine ⟨h5, List.pairwise_singleton _ _, fun x hx y hy => ?_⟩
        rw [List.mem_singleton] at hy
        subst hy
        obtain ⟨n, d, rfl⟩ := h4 x hx
        obtain ⟨a, b, c, -⟩ := (h3 n d).1 hx
        have := h1 d a b
        simp only; omega
    · rw [if_neg hc]
      refine ⟨h0, fun d a b => ?_, ?_, fun n d => ?_, h4, h5⟩
      · by_cases f : d = D + 1
        · subst f; omega
        · exact h1 d a (by omega)
      · rcases h2 with h2 | ⟨d, a, b, c⟩
        · exact .inl h2
        · exact .inr ⟨d, a, by omega, c⟩
      · rw [h3 n d]
        constructor
        · rintro ⟨a, b, c⟩; exact ⟨a, by omega, c⟩
        · rintro ⟨a, b, c, d1, d2⟩
          by_cases f : d = D + 1
          · subst f
            rcases h2 with h2 | ⟨u, a2, b2, c2⟩
            · omega
            · have := d2 u a2 (by omega); omega
          · exact ⟨a, by omega, c, d1, d2⟩
/-- Two rising lists of the same things are the same. -/
theorem rise_eq (a b : List Mt) (ha : a.Pairwise (fun x y => x.1 < y.1)) (hb : b.Pairwise (fun x y => x.1 < y.1)) (h : ∀ x, x ∈ a ↔ x ∈ b) : a = b := by
  induction a generalizing b with
  | nil =>
    cases b with
    | nil => rfl
    | cons y b => have := (h y).2 List.mem_cons_self; simp at this
  | cons x a ih =>
    cases b with
    | nil => have := (h x).1 List.mem_cons_self; simp at this
    | cons y b =>
      have pa := List.pairwise_cons.1 ha
      have pb := List.pairwise_cons.1 hb
      have hxy : x = y := by
        rcases List.mem_cons.1 ((h x).1 List.mem_cons_self) with e | e
        · exact e
        · rcases List.mem_cons.1 ((h y).2 List.mem_cons_self) with e2 | e2
          · exact e2.symm
          · have := pa.1 y e2; have := pb.1 x e; omega
      subst hxy
      rw [ih b pa.2 pb.2 (fun z => ⟨fun hz => by
        rcases List.mem_cons.1 ((h z).1 (List.mem_cons_of_mem _ hz)) with e | e
        · subst e; have := pa.1 z hz; omega
        · exact e, fun hz => by
        rcases List.mem_cons.1 ((h z).2 (List.mem_cons_of_mem _ hz)) with e | e
        · subst e; have := pb.1 z hz; omega
        · exact e⟩)]
end Go.Proofs.Ytpkidedepcnoaaa
