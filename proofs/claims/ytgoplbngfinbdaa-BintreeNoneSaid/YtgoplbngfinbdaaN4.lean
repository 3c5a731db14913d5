/- Layer 22: trees in order, the latest on top (mathematics). -/
import Derived.Test.YtgoplbngfinbdaaN2
namespace Go.Proofs.Ytgoplbngfinbdaa
open Go.ChangeShapes Go.WideShapes Go.ChangeAt Go.RowKit
set_option linter.unusedVariables false
set_option linter.unusedSimpArgs false
set_option maxRecDepth 100000
/-- How much the ends at two places share, at most so much. -/
def cmn (L : List UInt8) (i whole p : Nat) : Nat := min (comAt L p i) whole
/-- Is the end at p less than that at i, by the byte behind what both share? -/
def ltB (L : List UInt8) (i n p : Nat) : Bool := decide ((L.getD (p + n) 0).toNat < (L.getD (i + n) 0).toNat)
def told (i p got best : Nat) (out : List Mt) : List Mt := if best < got then out ++ [((got : Int), ((i - p : Nat) : Int))] else out
/-- The walk down, as it is. -/
def desc (L : List UInt8) (i lo m most whole : Nat) : Nat → List Int → Nat → Nat → Nat → Nat → List Mt → List Int × List Mt
  | 0, lk, A, B, x, best, out => ((lk.set A 0).set B 0, out)
  | f + 1, lk, A, B, x, best, out =>
    if x ≤ lo then ((lk.set A 0).set B 0, out) else
    if cmn L i whole (x - 1) = whole then ((lk.set A (lk.getD ((x - 1) % m * 2) 0)).set B (lk.getD ((x - 1) % m * 2 + 1) 0), told i (x - 1) (min (cmn L i whole (x - 1)) most) best out) else
    if ltB L i (cmn L i whole (x - 1)) (x - 1) = true then desc L i lo m most whole f (lk.set A x) ((x - 1) % m * 2 + 1) B (lk.getD ((x - 1) % m * 2 + 1) 0).toNat (max best (min (cmn L i whole (x - 1)) most)) (told i (x - 1) (min (cmn L i whole (x - 1)) most) best out)
    else desc L i lo m most whole f (lk.set B x) A ((x - 1) % m * 2) (lk.getD ((x - 1) % m * 2) 0).toNat (max best (min (cmn L i whole (x - 1)) most)) (told i (x - 1) (min (cmn L i whole (x - 1)) most) best out)
/-- What it takes for granted. -/
def okD (L : List UInt8) (i lo m whole : Nat) : Nat → List Int → Nat → Nat → Nat → Nat → Nat → Prop
  | 0, lk, A, B, x, nL, nM => A ≠ B ∧ A < 2 * m ∧ B < 2 * m
  | f + 1, lk, A, B, x, nL, nM => (A ≠ B ∧ A < 2 * m ∧ B < 2 * m) ∧
    (x ≤ lo ∨ (x ≤ i ∧ min nL nM ≤ cmn L i whole (x - 1) ∧ (A ≠ (x - 1) % m * 2 ∧ A ≠ (x - 1) % m * 2 + 1 ∧ B ≠ (x - 1) % m * 2 ∧ B ≠ (x - 1) % m * 2 + 1) ∧ (cmn L i whole (x - 1) = whole ∨
      ((ltB L i (cmn L i whole (x - 1)) (x - 1) = true ∧ okD L i lo m whole f (lk.set A x) ((x - 1) % m * 2 + 1) B (lk.getD ((x - 1) % m * 2 + 1) 0).toNat (cmn L i whole (x - 1)) nM) ∨
       (ltB L i (cmn L i whole (x - 1)) (x - 1) = false ∧ okD L i lo m whole f (lk.set B x) A ((x - 1) % m * 2) (lk.getD ((x - 1) % m * 2) 0).toNat nL (cmn L i whole (x - 1)))))))
theorem okD_ab {L : List UInt8} {i lo m whole f : Nat} {lk : List Int} {A B x nL nM : Nat} (h : okD L i lo m whole f lk A B x nL nM) : A ≠ B ∧ A < 2 * m ∧ B < 2 * m := by
  cases f with
  | zero => exact h
  | succ f => exact h.1
def bdL (i : Nat) (lk : List Int) : Prop := ∀ j, 0 ≤ lk.getD j 0 ∧ lk.getD j 0 ≤ i
theorem bdL.set {i : Nat} {lk : List Int} (h : bdL i lk) (A x : Nat) (hx : x ≤ i) : bdL i (lk.set A (x : Int)) := by
  intro j
  have := h j
  simp only [List.getD_eq_getElem?_getD, List.getElem?_set] at this ⊢
  by_cases hA : A = j
  · subst hA
    by_cases hl : A < lk.length
    · simp [hl]; omega
    · simp [hl]
  · simp [hA]; exact this
/-- The first bytes of an end, as a number. -/
def pre (L : List UInt8) (p : Nat) : Nat → Nat
  | 0 => 0
  | k + 1 => pre L p k * 256 + (L.getD (p + k) 0).toNat
theorem pre_div (L : List UInt8) (p k : Nat) : pre L p (k + 1) / 256 = pre L p k := by
  have := (L.getD (p + k) 0).toNat_lt
  rw [pre]; omega
theorem pre_mono (L : List UInt8) (p q k : Nat) : ∀ n, k ≤ n → pre L p n ≤ pre L q n → pre L p k ≤ pre L q k
  | 0, hk, h => by
    have : k = 0 := by omega
    subst this; exact h
  | n + 1, hk, h => by
    by_cases e : k = n + 1
    · subst e; exact h
    · refine pre_mono L p q k n (by omega) ?_
      rw [← pre_div, ← pre_div L q]
      exact Nat.div_le_div_right h
theorem pre_down (L : List UInt8) (p q k n : Nat) (hk : k ≤ n) (h : pre L p n = pre L q n) : pre L p k = pre L q k :=
  Nat.le_antisymm (pre_mono L p q k n hk (by omega)) (pre_mono L q p k n hk (by omega))
theorem com_pre (L : List UInt8) (p i : Nat) : ∀ k, p + k ≤ L.length → i + k ≤ L.length → (pre L p k = pre L i k ↔ k ≤ comAt L p i)
  | 0, _, _ => by simp [pre]
  | k + 1, hp, hi => by
    have ih := com_pre L p i k (by omega) (by omega)
    constructor
    · intro h
      have h1 := ih.1 (pre_down L p i k (k + 1) (by omega) h)
      have h2 := pre_down L p i k (k + 1) (by omega) h
      rw [pre, pre, h2] at h
      exact (comAt_iff L p i k h1).2 ⟨by omega, by omega, UInt8.toNat_inj.1 (by omega)⟩
    · intro h
      have h2 := ih.2 (by omega)
      have h3 := ((comAt_iff L p i k (by omega)).1 (by omega)).2.2
      rw [pre, pre, h2, h3]
theorem pre_lt (L : List UInt8) (p i n : Nat) (hp : p + n ≤ L.length) (hi : i + n ≤ L.length) (hc : comAt L p i < n) (hb : (L.getD (p + comAt L p i) 0).toNat < (L.getD (i + comAt L p i) 0).toNat) : pre L p n < pre L i n := by
  have h1 := (com_pre L p i (comAt L p i) (by omega) (by omega)).2 (Nat.le_refl _)
  apply Classical.byContradiction
  intro h
  have h2 := pre_mono L i p (comAt L p i + 1) n (by omega) (by omega)
  rw [pre, pre] at h2
  omega
theorem com_comm : ∀ a b : List UInt8, com a b = com b a
  | [], [] => rfl
  | [], b :: ys => rfl
  | a :: xs, [] => rfl
  | a :: xs, b :: ys => by
    rw [com, com, com_comm xs ys]
    by_cases h : a = b
    · rw [if_pos h, if_pos h.symm]
    · rw [if_neg h, if_neg (fun e => h e.symm)]
theorem comAt_comm (L : List UInt8) (i k : Nat) : comAt L i k = comAt L k i := com_comm _ _
/-- How many bytes count at a place. -/
def whl (L : List UInt8) (p : Nat) : Nat := min 258 (L.length - p)
theorem whl_mono (L : List UInt8) {p i : Nat} (h : p ≤ i) : whl L i ≤ whl L p := by unfold whl; omega
inductive BT where
  | nil : BT
  | node : Nat → BT → BT → BT
def BT.ns : BT → List Nat
  | .nil => []
  | .node p l r => p :: (l.ns ++ r.ns)
theorem BT.mem_node {p q : Nat} {l r : BT} : q ∈ (BT.node p l r).ns ↔ q = p ∨ q ∈ l.ns ∨ q ∈ r.ns := by
  rw [BT.ns, List.mem_cons, List.mem_append]
/-- Which tree hangs at a root. -/
def Rep (lo m : Nat) (lk : List Int) : Nat → BT → Prop
  | x, .nil => x ≤ lo
  | x, .node p l r => x = p + 1 ∧ lo ≤ p ∧ Rep lo m lk (lk.getD (p % m * 2) 0).toNat l ∧ Rep lo m lk (lk.getD (p % m * 2 + 1) 0).toNat r
/-- In order, and the latest on top. -/
def Ord (L : List UInt8) : BT → Prop
  | .nil => True
  | .node p l r => (∀ q ∈ l.ns, q < p ∧ pre L q (whl L p) ≤ pre L p (whl L p)) ∧ (∀ q ∈ r.ns, q < p ∧ pre L p (whl L p) ≤ pre L q (whl L p)) ∧ (∀ q ∈ l.ns, q ∉ r.ns) ∧ Ord L l ∧ Ord L r
/-- What is less, and what is more. -/
def spl (L : List UInt8) (i : Nat) : BT → BT × BT
  | .nil => (.nil, .nil)
  | .node p l r => if cmn L i (whl L i) p = whl L i then (l, r) else
    if ltB L i (cmn L i (whl L i) p) p = true then (.node p l (spl L i r).1, (spl L i r).2)
    else ((spl L i l).1, .node p (spl L i l).2 r)
theorem spl_sub (L : List UInt8) (i : Nat) : ∀ tr : BT, (∀ q ∈ (spl L i tr).1.ns, q ∈ tr.ns) ∧ ∀ q ∈ (spl L i tr).2.ns, q ∈ tr.ns
  | .nil => ⟨fun q h => h, fun q h => h⟩
  | .node p l r => by
    have hl := spl_sub L i l
    have hr := spl_sub L i r
    rw [spl]
    split
    · exact ⟨fun q h => BT.mem_node.2 (.inr (.inl h)), fun q h => BT.mem_node.2 (.inr (.inr h))⟩
    · split
      · refine ⟨fun q h => ?_, fun q h => BT.mem_node.2 (.inr (.inr (hr.2 q h)))⟩
        rcases BT.mem_node.1 h with h | h | h
        · exact BT.mem_node.2 (.inl h)
        · exact BT.mem_node.2 (.inr (.inl h))
        · exact BT.mem_node.2 (.inr (.inr (hr.1 q h)))
      · refine ⟨fun q h => BT.mem_node.2 (.inr (.inl (hl.1 q h))), fun q h => ?_⟩
        rcases BT.mem_node.1 h with h | h | h
        · exact BT.mem_node.2 (.inl h)
        · exact BT.mem_node.2 (.inr (.inl (hl.2 q h)))
        · exact BT.mem_node.2 (.inr (.inr h))
theorem spl_ord (L : List UInt8) (i : Nat) : ∀ tr : BT, Ord L tr → Ord L (spl L i tr).1 ∧ Ord L (spl L i tr).2 ∧ ∀ q ∈ (spl L i tr).1.ns, q ∉ (spl L i tr).2.ns
  | .nil, _ => ⟨trivial, trivial, fun q h => by cases h⟩
  | .node p l r, h => by
    obtain ⟨h1, h2, h3, h4, h5⟩ := h
    have sl := spl_sub L i l
    have sr := spl_sub L i r
    have il := spl_ord L i l h4
    have ir := spl_ord L i r h5
    rw [spl]
    split
    · exact ⟨h4, h5, h3⟩
    · split
      · refine ⟨⟨h1, fun q hq => h2 q (sr.1 q hq), fun q hq hq2 => h3 q hq (sr.1 q hq2), h4, ir.1⟩, ir.2.1, fun q hq hq2 => ?_⟩
        rcases BT.mem_node.1 hq with e | e | e
        · subst e
          exact absurd (h2 q (sr.2 q hq2)).1 (Nat.lt_irrefl _)
        · exact h3 q e (sr.2 q hq2)
        · exact ir.2.2 q e hq2
      · refine ⟨il.1, ⟨fun q hq => h1 q (sl.2 q hq), h2, fun q hq => h3 q (sl.2 q hq), il.2.1, h5⟩, fun q hq hq2 => ?_⟩
        rcases BT.mem_node.1 hq2 with e | e | e
        · subst e
          exact absurd (h1 q (sl.1 q hq)).1 (Nat.lt_irrefl _)
        · exact il.2.2 q hq e
        · exact h3 q (sl.1 q hq) e
/-- Three ways that a place's end lies to that of a later one. -/
theorem key_cmp (L : List UInt8) (i p : Nat) (hp : p < i) (hi : i < L.length) : (cmn L i (whl L i) p = whl L i → pre L p (whl L i) = pre L i (whl L i)) ∧ (¬ cmn L i (whl L i) p = whl L i → (ltB L i (cmn L i (whl L i) p) p = true → pre L p (whl L i) < pre L i (whl L i)) ∧ (ltB L i (cmn L i (whl L i) p) p = false → pre L i (whl L i) < pre L p (whl L i))) := by
  have hw : whl L i ≤ L.length - i := by unfold whl; omega
  refine ⟨fun h => (com_pre L p i _ (by omega) (by omega)).2 (by unfold cmn at h; omega), fun h => ?_⟩
  have hc : cmn L i (whl L i) p = comAt L p i := by unfold cmn at h ⊢; omega
  have hlt : comAt L p i < whl L i := by unfold cmn at h; omega
  rw [hc]
  unfold ltB
  refine ⟨fun hd => pre_lt L p i _ (by omega) (by omega) hlt (of_decide_eq_true hd), fun hd => ?_⟩
  have hd := of_decide_eq_false hd
  have hne : (L.getD (p + comAt L p i) 0).toNat ≠ (L.getD (i + comAt L p i) 0).toNat := by
    intro e
    have := (comAt_iff L p i (comAt L p i) (Nat.le_refl _)).2 ⟨by omega, by omega, UInt8.toNat_inj.1 e⟩
    omega
  refine pre_lt L i p _ (by omega) (by omega) (by rw [comAt_comm]; exact hlt) ?_
  rw [comAt_comm]; omega
theorem spl_key (L : List UInt8) (i : Nat) (hi : i < L.length) : ∀ tr : BT, Ord L tr → (∀ q ∈ tr.ns, q < i) → (∀ q ∈ (spl L i tr).1.ns, pre L q (whl L i) ≤ pre L i (whl L i)) ∧ ∀ q ∈ (spl L i tr).2.ns, pre L i (whl L i) ≤ pre L q (whl L i)
  | .nil, _, _ => ⟨fun q h => (by cases h), fun q h => (by cases h)⟩
  | .node p l r, h, hlt => by
    obtain ⟨h1, h2, h3, h4, h5⟩ := h
    have hp := hlt p (BT.mem_node.2 (.inl rfl))
    have il := spl_key L i hi l h4 (fun q hq => hlt q (BT.mem_node.2 (.inr (.inl hq))))
    have ir := spl_key L i hi r h5 (fun q hq => hlt q (BT.mem_node.2 (.inr (.inr hq))))
    have hw := whl_mono L (Nat.le_of_lt hp)
    have k1 : ∀ q ∈ l.ns, pre L q (whl L i) ≤ pre L p (whl L i) := fun q hq => pre_mono L q p _ _ hw (h1 q hq).2
    have k2 : ∀ q ∈ r.ns, pre L p (whl L i) ≤ pre L q (whl L i) := fun q hq => pre_mono L p q _ _ hw (h2 q hq).2
    obtain ⟨kc1, kc2⟩ := key_cmp L i p hp hi
    rw [spl]
    split
    · rename_i he
      have := kc1 he
      exact ⟨fun q hq => by have := k1 q hq; omega, fun q hq => by have := k2 q hq; omega⟩
    · rename_i he
      obtain ⟨kc3, kc4⟩ := kc2 he
      split
      · rename_i hd
        have := kc3 hd
        refine ⟨fun q hq => ?_, ir.2⟩
        rcases BT.mem_node.1 hq with e | e | e
        · subst e; omega
        · have := k1 q e; omega
        · exact ir.1 q e
      · rename_i hd
        have := kc4 (by simpa using hd)
        refine ⟨il.1, fun q hq => ?_⟩
        rcases BT.mem_node.1 hq with e | e | e
        · subst e; omega
        · exact il.2 q e
        · have := k2 q e; omega
/-- What lies beyond a place that is less (or more) shares no more than that one. -/
theorem cmn_between (L : List UInt8) (i p q : Nat) (hp : p < i) (hq : q < i) (hi : i < L.length) (h : (pre L q (whl L i) ≤ pre L p (whl L i) ∧ pre L p (whl L i) ≤ pre L i (whl L i)) ∨ (pre L i (whl L i) ≤ pre L p (whl L i) ∧ pre L p (whl L i) ≤ pre L q (whl L i))) : cmn L i (whl L i) q ≤ cmn L i (whl L i) p := by
  have hw : whl L i ≤ L.length - i := by unfold whl; omega
  obtain ⟨k, hk⟩ : ∃ k, cmn L i (whl L i) q = k := ⟨_, rfl⟩
  rw [hk]
  unfold cmn at hk
  have e := (com_pre L q i k (by omega) (by omega)).2 (by omega)
  have e2 : pre L p k = pre L i k := by
    rcases h with ⟨h1, h2⟩ | ⟨h1, h2⟩
    · have := pre_mono L q p k _ (by omega) h1
      have := pre_mono L p i k _ (by omega) h2
      omega
    · have := pre_mono L i p k _ (by omega) h1
      have := pre_mono L p q k _ (by omega) h2
      omega
  have := (com_pre L p i k (by omega) (by omega)).1 e2
  unfold cmn; omega
/-- What is known of how much all in a tree share: it lies between two places that share so much. -/
def Bet (L : List UInt8) (i nL nM : Nat) (tr : BT) : Prop :=
  (nL = 0 ∨ ∃ a, a < i ∧ cmn L i (whl L i) a = nL ∧ pre L a (whl L i) ≤ pre L i (whl L i) ∧ ∀ q ∈ tr.ns, pre L a (whl L i) ≤ pre L q (whl L i)) ∧
  (nM = 0 ∨ ∃ a, a < i ∧ cmn L i (whl L i) a = nM ∧ pre L i (whl L i) ≤ pre L a (whl L i) ∧ ∀ q ∈ tr.ns, pre L q (whl L i) ≤ pre L a (whl L i))
theorem Bet.least {L : List UInt8} {i nL nM : Nat} {tr : BT} (h : Bet L i nL nM tr) (hi : i < L.length) (p : Nat) (hp : p ∈ tr.ns) (hpi : p < i) : min nL nM ≤ cmn L i (whl L i) p := by
  obtain ⟨h1, h2⟩ := h
  rcases h1 with h1 | ⟨a, ha, ha1, ha2, ha3⟩
  · omega
  rcases h2 with h2 | ⟨b, hb, hb1, hb2, hb3⟩
  · omega
  have ha3 := ha3 p hp
  have hb3 := hb3 p hp
  by_cases h : pre L p (whl L i) ≤ pre L i (whl L i)
  · have := cmn_between L i p a hpi ha hi (.inl ⟨ha3, h⟩); omega
  · have := cmn_between L i p b hpi hb hi (.inr ⟨by omega, hb3⟩); omega
/-- Slots of a place. -/
def offS (m j : Nat) (tr : BT) : Prop := ∀ q ∈ tr.ns, j ≠ q % m * 2 ∧ j ≠ q % m * 2 + 1
theorem Rep.same {lo m : Nat} {lk lk' : List Int} : ∀ {x : Nat} {tr : BT}, Rep lo m lk x tr → (∀ q ∈ tr.ns, lk'.getD (q % m * 2) 0 = lk.getD (q % m * 2) 0 ∧ lk'.getD (q % m * 2 + 1) 0 = lk.getD (q % m * 2 + 1) 0) → Rep lo m lk' x tr
  | x, .nil, h, _ => h
  | x, .node p l r, h, hs => by
    obtain ⟨h1, h2, h3, h4⟩ := h
    obtain ⟨e1, e2⟩ := hs p (BT.mem_node.2 (.inl rfl))
    refine ⟨h1, h2, ?_, ?_⟩
    · rw [e1]; exact h3.same (fun q hq => hs q (BT.mem_node.2 (.inr (.inl hq))))
    · rw [e2]; exact h4.same (fun q hq => hs q (BT.mem_node.2 (.inr (.inr hq))))
theorem Rep.live {lo m : Nat} {lk : List Int} : ∀ {x : Nat} {tr : BT}, Rep lo m lk x tr → ∀ q ∈ tr.ns, lo ≤ q
  | x, .nil, h, q, hq => by cases hq
  | x, .node p l r, h, q, hq => by
    obtain ⟨h1, h2, h3, h4⟩ := h
    rcases BT.mem_node.1 hq with e | e | e
    · omega
    · exact h3.live q e
    · exact h4.live q e
theorem setI_getD (l : List Int) (a b : Nat) (x : Int) (h : a ≠ b) : (l.set a x).getD b 0 = l.getD b 0 := by
  simp only [List.getD_eq_getElem?_getD, List.getElem?_set, if_neg h]
theorem setI_self (l : List Int) (a : Nat) (x : Int) (h : a < l.length) : (l.set a x).getD a 0 = x := by
  simp [List.getD_eq_getElem?_getD, h]
end Go.Proofs.Ytgoplbngfinbdaa
