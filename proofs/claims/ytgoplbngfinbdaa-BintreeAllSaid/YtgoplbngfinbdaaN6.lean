/- Layer 22: what the finder knows at each place (mathematics). -/
import Derived.Test.YtgoplbngfinbdaaN5
namespace Go.Proofs.Ytgoplbngfinbdaa
open Go.ChangeShapes Go.WideShapes Go.ChangeAt Go.RowKit
set_option linter.unusedVariables false
set_option linter.unusedSimpArgs false
set_option maxRecDepth 100000
def prn (lo : Nat) : BT → BT
  | .nil => .nil
  | .node p l r => if p < lo then .nil else .node p (prn lo l) (prn lo r)
theorem prn_sub (lo : Nat) : ∀ tr : BT, ∀ q ∈ (prn lo tr).ns, q ∈ tr.ns
  | .nil, q, h => h
  | .node p l r, q, h => by
    rw [prn] at h
    split at h
    · cases h
    · rcases BT.mem_node.1 h with e | e | e
      · exact BT.mem_node.2 (.inl e)
      · exact BT.mem_node.2 (.inr (.inl (prn_sub lo l q e)))
      · exact BT.mem_node.2 (.inr (.inr (prn_sub lo r q e)))
theorem prn_keep (L : List UInt8) (lo : Nat) : ∀ tr : BT, Ord L tr → ∀ q ∈ tr.ns, lo ≤ q → q ∈ (prn lo tr).ns
  | .nil, _, q, h, _ => h
  | .node p l r, ho, q, h, hq => by
    obtain ⟨o1, o2, o3, o4, o5⟩ := ho
    have hp : ¬ p < lo := by
      rcases BT.mem_node.1 h with e | e | e
      · omega
      · have := (o1 q e).1; omega
      · have := (o2 q e).1; omega
    rw [prn, if_neg hp]
    rcases BT.mem_node.1 h with e | e | e
    · exact BT.mem_node.2 (.inl e)
    · exact BT.mem_node.2 (.inr (.inl (prn_keep L lo l o4 q e hq)))
    · exact BT.mem_node.2 (.inr (.inr (prn_keep L lo r o5 q e hq)))
theorem prn_ord (L : List UInt8) (lo : Nat) : ∀ tr : BT, Ord L tr → Ord L (prn lo tr)
  | .nil, _ => trivial
  | .node p l r, ho => by
    obtain ⟨o1, o2, o3, o4, o5⟩ := ho
    rw [prn]
    split
    · trivial
    · exact ⟨fun q h => o1 q (prn_sub lo l q h), fun q h => o2 q (prn_sub lo r q h), fun q h h2 => o3 q (prn_sub lo l q h) (prn_sub lo r q h2), prn_ord L lo l o4, prn_ord L lo r o5⟩
theorem prn_rep {lo lo' m : Nat} {lk : List Int} (hl : lo ≤ lo') : ∀ {x : Nat} {tr : BT}, Rep lo m lk x tr → Rep lo' m lk x (prn lo' tr)
  | x, .nil, h => Nat.le_trans h hl
  | x, .node p l r, h => by
    obtain ⟨h1, h2, h3, h4⟩ := h
    rw [prn]
    split
    · show x ≤ lo'; omega
    · exact ⟨h1, by omega, prn_rep hl h3, prn_rep hl h4⟩
theorem spl_cover (L : List UInt8) (i : Nat) (hi : i < L.length) : ∀ tr : BT, (∀ q ∈ tr.ns, q < i) → ∀ r ∈ tr.ns, r ∈ (spl L i tr).1.ns ∨ r ∈ (spl L i tr).2.ns ∨ pre L r (whl L i) = pre L i (whl L i)
  | .nil, _, r, h => by cases h
  | .node p l r, hlt, s, h => by
    have hp := hlt p (BT.mem_node.2 (.inl rfl))
    have il := spl_cover L i hi l (fun q hq => hlt q (BT.mem_node.2 (.inr (.inl hq))))
    have ir := spl_cover L i hi r (fun q hq => hlt q (BT.mem_node.2 (.inr (.inr hq))))
    have hc := key_cmp L i p hp hi
    rw [spl]
    split
    · rename_i he
      rcases BT.mem_node.1 h with e | e | e
      · subst e; exact .inr (.inr (hc.1 he))
      · exact .inl e
      · exact .inr (.inl e)
    · split
      · rcases BT.mem_node.1 h with e | e | e
        · exact .inl (BT.mem_node.2 (.inl e))
        · exact .inl (BT.mem_node.2 (.inr (.inl e)))
        · rcases ir s e with h | h | h
          · exact .inl (BT.mem_node.2 (.inr (.inr h)))
          · exact .inr (.inl h)
          · exact .inr (.inr h)
      · rcases BT.mem_node.1 h with e | e | e
        · exact .inr (.inl (BT.mem_node.2 (.inl e)))
        · rcases il s e with h | h | h
          · exact .inl h
          · exact .inr (.inl (BT.mem_node.2 (.inr (.inl h))))
          · exact .inr (.inr h)
        · exact .inr (.inl (BT.mem_node.2 (.inr (.inr e))))
theorem place_ne {L : List UInt8} {W m i p r : Nat} (hmv : min L.length (W + 1) = m) (hi : i < L.length) (hp : p ≤ i) (hr : r ≤ i) (hp2 : i - W ≤ p) (hr2 : i - W ≤ r) (h : p ≠ r) : p % m ≠ r % m := by
  by_cases hlt : p < r
  · exact (mod_ne (by omega) hlt (by omega)).symm
  · exact mod_ne (by omega) (show r < p by omega) (by omega)
/-- The tree of each two bytes, ahead of place i. -/
def TreeOf (L : List UInt8) (W m i : Nat) (lk : List Int) (x t : Nat) : Prop :=
  ∃ tr, Rep (i - W) m lk x tr ∧ Ord L tr ∧ (∀ q ∈ tr.ns, q < i ∧ q + 1 < L.length ∧ pairAt L q = t) ∧ ∀ q, q < i → i - W ≤ q → q + 1 < L.length → pairAt L q = t → ∃ r ∈ tr.ns, q ≤ r ∧ pre L q (whl L r) = pre L r (whl L r)
structure KnowsT (L : List UInt8) (W m i : Nat) (tp lk : List Int) : Prop where
  tl : tp.length = 65536
  ll : lk.length = 2 * m
  bd : bdL i lk
  tb : bdL i tp
  tr : ∀ t, t < 65536 → TreeOf L W m i lk (tp.getD t 0).toNat t
theorem bdL.up {i k : Nat} {lk : List Int} (h : bdL i lk) (hk : i ≤ k) : bdL k lk := fun j => ⟨(h j).1, by have := (h j).2; omega⟩
theorem bdL.rep (i n : Nat) : bdL i (List.replicate n 0) := by
  intro j
  have : (List.replicate n (0 : Int)).getD j 0 = 0 := by
    rw [List.getD_eq_getElem?_getD, List.getElem?_replicate]
    split <;> rfl
  rw [this]; omega
theorem KnowsT.start (L : List UInt8) (W m : Nat) : KnowsT L W m 0 (List.replicate 65536 0) (List.replicate (2 * m) 0) := by
  refine ⟨List.length_replicate, List.length_replicate, bdL.rep 0 _, bdL.rep 0 _, fun t ht => ⟨.nil, ?_, trivial, fun q h => (by cases h), fun q h => by omega⟩⟩
  rw [List.getD_eq_getElem?_getD, List.getElem?_replicate, if_pos ht]
  exact Nat.zero_le _
theorem TreeOf.last {L : List UInt8} {W m i x t : Nat} {lk : List Int} (h : TreeOf L W m i lk x t) (hc : i + 1 < L.length → pairAt L i ≠ t) : TreeOf L W m (i + 1) lk x t := by
  obtain ⟨tr, h1, h2, h3, h4⟩ := h
  refine ⟨prn (i + 1 - W) tr, prn_rep (by omega) h1, prn_ord L _ tr h2, fun q hq => ?_, fun q hq1 hq2 hq3 hq4 => ?_⟩
  · have := h3 q (prn_sub _ tr q hq)
    exact ⟨by omega, this.2⟩
  · by_cases e : q = i
    · subst e; exact absurd hq4 (hc hq3)
    · obtain ⟨r, hr, h5, h6⟩ := h4 q (by omega) (by omega) hq3 hq4
      exact ⟨r, prn_keep L _ tr h2 r hr (by omega), h5, h6⟩
theorem KnowsT.last {L : List UInt8} {W m i : Nat} {tp lk : List Int} (h : KnowsT L W m i tp lk) (hi : L.length ≤ i + 1) : KnowsT L W m (i + 1) tp lk :=
  ⟨h.tl, h.ll, h.bd.up (Nat.le_succ _), h.tb.up (Nat.le_succ _), fun t ht => (h.tr t ht).last (fun h => by omega)⟩
theorem KnowsT.next {L : List UInt8} {W D m i mo : Nat} {tp lk : List Int} (h : KnowsT L W m i tp lk) (hi : i + 1 < L.length) (hmv : min L.length (W + 1) = m) (hD : i ≤ D) (hmo : 2 ≤ mo) (hmo2 : mo ≤ 258) (x : Nat) (hx : (tp.getD (pairAt L i) 0).toNat = x) (R : List Int × List Mt) (hR : desc L i (i - W) m mo (whl L i) D lk (i % m * 2) (i % m * 2 + 1) x 1 [] = R) :
    okD L i (i - W) m (whl L i) D lk (i % m * 2) (i % m * 2 + 1) x 0 0 ∧ R.2 = (atS L i mo (min i W)).2 ∧ KnowsT L W m (i + 1) (tp.set (pairAt L i) ((i : Int) + 1)) R.1 := by
  have hm : 0 < m := by omega
  have hpt := pairAt_lt L i
  have him : i % m < m := Nat.mod_lt _ hm
  obtain ⟨tr, h1, h2, h3, h4⟩ := h.tr _ hpt
  rw [hx] at h1
  have hxi : x ≤ i := by have := (h.tb (pairAt L i)).2; omega
  have live := h1.live
  have hne : ∀ q ∈ tr.ns, q % m ≠ i % m := fun q hq => place_ne hmv (by omega) (by have := (h3 q hq).1; omega) (Nat.le_refl _) (live q hq) (by omega) (by have := (h3 q hq).1; omega)
  have hlt : ∀ q ∈ tr.ns, q < i := fun q hq => (h3 q hq).1
  have key := desc_main L i W m mo (by omega) hm hmo2 tr D lk (i % m * 2) (i % m * 2 + 1) x 0 0 1 [] h1 (by omega) h2 hlt
    (fun q hq r hr hqr => place_ne hmv (by omega) (by have := hlt q hq; omega) (by have := hlt r hr; omega) (live q hq) (live r hr) hqr)
    (by omega) (by omega) (by omega) (fun q hq => by have := hne q hq; omega) (fun q hq => by have := hne q hq; omega) ⟨.inl rfl, .inl rfl⟩ h.ll h.bd
  rw [hR] at key
  obtain ⟨k1, ⟨lk', e, k2, k3, k4, k5, k6⟩, k7⟩ := key
  rw [e]
  refine ⟨k1, k7 ⟨0, Nat.zero_le _, hlt, rfl, fun q hq1 hq2 => ?_⟩, ⟨by rw [List.length_set]; exact h.tl, k2, k3.up (Nat.le_succ _), ?_, fun t ht => ?_⟩⟩
  · by_cases hc : pairAt L q = pairAt L i
    · obtain ⟨r, hr, h5, h6⟩ := h4 q (by omega) hq1 (by omega) hc
      refine .inr ⟨r, hr, h5, ?_⟩
      have hri := hlt r hr
      have hw := whl_mono L (Nat.le_of_lt hri)
      have hw2 : whl L i ≤ L.length - i := by unfold whl; omega
      obtain ⟨k, hk⟩ : ∃ k, cmn L i (whl L i) q = k := ⟨_, rfl⟩
      rw [hk]
      unfold cmn at hk
      have e1 := (com_pre L q i k (by omega) (by omega)).2 (by omega)
      have e2 := pre_down L q r k (whl L r) (by omega) h6
      have := (com_pre L r i k (by omega) (by omega)).1 (by omega)
      unfold cmn; omega
    · left
      have : ¬ 2 ≤ comAt L q i := fun h5 => hc ((com_two L q i h5).2.2)
      unfold cmn; omega
  · have := (h.tb.up (Nat.le_succ i)).set (pairAt L i) (i + 1) (Nat.le_refl _)
    exact this
  · by_cases et : t = pairAt L i
    · subst et
      rw [setI_self _ _ _ (by rw [h.tl]; exact hpt), show ((i : Int) + 1).toNat = i + 1 by omega]
      have so := spl_ord L i tr h2
      have sk := spl_key L i (by omega) tr h2 hlt
      have ss := spl_sub L i tr
      have hT : Ord L (.node i (spl L i tr).1 (spl L i tr).2) :=
        ⟨fun q hq => ⟨hlt q (ss.1 q hq), sk.1 q hq⟩, fun q hq => ⟨hlt q (ss.2 q hq), sk.2 q hq⟩, so.2.2, so.1, so.2.1⟩
      have hRp : Rep (i - W) m lk' (i + 1) (.node i (spl L i tr).1 (spl L i tr).2) := ⟨rfl, by omega, k4, k5⟩
      refine ⟨prn (i + 1 - W) (.node i (spl L i tr).1 (spl L i tr).2), prn_rep (by omega) hRp, prn_ord L _ _ hT, fun q hq => ?_, fun q hq1 hq2 hq3 hq4 => ?_⟩
      · rcases BT.mem_node.1 (prn_sub _ _ q hq) with e | e | e
        · subst e; exact ⟨by omega, by omega, rfl⟩
        · have := h3 q (ss.1 q e); exact ⟨by omega, this.2⟩
        · have := h3 q (ss.2 q e); exact ⟨by omega, this.2⟩
      · have kp := prn_keep L (i + 1 - W) _ hT
        by_cases e : q = i
        · subst e
          exact ⟨q, kp q (BT.mem_node.2 (.inl rfl)) hq2, Nat.le_refl _, rfl⟩
        · obtain ⟨r, hr, h5, h6⟩ := h4 q (by omega) (by omega) hq3 hq4
          rcases spl_cover L i (by omega) tr hlt r hr with h | h | h
          · exact ⟨r, kp r (BT.mem_node.2 (.inr (.inl h))) (by omega), h5, h6⟩
          · exact ⟨r, kp r (BT.mem_node.2 (.inr (.inr h))) (by omega), h5, h6⟩
          · exact ⟨i, kp i (BT.mem_node.2 (.inl rfl)) (by omega), by omega, (pre_down L q r _ _ (whl_mono L (Nat.le_of_lt (hlt r hr))) h6).trans h⟩
    · rw [setI_getD _ _ _ _ (Ne.symm et)]
      refine TreeOf.last ?_ (fun _ h => et h.symm)
      obtain ⟨ts, g1, g2, g3, g4⟩ := h.tr t ht
      refine ⟨ts, g1.same (fun q hq => ?_), g2, g3, g4⟩
      have gl := g1.live q hq
      have gi := g3 q hq
      have n1 : q % m ≠ i % m := place_ne hmv (by omega) (by omega) (Nat.le_refl _) gl (by omega) (by omega)
      have n2 : ∀ r ∈ tr.ns, q % m ≠ r % m := fun r hr => place_ne hmv (by omega) (by omega) (by have := hlt r hr; omega) gl (live r hr) (fun e => et (by rw [← gi.2.2, e, (h3 r hr).2.2]))
      exact ⟨k6 _ (by omega) (by omega) (fun r hr => by have := n2 r hr; omega), k6 _ (by omega) (by omega) (fun r hr => by have := n2 r hr; omega)⟩
end Go.Proofs.Ytgoplbngfinbdaa
