/- Layer 22: the walk down a tree splits it, and tells the nearest of each length (mathematics). -/
import Derived.Test.YtgoplbngfinbdaaN4
namespace Go.Proofs.Ytgoplbngfinbdaa
open Go.ChangeShapes Go.WideShapes Go.ChangeAt Go.RowKit
set_option linter.unusedVariables false
set_option linter.unusedSimpArgs false
set_option maxRecDepth 100000
theorem Rep.root_le {lo m x p : Nat} {lk : List Int} {tr : BT} (h : Rep lo m lk x tr) (hp : lo ≤ p) (hq : ∀ q ∈ tr.ns, q < p) : x ≤ p := by
  cases tr with
  | nil => exact Nat.le_trans h hp
  | node q l r =>
    have := hq q (BT.mem_node.2 (.inl rfl))
    obtain ⟨h1, -⟩ := h
    omega
theorem nAt_cmn (L : List UInt8) (i most q : Nat) (hq : q < i) (hi : i < L.length) : nAt L i most (i - q) = min (cmn L i (whl L i) q) most := by
  have h1 := (comAt_le L i q).1
  have h2 := comAt_comm L i q
  unfold nAt cmn whl
  rw [show i - (i - q) = q by omega]
  omega
/-- What is told up to some distance, and that nothing counts beyond but what is covered by the tree. -/
def Rst (L : List UInt8) (i W most best : Nat) (out : List Mt) (tr : BT) : Prop :=
  ∃ d0, d0 ≤ min i W ∧ (∀ q ∈ tr.ns, q < i - d0) ∧ atS L i most d0 = (best, out) ∧ ∀ q, i - W ≤ q → q < i - d0 → min (cmn L i (whl L i) q) most ≤ best ∨ ∃ r ∈ tr.ns, q ≤ r ∧ cmn L i (whl L i) q ≤ cmn L i (whl L i) r
theorem Rst.skip {L : List UInt8} {i most best d0 : Nat} {out : List Mt} (hi : i < L.length) (h : atS L i most d0 = (best, out)) (n : Nat) (hn : d0 + n ≤ i) (hq : ∀ q, i - (d0 + n) ≤ q → q < i - d0 → min (cmn L i (whl L i) q) most ≤ best) : atS L i most (d0 + n) = (best, out) := by
  rw [atS_skip L i most d0 n (fun d h1 h2 => ?_), h]
  have e := nAt_cmn L i most (i - d) (by omega) hi
  rw [show i - (i - d) = d by omega] at e
  rw [e, h]
  exact hq (i - d) (by omega) (by omega)
theorem Rst.step {L : List UInt8} {i W most best p : Nat} {out : List Mt} {l r : BT} (hi : i < L.length) (hp : p < i) (hlo : i - W ≤ p) (h : Rst L i W most best out (.node p l r)) (hl : ∀ q ∈ l.ns, q < p) (hr : ∀ q ∈ r.ns, q < p) :
    atS L i most (i - p) = (max best (min (cmn L i (whl L i) p) most), told i p (min (cmn L i (whl L i) p) most) best out) ∧ i - p ≤ min i W ∧ ∀ q, i - W ≤ q → q < p → min (cmn L i (whl L i) q) most ≤ max best (min (cmn L i (whl L i) p) most) ∨ ∃ r' ∈ BT.ns l ++ BT.ns r, q ≤ r' ∧ cmn L i (whl L i) q ≤ cmn L i (whl L i) r' := by
  obtain ⟨d0, h1, h2, h3, h4⟩ := h
  have hp0 := h2 p (BT.mem_node.2 (.inl rfl))
  have h5 : atS L i most (d0 + (i - p - 1 - d0)) = (best, out) := by
    refine Rst.skip hi h3 _ (by omega) (fun q hq1 hq2 => ?_)
    rcases h4 q (by omega) hq2 with h | ⟨r', hr', h6, h7⟩
    · exact h
    · rcases BT.mem_node.1 hr' with e | e | e
      · omega
      · have := hl r' e; omega
      · have := hr r' e; omega
  rw [show d0 + (i - p - 1 - d0) = i - p - 1 by omega] at h5
  refine ⟨?_, by omega, fun q hq1 hq2 => ?_⟩
  · have e := nAt_cmn L i most p hp hi
    have e3 : i - p = (i - p - 1) + 1 := by omega
    rw [e3, atS, h5, ← e3, e]
    unfold told
    show (if best < min (cmn L i (whl L i) p) most then _ else _) = _
    by_cases hb : best < min (cmn L i (whl L i) p) most
    · rw [if_pos hb, if_pos hb, Nat.max_eq_right (by omega)]
    · rw [if_neg hb, if_neg hb, Nat.max_eq_left (by omega)]
  · rcases h4 q hq1 (by omega) with h | ⟨r', hr', h6, h7⟩
    · left; omega
    · rcases BT.mem_node.1 hr' with e | e | e
      · subst e; left; omega
      · exact .inr ⟨r', List.mem_append.2 (.inl e), h6, h7⟩
      · exact .inr ⟨r', List.mem_append.2 (.inr e), h6, h7⟩
theorem desc_main (L : List UInt8) (i W m most : Nat) (hi : i < L.length) (hm : 0 < m) (hmo : most ≤ 258) : ∀ (tr : BT) (f : Nat) (lk : List Int) (A B x nL nM best : Nat) (out : List Mt),
    Rep (i - W) m lk x tr → x ≤ f → Ord L tr → (∀ q ∈ tr.ns, q < i) → (∀ q ∈ tr.ns, ∀ r ∈ tr.ns, q ≠ r → q % m ≠ r % m) → A ≠ B → A < 2 * m → B < 2 * m → offS m A tr → offS m B tr → Bet L i nL nM tr → lk.length = 2 * m → bdL i lk →
    okD L i (i - W) m (whl L i) f lk A B x nL nM ∧
    (∃ lk', (desc L i (i - W) m most (whl L i) f lk A B x best out).1 = lk' ∧ lk'.length = 2 * m ∧ bdL i lk' ∧ Rep (i - W) m lk' (lk'.getD A 0).toNat (spl L i tr).1 ∧ Rep (i - W) m lk' (lk'.getD B 0).toNat (spl L i tr).2 ∧ ∀ j, j ≠ A → j ≠ B → offS m j tr → lk'.getD j 0 = lk.getD j 0) ∧
    (Rst L i W most best out tr → (desc L i (i - W) m most (whl L i) f lk A B x best out).2 = (atS L i most (min i W)).2) := by
  intro tr
  induction tr with
  | nil =>
    intro f lk A B x nL nM best out hrep hxf hord hlt hmod hAB hA hB oA oB hbet hll hbd
    have hd : desc L i (i - W) m most (whl L i) f lk A B x best out = ((lk.set A 0).set B 0, out) := by
      cases f with
      | zero => rfl
      | succ f => rw [desc, if_pos (show x ≤ i - W from hrep)]
    rw [hd]
    refine ⟨?_, ⟨_, rfl, by simp [hll], (hbd.set A 0 (Nat.zero_le _)).set B 0 (Nat.zero_le _), ?_, ?_, fun j h1 h2 _ => ?_⟩, ?_⟩
    · cases f with
      | zero => exact ⟨hAB, hA, hB⟩
      | succ f => exact ⟨⟨hAB, hA, hB⟩, .inl hrep⟩
    · rw [setI_getD _ _ _ _ hAB.symm, setI_self _ _ _ (by rw [hll]; exact hA)]
      exact Nat.zero_le _
    · rw [setI_self _ _ _ (by rw [List.length_set, hll]; exact hB)]
      exact Nat.zero_le _
    · show ((lk.set A 0).set B 0).getD j 0 = _
      rw [setI_getD _ _ _ _ (Ne.symm h2), setI_getD _ _ _ _ (Ne.symm h1)]
    · rintro ⟨d0, h1, h2, h3, h4⟩
      have := Rst.skip hi h3 (min i W - d0) (by omega) (fun q hq1 hq2 => by
        rcases h4 q (by omega) hq2 with h | ⟨r', hr', _⟩
        · exact h
        · cases hr')
      rw [show d0 + (min i W - d0) = min i W by omega] at this
      rw [this]
  | node p l r ihl ihr =>
    intro f lk A B x nL nM best out hrep hxf hord hlt hmod hAB hA hB oA oB hbet hll hbd
    obtain ⟨hx, hlo, hrl, hrr⟩ := hrep
    subst hx
    obtain ⟨f, rfl⟩ : ∃ f', f = f' + 1 := ⟨f - 1, by omega⟩
    obtain ⟨o1, o2, o3, o4, o5⟩ := hord
    have hpi := hlt p (BT.mem_node.2 (.inl rfl))
    have oA0 := oA p (BT.mem_node.2 (.inl rfl))
    have oB0 := oB p (BT.mem_node.2 (.inl rfl))
    have hpm : p % m < m := Nat.mod_lt _ hm
    have hleast := hbet.least hi p (BT.mem_node.2 (.inl rfl)) hpi
    have hxi : p + 1 ≤ i := by omega
    have ml : ∀ q ∈ l.ns, q ∈ (BT.node p l r).ns := fun q hq => BT.mem_node.2 (.inr (.inl hq))
    have mr : ∀ q ∈ r.ns, q ∈ (BT.node p l r).ns := fun q hq => BT.mem_node.2 (.inr (.inr hq))
    have oAl : offS m A l := fun q hq => oA q (ml q hq)
    have oAr : offS m A r := fun q hq => oA q (mr q hq)
    have oBl : offS m B l := fun q hq => oB q (ml q hq)
    have oBr : offS m B r := fun q hq => oB q (mr q hq)
    have npl : ∀ q ∈ l.ns, q % m ≠ p % m := fun q hq => hmod q (ml q hq) p (BT.mem_node.2 (.inl rfl)) (by have := (o1 q hq).1; omega)
    have npr : ∀ q ∈ r.ns, q % m ≠ p % m := fun q hq => hmod q (mr q hq) p (BT.mem_node.2 (.inl rfl)) (by have := (o2 q hq).1; omega)
    have nlr : ∀ q ∈ l.ns, ∀ s ∈ r.ns, q % m ≠ s % m := fun q hq s hs => hmod q (ml q hq) s (mr s hs) (fun e => o3 q hq (e ▸ hs))
    have hnl : ¬ p + 1 ≤ i - W := by omega
    have hw := whl_mono L (Nat.le_of_lt hpi)
    have k1 : ∀ q ∈ l.ns, pre L q (whl L i) ≤ pre L p (whl L i) := fun q hq => pre_mono L q p _ _ hw (o1 q hq).2
    have k2 : ∀ q ∈ r.ns, pre L p (whl L i) ≤ pre L q (whl L i) := fun q hq => pre_mono L p q _ _ hw (o2 q hq).2
    obtain ⟨kc1, kc2⟩ := key_cmp L i p hpi hi
    have hrst : Rst L i W most best out (.node p l r) → _ := fun h => Rst.step hi hpi hlo h (fun q hq => (o1 q hq).1) (fun q hq => (o2 q hq).1)
    rw [okD, desc, if_neg hnl, spl]
    simp only [Nat.add_sub_cancel]
    by_cases he : cmn L i (whl L i) p = whl L i
    · rw [if_pos he, if_pos he]
      refine ⟨⟨⟨hAB, hA, hB⟩, .inr ⟨hxi, hleast, ⟨oA0.1, oA0.2, oB0.1, oB0.2⟩, .inl he⟩⟩, ⟨_, rfl, by simp [hll], ?_, ?_, ?_, fun j h1 h2 _ => ?_⟩, fun h => ?_⟩
      · have b1 := hbd (p % m * 2)
        have b2 := hbd (p % m * 2 + 1)
        have := (hbd.set A (lk.getD (p % m * 2) 0).toNat (by omega)).set B (lk.getD (p % m * 2 + 1) 0).toNat (by omega)
        rwa [Int.toNat_of_nonneg b1.1, Int.toNat_of_nonneg b2.1] at this
      · rw [setI_getD _ _ _ _ hAB.symm, setI_self _ _ _ (by rw [hll]; exact hA)]
        exact hrl.same (fun q hq => ⟨by rw [setI_getD _ _ _ _ (oBl q hq).1, setI_getD _ _ _ _ (oAl q hq).1], by rw [setI_getD _ _ _ _ (oBl q hq).2, setI_getD _ _ _ _ (oAl q hq).2]⟩)
      · rw [setI_self _ _ _ (by rw [List.length_set, hll]; exact hB)]
        exact hrr.same (fun q hq => ⟨by rw [setI_getD _ _ _ _ (oBr q hq).1, setI_getD _ _ _ _ (oAr q hq).1], by rw [setI_getD _ _ _ _ (oBr q hq).2, setI_getD _ _ _ _ (oAr q hq).2]⟩)
      · show ((lk.set A _).set B _).getD j 0 = _
        rw [setI_getD _ _ _ _ (Ne.symm h2), setI_getD _ _ _ _ (Ne.symm h1)]
      · obtain ⟨e1, e2, -⟩ := hrst h
        have := atS_full L i most (i - p) (min i W - (i - p)) (by rw [e1]; show _ ≤ max _ _; rw [he]; unfold whl; omega)
        rw [show i - p + (min i W - (i - p)) = min i W by omega, e1] at this
        rw [this]
    · rw [if_neg he, if_neg he]
      obtain ⟨kc3, kc4⟩ := kc2 he
      by_cases hd : ltB L i (cmn L i (whl L i) p) p = true
      · rw [if_pos hd, if_pos hd]
        have kk := kc3 hd
        have hx2 : (lk.getD (p % m * 2 + 1) 0).toNat ≤ p := hrr.root_le hlo (fun q hq => (o2 q hq).1)
        have IH := ihr f (lk.set A ((p + 1 : Nat) : Int)) (p % m * 2 + 1) B (lk.getD (p % m * 2 + 1) 0).toNat (cmn L i (whl L i) p) nM (max best (min (cmn L i (whl L i) p) most)) (told i p (min (cmn L i (whl L i) p) most) best out)
          (hrr.same (fun q hq => ⟨by rw [setI_getD _ _ _ _ (oAr q hq).1], by rw [setI_getD _ _ _ _ (oAr q hq).2]⟩)) (by omega) o5 (fun q hq => hlt q (mr q hq)) (fun q hq s hs => hmod q (mr q hq) s (mr s hs)) (Ne.symm oB0.2) (by omega) hB
          (fun q hq => by have := npr q hq; omega) oBr ⟨.inr ⟨p, hpi, rfl, by omega, k2⟩, hbet.2.imp id (fun ⟨b, h1, h2, h3, h4⟩ => ⟨b, h1, h2, h3, fun q hq => h4 q (mr q hq)⟩)⟩ (by rw [List.length_set]; exact hll) (hbd.set A (p + 1) hxi)
        obtain ⟨ok, ⟨lk2, d1, d2, d3, d4, d5, d6⟩, d7⟩ := IH
        refine ⟨⟨⟨hAB, hA, hB⟩, .inr ⟨hxi, hleast, ⟨oA0.1, oA0.2, oB0.1, oB0.2⟩, .inr (.inl ⟨hd, ok⟩)⟩⟩, ⟨lk2, d1, d2, d3, ?_, d5, fun j h1 h2 h3 => ?_⟩, fun h => ?_⟩
        · have e1 := d6 A oA0.2 hAB oAr
          rw [setI_self _ _ _ (by rw [hll]; exact hA)] at e1
          rw [e1]
          refine ⟨by rw [Int.toNat_natCast], hlo, ?_, d4⟩
          have e2 := d6 (p % m * 2) (by omega) (Ne.symm oB0.1) (fun q hq => by have := npr q hq; omega)
          rw [setI_getD _ _ _ _ oA0.1] at e2
          rw [e2]
          refine hrl.same (fun q hq => ⟨?_, ?_⟩)
          · rw [d6 _ (by omega) (Ne.symm (oBl q hq).1) (fun s hs => by have := nlr q hq s hs; omega), setI_getD _ _ _ _ (oAl q hq).1]
          · rw [d6 _ (by have := npl q hq; omega) (Ne.symm (oBl q hq).2) (fun s hs => by have := nlr q hq s hs; omega), setI_getD _ _ _ _ (oAl q hq).2]
        · rw [d6 j (h3 p (BT.mem_node.2 (.inl rfl))).2 h2 (fun q hq => h3 q (mr q hq)), setI_getD _ _ _ _ (Ne.symm h1)]
        · obtain ⟨e1, e2, e3⟩ := hrst h
          refine d7 ⟨i - p, e2, fun q hq => by have := (o2 q hq).1; omega, e1, fun q hq1 hq2 => ?_⟩
          rcases e3 q hq1 (by omega) with h | ⟨r', hr', h6, h7⟩
          · exact .inl h
          · rcases List.mem_append.1 hr' with e | e
            · have := cmn_between L i p r' hpi (hlt r' (ml r' e)) hi (.inl ⟨k1 r' e, by omega⟩)
              left; omega
            · exact .inr ⟨r', e, h6, h7⟩
      · rw [if_neg hd, if_neg hd]
        have hd0 : ltB L i (cmn L i (whl L i) p) p = false := by simpa using hd
        have kk := kc4 hd0
        have hx2 : (lk.getD (p % m * 2) 0).toNat ≤ p := hrl.root_le hlo (fun q hq => (o1 q hq).1)
        have IH := ihl f (lk.set B ((p + 1 : Nat) : Int)) A (p % m * 2) (lk.getD (p % m * 2) 0).toNat nL (cmn L i (whl L i) p) (max best (min (cmn L i (whl L i) p) most)) (told i p (min (cmn L i (whl L i) p) most) best out)
          (hrl.same (fun q hq => ⟨by rw [setI_getD _ _ _ _ (oBl q hq).1], by rw [setI_getD _ _ _ _ (oBl q hq).2]⟩)) (by omega) o4 (fun q hq => hlt q (ml q hq)) (fun q hq s hs => hmod q (ml q hq) s (ml s hs)) oA0.1 hA (by omega) oAl
          (fun q hq => by have := npl q hq; omega) ⟨hbet.1.imp id (fun ⟨b, h1, h2, h3, h4⟩ => ⟨b, h1, h2, h3, fun q hq => h4 q (ml q hq)⟩), .inr ⟨p, hpi, rfl, by omega, k1⟩⟩ (by rw [List.length_set]; exact hll) (hbd.set B (p + 1) hxi)
        obtain ⟨ok, ⟨lk2, d1, d2, d3, d4, d5, d6⟩, d7⟩ := IH
        refine ⟨⟨⟨hAB, hA, hB⟩, .inr ⟨hxi, hleast, ⟨oA0.1, oA0.2, oB0.1, oB0.2⟩, .inr (.inr ⟨hd0, ok⟩)⟩⟩, ⟨lk2, d1, d2, d3, d4, ?_, fun j h1 h2 h3 => ?_⟩, fun h => ?_⟩
        · have e1 := d6 B hAB.symm oB0.1 oBl
          rw [setI_self _ _ _ (by rw [hll]; exact hB)] at e1
          rw [e1]
          refine ⟨by rw [Int.toNat_natCast], hlo, d5, ?_⟩
          have e2 := d6 (p % m * 2 + 1) (Ne.symm oA0.2) (by omega) (fun q hq => by have := npl q hq; omega)
          rw [setI_getD _ _ _ _ oB0.2] at e2
          rw [e2]
          refine hrr.same (fun q hq => ⟨?_, ?_⟩)
          · rw [d6 _ (Ne.symm (oAr q hq).1) (by have := npr q hq; omega) (fun s hs => by have := nlr s hs q hq; omega), setI_getD _ _ _ _ (oBr q hq).1]
          · rw [d6 _ (Ne.symm (oAr q hq).2) (by omega) (fun s hs => by have := nlr s hs q hq; omega), setI_getD _ _ _ _ (oBr q hq).2]
        · rw [d6 j h1 (h3 p (BT.mem_node.2 (.inl rfl))).1 (fun q hq => h3 q (ml q hq)), setI_getD _ _ _ _ (Ne.symm h2)]
        · obtain ⟨e1, e2, e3⟩ := hrst h
          refine d7 ⟨i - p, e2, fun q hq => by have := (o1 q hq).1; omega, e1, fun q hq1 hq2 => ?_⟩
          rcases e3 q hq1 (by omega) with h | ⟨r', hr', h6, h7⟩
          · exact .inl h
          · rcases List.mem_append.1 hr' with e | e
            · exact .inr ⟨r', e, h6, h7⟩
            · have := cmn_between L i p r' hpi (hlt r' (mr r' e)) hi (.inr ⟨by omega, k2 r' e⟩)
              left; omega
end Go.Proofs.Ytgoplbngfinbdaa
