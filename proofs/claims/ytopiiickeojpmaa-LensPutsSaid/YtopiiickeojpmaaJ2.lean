import Derived.Test.YtopiiickeojpmaaJ1
/- Layer 10: tables, row by row. -/
namespace Go.Proofs.Ytopiiickeojpmaa
set_option linter.unusedVariables false
set_option maxRecDepth 100000
open KraftMath CanonMath TurnMath Bits
theorem ksum_scale (m : Nat) (hm : m ≤ 16) (l : List Int) (h : ∀ n ∈ l, n ≤ m) : ksum 16 l = 2 ^ (16 - m) * ksum m l := by
  induction l with
  | nil => rfl
  | cons x l ih =>
    simp only [ksum, ih (fun n hn => h n (List.mem_cons_of_mem _ hn)), Nat.mul_add]
    congr 1
    have hx := h x (List.mem_cons_self ..)
    unfold KraftMath.part
    by_cases h1 : 1 ≤ x
    · rw [if_pos ⟨h1, by omega⟩, if_pos ⟨h1, hx⟩, ← Nat.pow_add]
      congr 1
      omega
    · rw [if_neg (by omega), if_neg (by omega)]; simp
theorem check_16 {l : List Int} {m : Nat} (h : check l m = 0) : check l 16 = 0 ∧ (∀ s, s < l.length → len l s ≤ m) ∧ 1 ≤ m ∧ m ≤ 16 := by
  obtain ⟨h1, h2, h3, hb, hk⟩ := (check_ok l m).1 h
  have hsc := ksum_scale m h2 l (fun n hn => (hb n hn).2)
  have hp : 2 ^ (16 - m) * 2 ^ m = 65536 := by rw [← Nat.pow_add, show 16 - m + m = 16 by omega]
  refine ⟨(check_ok l 16).2 ⟨by decide, by decide, h3, fun n hn => ⟨(hb n hn).1, by have := (hb n hn).2; omega⟩, ?_⟩, ?_, h1, h2⟩
  · rcases hk with ⟨hu, hk⟩ | ⟨hu, hk⟩
    · left
      refine ⟨hu, ?_⟩
      rw [hsc, hk]
      obtain ⟨q, rfl⟩ : ∃ q, m = q + 1 := ⟨m - 1, by omega⟩
      rw [Nat.pow_succ] at hp ⊢
      rw [Nat.mul_div_cancel _ (by decide)]
      rw [← Nat.mul_assoc] at hp
      show _ = 32768
      omega
    · right
      exact ⟨hu, by rw [hsc, hk, hp]⟩
  · intro s hs
    have := hb (l.getD s 0) (by simp [List.getD_eq_getElem?_getD, hs])
    unfold len; omega
/-- A table behind the first k symbols. -/
def tabK (l : List Int) (L k : Nat) : List (Int × Int) := (List.range (2 ^ L)).map fun v => (((entK l L k v).1 : Nat), ((entK l L k v).2 : Nat))
theorem tabK_len (l : List Int) (L k : Nat) : (tabK l L k).length = 2 ^ L := by simp [tabK]
theorem tabK_zero (l : List Int) (L : Nat) : tabK l L 0 = List.replicate (2 ^ L) (0, 0) := by
  apply List.ext_getElem
  · simp [tabK]
  · intro i h1 h2
    simp [tabK, entK]
/-- The rows from T on, by steps of q, below i, are e. -/
def fillTo (tab : List (Int × Int)) (T q i : Nat) (e : Int × Int) : List (Int × Int) := (List.range tab.length).map fun v => if v % q = T ∧ v < i then e else tab.getD v (0, 0)
theorem fillTo_len (tab : List (Int × Int)) (T q i : Nat) (e : Int × Int) : (fillTo tab T q i e).length = tab.length := by simp [fillTo]
theorem fillTo_start (tab : List (Int × Int)) (T q : Nat) (e : Int × Int) : fillTo tab T q T e = tab := by
  apply List.ext_getElem
  · simp [fillTo]
  · intro i h1 h2
    simp only [fillTo, List.getElem_map, List.getElem_range]
    rw [if_neg]
    · simp [List.getD_eq_getElem?_getD, h2]
    · rintro ⟨h3, h4⟩
      have := Nat.mod_le i q
      omega
theorem fillTo_step (tab : List (Int × Int)) (T q i : Nat) (e : Int × Int) (hq : 0 < q) (hi : i % q = T) (hlt : i < tab.length) : (fillTo tab T q i e).set i e = fillTo tab T q (i + q) e := by
  apply List.ext_getElem
  · simp [fillTo]
  · intro v h1 h2
    rw [List.getElem_set]
    simp only [fillTo, List.getElem_map, List.getElem_range]
    by_cases hv : i = v
    · subst hv
      rw [if_pos rfl, if_pos ⟨hi, by omega⟩]
    · rw [if_neg hv]
      by_cases h3 : v % q = T
      · by_cases h4 : v < i
        · rw [if_pos ⟨h3, h4⟩, if_pos ⟨h3, by omega⟩]
        · have h5 : ¬ v < i + q := by
            intro h5
            have : (v - i) % q = 0 := by
              have e1 : v % q = i % q := by omega
              exact Nat.sub_mod_eq_zero_of_mod_eq e1
            have h6 : v - i < q := by omega
            rw [Nat.mod_eq_of_lt h6] at this
            omega
          rw [if_neg (by omega), if_neg (by omega)]
      · rw [if_neg (by omega), if_neg (by omega)]
theorem fillTo_tab {l : List Int} (h : check l 16 = 0) {L k i : Nat} (hk : k < l.length) (h0 : len l k ≠ 0) (hL : len l k ≤ L) (hi : 2 ^ L ≤ i) : fillTo (tabK l L k) (turn (code l k) (len l k)) (2 ^ len l k) i ((k : Nat), (len l k : Nat)) = tabK l L (k + 1) := by
  apply List.ext_getElem
  · simp [fillTo, tabK]
  · intro v h1 h2
    have hv : v < 2 ^ L := by simpa [tabK] using h2
    simp only [fillTo, List.getElem_map, List.getElem_range, tabK]
    rw [entK_succ h hk, hitAt_mod hL]
    by_cases hm : v % 2 ^ len l k = turn (code l k) (len l k)
    · rw [if_pos ⟨hm, by omega⟩, if_pos (by simp [h0, hm])]
    · rw [if_neg (by omega), if_neg (by simp [hm])]
      simp [List.getD_eq_getElem?_getD, hv]
theorem tab_skip {l : List Int} (h : check l 16 = 0) {L k : Nat} (hk : k < l.length) (h0 : len l k = 0) : tabK l L (k + 1) = tabK l L k := by
  unfold tabK
  refine List.map_congr_left fun v hv => ?_
  rw [entK_succ h hk]
  have : hitAt l (bitsOf v L) k = false := by unfold hitAt; simp [h0]
  rw [this]; rfl
end Go.Proofs.Ytopiiickeojpmaa
