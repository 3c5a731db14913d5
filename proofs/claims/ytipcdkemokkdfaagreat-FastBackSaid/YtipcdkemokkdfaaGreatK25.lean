import Derived.Test.YtipcdkemokkdfaaGreatK24
import Derived.Test.YtipcdkemokkdfaaGreatK02
import Derived.Test.YtipcdkemokkdfaaGreatK20
import Derived.Test.YtipcdkemokkdfaaGreatK19
import Derived.Test.YtipcdkemokkdfaaGreatK23
import Derived.Deep.WholeRow
import Derived.Great.BuildSlice
import Derived.Test.YtipcdkemokkdfaaGreatK01
import Derived.IntWalk
import Derived.Lib.UnsafeStr
/- Layer 10: tables of codes: mathematics. -/
namespace Go.Proofs.YtipcdkemokkdfaaGreat
set_option linter.unusedVariables false
set_option maxRecDepth 100000
open KraftMath CanonMath TurnMath Bits
theorem dec_short9 {l : List Int} {row : List Bool} (h : check l 16 = 0) (hn : ∀ s, ¬ Hit l row s) {s : Nat} (hs : s < l.length) (hlt : row.length < len l s) : decL l row = (0, 0, 3) := by
  rw [decL_none h hn, if_pos]
  obtain ⟨t, ht, h0, hb⟩ := no_gap h hn ⟨s, hs, hlt⟩
  rw [List.any_eq_true]
  refine ⟨t, List.mem_range.2 ht, ?_⟩
  unfold shortAt
  rw [Bool.and_eq_true, decide_eq_true_iff]
  exact ⟨h0, hb⟩
theorem dec_form9 {l : List Int} {row : List Bool} (h : check l 16 = 0) (hn : ∀ s, ¬ Hit l row s) (hle : ∀ s, s < l.length → len l s ≤ row.length) : decL l row = (0, 0, 4) := by
  rw [decL_none h hn, if_neg]
  rw [List.any_eq_true]
  rintro ⟨t, ht, h2⟩
  have ht := List.mem_range.1 ht
  unfold shortAt at h2
  rw [Bool.and_eq_true, decide_eq_true_iff, begL_row] at h2
  obtain ⟨h0, h3, h4⟩ := h2
  have hl := hle t ht
  refine hn t ?_
  rw [hit_iff h]
  have e : len l t = row.length := by omega
  refine ⟨ht, h0, hl, ?_⟩
  rw [e, Nat.sub_self, Nat.pow_zero, Nat.div_one] at h4
  have hc := ok_c h ht
  rw [e] at hc ⊢
  rw [List.take_length, ← h4, val_msb _ _ hc]
theorem word_msb (c : Nat) : ∀ n, wordOf (msb c n) = turn c n
  | 0 => rfl
  | n + 1 => by
    rw [msb, wordOf, word_msb c n, turn]
    by_cases h : c / 2 ^ n % 2 = 1
    · rw [h]; simp; omega
    · have h0 : c / 2 ^ n % 2 = 0 := by omega
      rw [h0]; simp
theorem word_inj {a b : List Bool} (h : a.length = b.length) (h2 : wordOf a = wordOf b) : a = b := by
  rw [← bitsOf_wordOf a, ← bitsOf_wordOf b, h, h2]
theorem bits_take (v n k : Nat) (h : k ≤ n) : (bitsOf v n).take k = bitsOf v k := by
  refine word_inj (by rw [List.length_take, bitsOf_length, bitsOf_length]; omega) ?_
  rw [wordOf_take, wordOf_bitsOf, wordOf_bitsOf, Nat.mod_mod_of_dvd _ (Nat.pow_dvd_pow 2 h)]
theorem begL_bits {v L c n : Nat} (hn : n ≤ L) : begL (bitsOf v L) (msb c n) = true ↔ v % 2 ^ n = turn c n := by
  unfold begL
  rw [msb_len, bitsOf_length, Bool.and_eq_true, decide_eq_true_iff, decide_eq_true_iff, bits_take v L n hn]
  constructor
  · rintro ⟨-, h⟩
    rw [← word_msb, ← h, wordOf_bitsOf]
  · intro h
    exact ⟨hn, word_inj (by rw [bitsOf_length, msb_len]) (by rw [wordOf_bitsOf, word_msb, h])⟩
/-- The entry of a number of L bits, as far as the first k symbols tell. -/
def entK (l : List Int) (L k v : Nat) : Nat × Nat := match (List.range k).find? (hitAt l (bitsOf v L)) with
  | some s => (s, len l s)
  | none => (0, 0)
theorem find_succ {α : Type} (p : Nat → Bool) (k : Nat) : (List.range (k + 1)).find? p = ((List.range k).find? p).or (if p k then some k else none) := by
  rw [List.range_succ, List.find?_append]
  simp only [List.find?_cons, List.find?_nil]
  cases p k <;> simp
theorem entK_succ {l : List Int} (h : check l 16 = 0) {L k v : Nat} (hk : k < l.length) : entK l L (k + 1) v = if hitAt l (bitsOf v L) k then (k, len l k) else entK l L k v := by
  unfold entK
  rw [find_succ (α := Nat)]
  cases hf : (List.range k).find? (hitAt l (bitsOf v L)) with
  | none =>
    simp only [Option.none_or]
    cases hitAt l (bitsOf v L) k <;> rfl
  | some s =>
    simp only [Option.some_or]
    have h1 := List.find?_some hf
    have h2 := List.mem_range.1 (List.mem_of_find?_eq_some hf)
    cases hh : hitAt l (bitsOf v L) k with
    | false => rfl
    | true =>
      have := hit_one h ((hitAt_iff (by omega)).1 h1) ((hitAt_iff hk).1 hh)
      omega
theorem hitAt_mod {l : List Int} {L k v : Nat} (hL : len l k ≤ L) : hitAt l (bitsOf v L) k = (decide (len l k ≠ 0) && decide (v % 2 ^ len l k = turn (code l k) (len l k))) := by
  unfold hitAt
  congr 1
  rw [Bool.eq_iff_iff, begL_bits hL, decide_eq_true_iff]
def entB (l : List Int) (L v : Nat) : Nat × Nat := entK l L l.length v
theorem entB_hit {l : List Int} (h : check l 16 = 0) {L v s : Nat} (hh : Hit l (bitsOf v L) s) : entB l L v = (s, len l s) := by
  unfold entB entK
  cases hf : (List.range l.length).find? (hitAt l (bitsOf v L)) with
  | none =>
    rw [List.find?_eq_none] at hf
    exact absurd ((hitAt_iff hh.1).2 hh) (by simpa using hf s (List.mem_range.2 hh.1))
  | some t =>
    have h1 := List.find?_some hf
    have h2 := List.mem_range.1 (List.mem_of_find?_eq_some hf)
    have : t = s := hit_one h ((hitAt_iff h2).1 h1) hh
    rw [this]
theorem entB_none {l : List Int} {L v : Nat} (hh : ∀ s, ¬ Hit l (bitsOf v L) s) : entB l L v = (0, 0) := by
  unfold entB entK
  cases hf : (List.range l.length).find? (hitAt l (bitsOf v L)) with
  | none => rfl
  | some t =>
    have h1 := List.find?_some hf
    have h2 := List.mem_range.1 (List.mem_of_find?_eq_some hf)
    exact absurd ((hitAt_iff h2).1 h1) (hh t)
def padL (rest : List Bool) (L : Nat) : List Bool := rest.take L ++ List.replicate (L - (rest.take L).length) false
theorem word_pad (a : List Bool) (k : Nat) : wordOf (a ++ List.replicate k false) = wordOf a := by
  rw [wordOf_append]
  have : wordOf (List.replicate k false) = 0 := by
    induction k with
    | zero => rfl
    | succ k ih => rw [List.replicate_succ, wordOf, ih]; rfl
  rw [this]; simp
theorem pad_len (rest : List Bool) (L : Nat) : (padL rest L).length = L := by
  unfold padL; rw [List.length_append, List.length_replicate, List.length_take]; omega
theorem bits_peek (rest : List Bool) (L : Nat) : bitsOf (peek rest L) L = padL rest L := by
  refine word_inj (by rw [bitsOf_length, pad_len]) ?_
  rw [wordOf_bitsOf, Nat.mod_eq_of_lt (peek_lt rest L)]
  unfold padL
  rw [word_pad]; rfl
theorem pad_take (rest : List Bool) (L n : Nat) (h : n ≤ rest.length) (hL : n ≤ L) : (padL rest L).take n = rest.take n := by
  unfold padL
  rw [List.take_append_of_le_length (by rw [List.length_take]; omega), List.take_take, Nat.min_eq_left hL]
/-- A full row begins with a code, if the codes leave no gap. -/
theorem full_hit {l : List Int} (h : check l 16 = 0) (hk : ksum 16 l = 65536) {row : List Bool} (hr : row.length ≤ 16) (hle : ∀ s, s < l.length → len l s ≤ row.length) : ∃ s, Hit l row s := by
  have htk : takes l (ord l) = ksum 16 l := by unfold ord; rw [takes_upto, ksum_below]
  rw [hk] at htk
  have hv := val_lt row
  have hp : 2 ^ row.length * 2 ^ (16 - row.length) = 2 ^ 16 := by rw [← Nat.pow_add, show row.length + (16 - row.length) = 16 by omega]
  have hq : 0 < 2 ^ (16 - row.length) := Nat.pow_pos (by decide)
  have hx : val row * 2 ^ (16 - row.length) < takes l (ord l) := by
    rw [htk, show (65536 : Nat) = 2 ^ 16 from rfl, ← hp]; exact Nat.mul_lt_mul_of_pos_right hv hq
  obtain ⟨s, hs, lo, hi⟩ := within l _ hx
  obtain ⟨m1, m2, m3, m4⟩ := (mem_ord l s).1 hs
  have hls := hle s m1
  refine ⟨s, (hit_iff h).2 ⟨m1, by omega, hls, ?_⟩⟩
  have e1 : 2 ^ (16 - len l s) = 2 ^ (row.length - len l s) * 2 ^ (16 - row.length) := by rw [← Nat.pow_add, show row.length - len l s + (16 - row.length) = 16 - len l s by omega]
  rw [e1, ← Nat.mul_assoc] at lo hi
  have lo2 := Nat.le_of_mul_le_mul_right lo hq
  have hi2 := Nat.lt_of_mul_lt_mul_right hi
  have hv2 := val_take row (len l s) row.length hls (Nat.le_refl _)
  rw [List.take_length] at hv2
  rw [← hv2]
  exact Nat.div_eq_of_lt_le lo2 hi2
def nextL (l : List Int) (L : Nat) (rest : List Bool) : Int × Int × Int :=
  if (entB l L (peek rest L)).2 = 0 then (0, 0, 4) else if rest.length < (entB l L (peek rest L)).2 then (0, 0, 3) else (((entB l L (peek rest L)).1 : Nat), ((entB l L (peek rest L)).2 : Nat), 0)
theorem pad_hit {l : List Int} (h : check l 16 = 0) {L : Nat} {rest : List Bool} {s : Nat} (hL : len l s ≤ L) (hr : len l s ≤ rest.length) : Hit l (padL rest L) s ↔ Hit l rest s := by
  rw [hit_iff h, hit_iff h, pad_len, pad_take rest L _ hr hL]
  exact ⟨fun ⟨a, b, c, d⟩ => ⟨a, b, hr, d⟩, fun ⟨a, b, c, d⟩ => ⟨a, b, hL, d⟩⟩
theorem single {l : List Int} (h : check l 16 = 0) (hu : used l = 1) (hk : ksum 16 l = 32768) : ∃ z, z < l.length ∧ len l z = 1 ∧ ∀ s, s < l.length → len l s ≠ 0 → s = z := by
  obtain ⟨-, -, -, hb, -⟩ := (check_ok l 16).1 h
  have hord := ord_length l hb
  rw [hu] at hord
  have htk : takes l (ord l) = ksum 16 l := by unfold ord; rw [takes_upto, ksum_below]
  obtain ⟨z, hz⟩ := List.length_eq_one_iff.1 hord
  have hzm : z ∈ ord l := by rw [hz]; simp
  obtain ⟨m1, m2, m3, m4⟩ := (mem_ord l z).1 hzm
  rw [hz, hk] at htk
  simp only [takes, Nat.add_zero] at htk
  refine ⟨z, m1, ?_, ?_⟩
  · refine Decidable.byContradiction fun hne => ?_
    have : 2 ^ (16 - len l z) ≤ 2 ^ 14 := Nat.pow_le_pow_right (by decide) (by omega)
    omega
  · intro s hs h0
    have : s ∈ ord l := (mem_ord l s).2 ⟨hs, by omega, (ok_b h s hs).2, by have := lenI h hs; omega⟩
    rw [hz] at this
    simpa using this
theorem next_dec {l : List Int} (h : check l 16 = 0) {L : Nat} (hL : ∀ s, s < l.length → len l s ≤ L) (hL16 : L ≤ 16) (hL1 : 1 ≤ L) (rest : List Bool) (hd : ∀ s, ¬ Hit l rest s → True) : nextL l L rest = (decL l rest : Int × Int × Int) := by
  unfold nextL
  by_cases hh : ∃ s, Hit l (padL rest L) s
  · obtain ⟨s, hs⟩ := hh
    have e := entB_hit h (L := L) (v := peek rest L) (s := s) (by rw [bits_peek]; exact hs)
    have hsl := hs.1
    have hs0 := hs.2.1
    rw [e]
    simp only
    rw [if_neg hs0]
    by_cases hr : rest.length < len l s
    · rw [if_pos hr]
      refine (dec_short9 h ?_ hsl hr).symm
      intro t ht
      have htl := ((hit_iff h).1 ht).2.2.1
      have := hit_one h ((pad_hit h (hL t ht.1) htl).2 ht) hs
      subst this
      omega
    · rw [if_neg hr]
      exact (decL_hit h ((pad_hit h (hL s hsl) (by omega)).1 hs)).symm
  · have hno : ∀ s, ¬ Hit l (padL rest L) s := fun s hs => hh ⟨s, hs⟩
    have e := entB_none (l := l) (L := L) (v := peek rest L) (by rw [bits_peek]; exact hno)
    rw [e]
    simp only [if_true]
    rcases ((check_ok l 16).1 h).2.2.2.2 with ⟨hu, hk⟩ | ⟨hu, hk⟩
    · obtain ⟨z, hz1, hz2, hz3⟩ := single h hu hk
      have hnr : ∀ s, ¬ Hit l rest s := by
        intro s hs
        exact hno s ((pad_hit h (hL s hs.1) (((hit_iff h).1 hs).2.2.1)).2 hs)
      by_cases hr : 1 ≤ rest.length
      · refine (dec_form9 h hnr ?_).symm
        intro s hs
        by_cases h0 : len l s = 0
        · omega
        · rw [hz3 s hs h0, hz2]; exact hr
      · exfalso
        have hre : rest = [] := List.length_eq_zero_iff.1 (by omega)
        subst hre
        refine hno z ((hit_iff h).2 ⟨hz1, by omega, by rw [pad_len, hz2]; exact hL1, ?_⟩)
        rw [hz2]
        have hc := code_first l z (by
          obtain ⟨-, -, -, hb, -⟩ := (check_ok l 16).1 h
          have hord := ord_length l hb
          rw [hu] at hord
          obtain ⟨y, hy⟩ := List.length_eq_one_iff.1 hord
          have hzm : z ∈ ord l := (mem_ord l z).2 ⟨hz1, by omega, by omega, by have := lenI h hz1; omega⟩
          rw [hy] at hzm ⊢
          simp at hzm
          subst hzm; rfl)
        rw [hc]
        unfold padL
        obtain ⟨M, rfl⟩ : ∃ M, L = M + 1 := ⟨L - 1, by omega⟩
        simp [List.replicate_succ, val]
    · exfalso
      obtain ⟨s, hs⟩ := full_hit h hk (row := padL rest L) (by rw [pad_len]; exact hL16) (by intro s hs; rw [pad_len]; exact hL s hs)
      exact hno s hs
end Go.Proofs.YtipcdkemokkdfaaGreat

/- Layer 10: tables, row by row. -/
namespace Go.Proofs.YtipcdkemokkdfaaGreat
set_option linter.unusedVariables false
set_option maxRecDepth 100000
open KraftMath CanonMath TurnMath Bits
theorem ksum_scale (m : Nat) (hm : m ≤ 16) (l : List Int) (h : ∀ n ∈ l, n ≤ m) : ksum 16 l = 2 ^ (16 - m) * ksum m l := by
  induction l with
  | nil => rfl
  | cons x l ih =>
    simp only [ksum, ih (fun n hn => h n (List.mem_cons_of_mem _ hn)), Nat.mul_add]
    congr 1
    have hx := h x (List.mem_cons_self ..)
    unfold KraftMath.part
    by_cases h1 : 1 ≤ x
    · rw [if_pos ⟨h1, by omega⟩, if_pos ⟨h1, hx⟩, ← Nat.pow_add]
      congr 1
      omega
    · rw [if_neg (by omega), if_neg (by omega)]; simp
theorem check_16 {l : List Int} {m : Nat} (h : check l m = 0) : check l 16 = 0 ∧ (∀ s, s < l.length → len l s ≤ m) ∧ 1 ≤ m ∧ m ≤ 16 := by
  obtain ⟨h1, h2, h3, hb, hk⟩ := (check_ok l m).1 h
  have hsc := ksum_scale m h2 l (fun n hn => (hb n hn).2)
  have hp : 2 ^ (16 - m) * 2 ^ m = 65536 := by rw [← Nat.pow_add, show 16 - m + m = 16 by omega]
  refine ⟨(check_ok l 16).2 ⟨by decide, by decide, h3, fun n hn => ⟨(hb n hn).1, by have := (hb n hn).2; omega⟩, ?_⟩, ?_, h1, h2⟩
  · rcases hk with ⟨hu, hk⟩ | ⟨hu, hk⟩
    · left
      refine ⟨hu, ?_⟩
      rw [hsc, hk]
      obtain ⟨q, rfl⟩ : ∃ q, m = q + 1 := ⟨m - 1, by omega⟩
      rw [Nat.pow_succ] at hp ⊢
      rw [Nat.mul_div_cancel _ (by decide)]
      rw [← Nat.mul_assoc] at hp
      show _ = 32768
      omega
    · right
      exact ⟨hu, by rw [hsc, hk, hp]⟩
  · intro s hs
    have := hb (l.getD s 0) (by simp [List.getD_eq_getElem?_getD, hs])
    unfold len; omega
/-- A table behind the first k symbols. -/
def tabK (l : List Int) (L k : Nat) : List (Int × Int) := (List.range (2 ^ L)).map fun v => (((entK l L k v).1 : Nat), ((entK l L k v).2 : Nat))
theorem tabK_len (l : List Int) (L k : Nat) : (tabK l L k).length = 2 ^ L := by simp [tabK]
theorem tabK_zero (l : List Int) (L : Nat) : tabK l L 0 = List.replicate (2 ^ L) (0, 0) := by
  apply List.ext_getElem
  · simp [tabK]
  · intro i h1 h2
    simp [tabK, entK]
/-- The rows from T on, by steps of q, below i, are e. -/
def fillTo (tab : List (Int × Int)) (T q i : Nat) (e : Int × Int) : List (Int × Int) := (List.range tab.length).map fun v => if v % q = T ∧ v < i then e else tab.getD v (0, 0)
theorem fillTo_len (tab : List (Int × Int)) (T q i : Nat) (e : Int × Int) : (fillTo tab T q i e).length = tab.length := by simp [fillTo]
theorem fillTo_start (tab : List (Int × Int)) (T q : Nat) (e : Int × Int) : fillTo tab T q T e = tab := by
  apply List.ext_getElem
  · simp [fillTo]
  · intro i h1 h2
    simp only [fillTo, List.getElem_map, List.getElem_range]
    rw [if_neg]
    · simp [List.getD_eq_getElem?_getD, h2]
    · rintro ⟨h3, h4⟩
      have := Nat.mod_le i q
      omega
theorem fillTo_step (tab : List (Int × Int)) (T q i : Nat) (e : Int × Int) (hq : 0 < q) (hi : i % q = T) (hlt : i < tab.length) : (fillTo tab T q i e).set i e = fillTo tab T q (i + q) e := by
  apply List.ext_getElem
  · simp [fillTo]
  · intro v h1 h2
    rw [List.getElem_set]
    simp only [fillTo, List.getElem_map, List.getElem_range]
    by_cases hv : i = v
    · subst hv
      rw [if_pos rfl, if_pos ⟨hi, by omega⟩]
    · rw [if_neg hv]
      by_cases h3 : v % q = T
      · by_cases h4 : v < i
        · rw [if_pos ⟨h3, h4⟩, if_pos ⟨h3, by omega⟩]
        · have h5 : ¬ v < i + q := by
            intro h5
            have : (v - i) % q = 0 := by
              have e1 : v % q = i % q := by omega
              exact Nat.sub_mod_eq_zero_of_mod_eq e1
            have h6 : v - i < q := by omega
            rw [Nat.mod_eq_of_lt h6] at this
            omega
          rw [if_neg (by omega), if_neg (by omega)]
      · rw [if_neg (by omega), if_neg (by omega)]
theorem fillTo_tab {l : List Int} (h : check l 16 = 0) {L k i : Nat} (hk : k < l.length) (h0 : len l k ≠ 0) (hL : len l k ≤ L) (hi : 2 ^ L ≤ i) : fillTo (tabK l L k) (turn (code l k) (len l k)) (2 ^ len l k) i ((k : Nat), (len l k : Nat)) = tabK l L (k + 1) := by
  apply List.ext_getElem
  · simp [fillTo, tabK]
  · intro v h1 h2
    have hv : v < 2 ^ L := by simpa [tabK] using h2
    simp only [fillTo, List.getElem_map, List.getElem_range, tabK]
    rw [entK_succ h hk, hitAt_mod hL]
    by_cases hm : v % 2 ^ len l k = turn (code l k) (len l k)
    · rw [if_pos ⟨hm, by omega⟩, if_pos (by simp [h0, hm])]
    · rw [if_neg (by omega), if_neg (by simp [hm])]
      simp [List.getD_eq_getElem?_getD, hv]
theorem tab_skip {l : List Int} (h : check l 16 = 0) {L k : Nat} (hk : k < l.length) (h0 : len l k = 0) : tabK l L (k + 1) = tabK l L k := by
  unfold tabK
  refine List.map_congr_left fun v hv => ?_
  rw [entK_succ h hk]
  have : hitAt l (bitsOf v L) k = false := by unfold hitAt; simp [h0]
  rw [this]; rfl
end Go.Proofs.YtipcdkemokkdfaaGreat

/- Layer 13: what is written, and what is read: mathematics. -/
namespace Go.Proofs.YtipcdkemokkdfaaGreat
set_option linter.unusedVariables false
set_option maxRecDepth 100000
open Bits hiding packF pack_length
open RunsMath KraftMath CanonMath Pm
/-- How often each symbol of runs occurs. -/
def cntR (r : List Run) : List Int := (List.range 19).map fun (s : Nat) => (((r.filter fun x => x.1 == (s : Int)).length : Nat) : Int)
theorem cntR_len (r : List Run) : (cntR r).length = 19 := by simp [cntR]
theorem cntR_at (r : List Run) (s : Nat) (h : s < 19) : (cntR r).getD s 0 = (((r.filter fun x => x.1 == (s : Int)).length : Nat) : Int) := by
  simp [cntR, List.getD_eq_getElem?_getD, h]
theorem cntR_nil : cntR [] = List.replicate 19 0 := by decide
theorem cntR_next (r : List Run) (x : Run) (k : Nat) (hx : x.1 = (k : Int)) (hk : k < 19) : cntR (r ++ [x]) = (cntR r).set k ((cntR r).getD k 0 + 1) := by
  apply List.ext_getElem
  · simp [cntR]
  · intro i h1 h2
    have hi : i < 19 := by simpa [cntR] using h1
    rw [← idx_get _ _ h1, ← idx_get _ _ h2, getD_set _ _ _ _ (by rw [cntR_len]; exact hk), cntR_at _ _ hi, cntR_at _ _ hi, List.filter_append, List.length_append]
    by_cases h : k = i
    · subst h
      rw [if_pos rfl, cntR_at r k hk]
      simp [hx]
    · rw [if_neg h]
      have : (x.1 == (i : Int)) = false := by rw [beq_eq_false_iff_ne, hx]; omega
      simp [this]
theorem cntR_le (r : List Run) (s : Nat) : 0 ≤ (cntR r).getD s 0 ∧ (cntR r).getD s 0 ≤ r.length := by
  by_cases h : s < 19
  · rw [cntR_at r s h]
    have := List.length_filter_le (fun x : Run => x.1 == (s : Int)) r
    omega
  · rw [List.getD_eq_getElem?_getD, List.getElem?_eq_none (by rw [cntR_len]; omega)]
    simp
theorem cntR_pos {r : List Run} {x : Run} (hx : x ∈ r) {k : Nat} (hk : x.1 = (k : Int)) (h : k < 19) : 0 < (cntR r).getD k 0 := by
  rw [cntR_at r k h]
  have : 0 < (r.filter fun x => x.1 == (k : Int)).length := List.length_pos_iff.2 (fun e => by
    have : x ∈ r.filter fun x => x.1 == (k : Int) := List.mem_filter.2 ⟨hx, by rw [hk]; simp⟩
    rw [e] at this; cases this)
  omega
def ofR (r : List Run) : List Int := lensV (cntR r) 7
/-- Runs that may be written. -/
structure RunsOk (r : List Run) : Prop where
  some : r ≠ []
  few : r.length ≤ 1024
  fine : ∀ x ∈ r, 0 ≤ x.1 ∧ x.1 ≤ 18 ∧ 0 ≤ x.2 ∧ x.2 < 2 ^ extra x.1
theorem fine_facts {x : Run} (h : fine x = true) : 0 ≤ x.1 ∧ x.1 ≤ 18 ∧ 0 ≤ x.2 ∧ x.2 < 2 ^ extra x.1 := by
  unfold fine at h
  exact of_decide_eq_true h
theorem packF_fine : ∀ (f : Nat) (a : Int) (l : List Int), (∀ x ∈ l, 0 ≤ x ∧ x ≤ 15) → ∀ x ∈ packF f a l, fine x = true
  | 0, a, l, h, x, hx => by cases l <;> simp [packF] at hx
  | f + 1, a, [], h, x, hx => by simp [packF] at hx
  | f + 1, a, y :: l, h, x, hx => by
    simp only [packF, List.mem_cons] at hx
    rcases hx with rfl | hx
    · exact first_fine _ _ _ (h y List.mem_cons_self) (by simp [same])
    · exact packF_fine f _ _ (fun z hz => h z (List.mem_of_mem_drop hz)) x hx
theorem packF_some (f : Nat) (a y : Int) (l : List Int) : packF (f + 1) a (y :: l) ≠ [] := by simp [packF]
theorem pack_ok {l : List Int} (h0 : l ≠ []) (hl : l.length ≤ 1024) (hb : okB l = true) : RunsOk (packL l) := by
  have hx := (okB_iff l).1 hb
  unfold packL
  rw [if_pos hb]
  refine ⟨?_, Nat.le_trans (pack_length _ _ _ (Nat.le_refl _) hx) hl, fun x h => fine_facts (packF_fine _ _ _ hx x h)⟩
  obtain ⟨y, l, rfl⟩ : ∃ y t, l = y :: t := by cases l with | nil => exact absurd rfl h0 | cons y t => exact ⟨y, t, rfl⟩
  exact packF_some _ _ _ _
theorem RunsOk.chk {r : List Run} (h : RunsOk r) : chkP (cntR r) ((7 : Nat) : Int) = 0 := by
  unfold chkP
  rw [if_neg (by decide), cntR_len, if_neg (by decide)]
  have hb : (cntR r).any badF = false := by
    rw [← Bool.not_eq_true]
    intro hh
    obtain ⟨v, hv, hbad⟩ := List.any_eq_true.1 hh
    obtain ⟨i, hi, e⟩ := List.mem_iff_getElem.1 hv
    have h1 := cntR_le r i
    rw [List.getD_eq_getElem?_getD, List.getElem?_eq_getElem hi, e] at h1
    have h2 := h.few
    simp only [Option.getD_some] at h1
    unfold badF at hbad
    simp at hbad
    omega
  rw [hb, if_neg (by decide)]
  have hu : used (cntR r) ≠ 0 := by
    intro hu
    obtain ⟨x, t, e⟩ : ∃ x t, r = x :: t := by cases r with | nil => exact absurd rfl h.some | cons x t => exact ⟨x, t, rfl⟩
    have hm : x ∈ r := by rw [e]; exact List.mem_cons_self
    obtain ⟨f1, f2, -, -⟩ := h.fine x hm
    have hp := cntR_pos hm (k := x.1.toNat) (by omega) (by omega)
    have hs := used_succ (cntR r) x.1.toNat (by rw [cntR_len]; omega)
    rw [if_pos hp] at hs
    have h3 : used ((cntR r).take (x.1.toNat + 1)) ≤ used (cntR r) := by
      conv => rhs; rw [← List.take_append_drop (x.1.toNat + 1) (cntR r), used_append]
      omega
    omega
  rw [if_neg hu]
  have hul := used_le (cntR r)
  rw [cntR_len] at hul
  rw [if_neg]
  have : 2 ^ ((7 : Nat) : Int).toNat = 128 := by decide
  omega
theorem ofR_len (r : List Run) : (ofR r).length = 19 := by unfold ofR; rw [lensV_len, cntR_len]
theorem RunsOk.of_bd {r : List Run} (h : RunsOk r) (i : Nat) : 0 ≤ (ofR r).getD i 0 ∧ (ofR r).getD i 0 ≤ 7 ∧ (0 < (ofR r).getD i 0 ↔ 0 < (cntR r).getD i 0) := by
  have := lensV_bd (cntR r) 7 h.chk i
  exact this
theorem RunsOk.chk7 {r : List Run} (h : RunsOk r) : check (ofR r) ((7 : Nat) : Int) = 0 := (lens_may (cntR r) 7 h.chk).2.1
theorem RunsOk.chk16 {r : List Run} (h : RunsOk r) : check (ofR r) 16 = 0 ∧ (∀ s, s < (ofR r).length → len (ofR r) s ≤ 7) := by
  have := check_16 h.chk7
  exact ⟨this.1, this.2.1⟩
theorem RunsOk.sym {r : List Run} (h : RunsOk r) {x : Run} (hx : x ∈ r) : ∃ s : Nat, x.1 = s ∧ s < 19 ∧ 1 ≤ len (ofR r) s ∧ len (ofR r) s ≤ 7 ∧ ∃ m : Nat, x.2 = m ∧ m < 2 ^ extra x.1 ∧ goodS (ofR r) x.1 = true := by
  obtain ⟨f1, f2, f3, f4⟩ := h.fine x hx
  obtain ⟨s, hs⟩ : ∃ s : Nat, x.1 = s := ⟨x.1.toNat, by omega⟩
  obtain ⟨m, hm⟩ : ∃ m : Nat, x.2 = m := ⟨x.2.toNat, by omega⟩
  have hb := h.of_bd s
  have hp := hb.2.2.2 (cntR_pos hx hs (by omega))
  have hl : len (ofR r) s = ((ofR r).getD s 0).toNat := rfl
  refine ⟨s, hs, by omega, by omega, by omega, m, hm, ?_, ?_⟩
  · rw [hm] at f4
    have e : ((2 : Int) ^ extra x.1) = ((2 ^ extra x.1 : Nat) : Int) := by simp
    rw [e] at f4
    omega
  · unfold goodS
    rw [hs, ofR_len, Int.toNat_natCast, decide_eq_true (show (0 : Int) ≤ (s : Int) by omega), decide_eq_true (show (s : Int) < ((19 : Nat) : Int) by omega), decide_eq_true (show (ofR r).getD s 0 ≠ 0 by omega)]
    rfl
def placesN : List Nat := [16, 17, 18, 0, 8, 7, 9, 6, 10, 5, 11, 4, 12, 3, 13, 2, 14, 1, 15]
def placesI : List Int := placesN.map (fun (s : Nat) => (s : Int))
theorem places_lt (i : Nat) (h : i < 19) : placesN.getD i 0 < 19 := by
  have : ∀ i, i < 19 → placesN.getD i 0 < 19 := by decide
  exact this i h
/-- How many lengths are written. -/
def headN (o : List Int) : Nat → Nat
  | 0 => 0
  | k + 1 => if 4 < k + 1 ∧ o.getD (placesN.getD k 0) 0 = 0 then headN o k else k + 1
theorem headN_le (o : List Int) : ∀ k, headN o k ≤ k
  | 0 => Nat.le_refl _
  | k + 1 => by
    unfold headN
    split
    · exact Nat.le_succ_of_le (headN_le o k)
    · exact Nat.le_refl _
theorem headN_ge (o : List Int) : ∀ k, 4 ≤ k → 4 ≤ headN o k
  | 0, h => by omega
  | k + 1, h => by
    unfold headN
    split
    · rename_i hc
      exact headN_ge o k (by omega)
    · exact h
def lenB (o : List Int) (i : Nat) : List Bool := bitsOf (len o (placesN.getD i 0)) 3
def headTo (o : List Int) (N k : Nat) : List Bool := bitsOf (N - 4) 4 ++ (List.range k).flatMap (lenB o)
def headB (o : List Int) : List Bool := headTo o (headN o 19) (headN o 19)
def runB (o : List Int) (x : Run) : List Bool := bitsS o x.1 ++ bitsOf x.2.toNat (extra x.1)
def writeB (r : List Run) (o : List Int) : List Bool := headB o ++ r.flatMap (runB o)
theorem headTo_next (o : List Int) (N k : Nat) : headTo o N (k + 1) = headTo o N k ++ lenB o k := by
  unfold headTo
  rw [List.range_succ, List.flatMap_append, List.append_assoc]; simp
theorem headTo_len (o : List Int) (N k : Nat) : (headTo o N k).length = 4 + 3 * k := by
  induction k with
  | zero => simp [headTo, bitsOf_length]
  | succ k ih => rw [headTo_next, List.length_append, ih]; simp [lenB, bitsOf_length]; omega
theorem runs_next (o : List Int) (r : List Run) (k : Nat) (h : k < r.length) : (r.take (k + 1)).flatMap (runB o) = (r.take k).flatMap (runB o) ++ runB o (r.getD k (0, 0)) := by
  rw [List.take_succ_eq_append_getElem h, List.flatMap_append, List.getD_eq_getElem?_getD, List.getElem?_eq_getElem h]; simp
theorem extra7 (s : Int) : extra s ≤ 7 := by unfold extra; split; omega; split; omega; split <;> omega
theorem runs_len {r : List Run} (h : RunsOk r) : ∀ k, k ≤ r.length → ((r.take k).flatMap (runB (ofR r))).length ≤ 14 * k := by
  intro k
  induction k with
  | zero => intro _; simp
  | succ k ih =>
    intro hk
    rw [runs_next _ _ _ (by omega), List.length_append]
    have hx : r.getD k (0, 0) ∈ r := by rw [List.getD_eq_getElem?_getD, List.getElem?_eq_getElem (by omega)]; exact List.getElem_mem _
    obtain ⟨s, hs, -, -, h7, -⟩ := h.sym hx
    have h8 := extra7 (r.getD k (0, 0)).1
    have : (runB (ofR r) (r.getD k (0, 0))).length ≤ 14 := by
      unfold runB bitsS
      rw [List.length_append, bitsOf_length, msb_len, hs, Int.toNat_natCast]
      rw [hs] at h8
      omega
    have := ih (by omega)
    omega
end Go.Proofs.YtipcdkemokkdfaaGreat

/- Layer 13: the order of places; whether lengths may be written. -/
namespace Go.Proofs.YtipcdkemokkdfaaGreat
open Go.ChangeShapes Go.WideShapes Go.ChangeAt Go.RowKit
set_option linter.unusedVariables false
set_option linter.unusedSimpArgs false
set_option maxRecDepth 100000
open Bits hiding packF pack_length
open RunsMath KraftMath CanonMath
theorem arr19 : ∃ Z : Array Value, Z.size = 19 ∧ (∀ w, (zeroValue 136).run Tryz.prog w = .ok (.agg Z) w) ∧ (Tryz.prog.info? 136).map (·.size) = some 19 := by
  obtain ⟨hz, hi⟩ := zero_of_info (P := Tryz.prog) (t := 136) (v := .agg (Array.replicate 19 (.int .i64 0))) (n := 19) (by kernel_rfl)
  exact ⟨_, by simp, hz, hi⟩
theorem places_len : placesI.length = 19 := by decide
theorem placesA_size : (arrI placesI).size = 19 := by rw [arrI_size, places_len]
def PlAt (w : World) (g : Nat) : Prop := w.heap[g]? = some (.cells (arrI placesI) 136 (0, 0))
theorem PlAt.cell {w : World} {g : Nat} (h : PlAt w g) (i : Nat) (hi : i < 19) : w.cell? ⟨g, i, none⟩ = some (.int .i64 ((placesN.getD i 0 : Nat) : Int)) := by
  refine (cell_in h i).trans ?_
  rw [arrI_get placesI i (by rw [places_len]; exact hi)]
  congr 2
  unfold placesI
  have hl : i < placesN.length := hi
  rw [List.getD_eq_getElem?_getD, List.getElem?_map, List.getElem?_eq_getElem hl, List.getD_eq_getElem?_getD, List.getElem?_eq_getElem hl]; rfl
theorem PlAt.kept {w w' : World} {g : Nat} (h : PlAt w g) (hb : Below w.heap.size w w') : PlAt w' g := (hb.block g (block_lt h)).trans h
set_option maxHeartbeats 3200000 in
theorem cOrder13 (w : World) : Calls Tryz.prog 70 #[] w fun e w' => e = .returned (.agg (arrI placesI)) ∧ Below w.heap.size w w' := by
  obtain ⟨Z, hZs, hz, hi⟩ := arr19
  have HSZ : Hid ((Tryz.prog.info? 136).map (·.size) = some (arrI placesI).size) := by show _ = _; rw [hi, placesA_size]
  have HZS : Hid (Z.size = (arrI placesI).size) := by show _ = _; rw [hZs, placesA_size]
  have HONE := Lib.hid (arrI_one placesI)
  have HPL : Hid ((placesI.map (Value.int .i64)).toArray = arrI placesI) := rfl
  obtain ⟨T, hTT⟩ : ∃ T, arrI placesI = T := ⟨_, rfl⟩
  rw [hTT] at HSZ HZS HONE HPL ⊢
  clear hi hZs hTT
  go_enter Tryz.func70, Tryz.ntmps70
  go_wp2_with (first
    | (refine wpList_buildFlatArr rfl 136 3 19 _ rfl .i64 placesI Tryz.underlying136 (by kernel_rfl) (by kernel_rfl) rfl ?_; rw [HPL.out]; refine wpList_store_row rfl 136 (.tmp 0) (.tmp 1) rfl w.heap.size T rfl rfl 136 Z (heap_alloc_new w _) HSZ.out HZS.out HONE.out ?_; rw [setRow_last])
    | fail)
  exact bodyPost_ret (v := .agg T) (results_cell_row rfl _ _ w.heap.size 136 T (0, 0) _ rfl (heap_alloc_new w _) Tryz.underlying136 rfl HSZ.out) rfl ⟨rfl, (Below.refl _ _).alloc (Nat.le_refl _) _⟩
/-- Why lengths may not be written. -/
def chkL (l : List Int) : Int := if l.length = 0 ∨ 1024 < l.length then 5 else if okB l = false then 2 else 0
theorem okB_bad {l : List Int} {k : Nat} (hk : k < l.length) (h : l.getD k 0 < 0 ∨ 15 < l.getD k 0) : okB l = false := by
  rw [← Bool.not_eq_true]
  intro h2
  have := (okB_iff l).1 h2 l[k] (List.getElem_mem hk)
  rw [List.getD_eq_getElem?_getD, List.getElem?_eq_getElem hk] at h
  simp at h
  omega
theorem okB_good {l : List Int} (h : ∀ k, k < l.length → 0 ≤ l.getD k 0 ∧ l.getD k 0 ≤ 15) : okB l = true := by
  refine (okB_iff l).2 fun x hx => ?_
  obtain ⟨k, hk, e⟩ := List.mem_iff_getElem.1 hx
  have := h k hk
  rw [List.getD_eq_getElem?_getD, List.getElem?_eq_getElem hk, e] at this
  exact this
set_option maxHeartbeats 1600000 in
theorem cCheckIn (a : Option Addr) (c : Nat) (l : List Int) (h0 : l.length ≠ 0) (hl : l.length ≤ 1024) (w : World) (h : IsInts w a l) (E : Int) (hE : chkL l = E) : Calls Tryz.prog 40 #[.slice a l.length c] w fun e w' => e = .returned (.int .i64 E) ∧ w' = w := by
  have HE : Hid (okB l = false → E = 2) := by show _; intro hb; rw [← hE]; unfold chkL; rw [if_neg (by omega), if_pos hb]
  have HG : Hid (okB l = true → E = 0) := by show _; intro hb; rw [← hE]; unfold chkL; rw [if_neg (by omega), if_neg (by rw [hb]; decide)]
  have HI := Lib.hid h
  have hz : ((l.length : Int) == 0) = false := by rw [beq_eq_false_iff_ne]; omega
  have hm : ¬ (1024 : Int) < (l.length : Int) := by omega
  clear h hE
  go_enter Tryz.func40, Tryz.ntmps40
  go_wp2_with fail
  go_loopw [15] (fun iv wr => ∃ k : Nat, k ≤ l.length ∧ iv = .int .i64 k ∧ Hid (∀ j, j < k → 0 ≤ l.getD j 0 ∧ l.getD j 0 ≤ 15) ∧ wr = w) (fun iv _ => l.length - (intOf iv).toNat)
  case atStart => exact ⟨0, Nat.zero_le _, rfl, Lib.hid (fun j hj => by omega), rfl⟩
  case round =>
    obtain ⟨k, hk, rfl, hall, rfl⟩ := hrel
    by_cases hlt : k < l.length
    · obtain ⟨x, rfl, -, cx⟩ := HI.out.at k hlt
      have cs := cx k hlt
      have hki : (k : Int) < (l.length : Int) := by omega
      have hbad := okB_bad (l := l) hlt
      have hnext : (0 ≤ l.getD k 0 ∧ l.getD k 0 ≤ 15) → ∀ j, j < k + 1 → 0 ≤ l.getD j 0 ∧ l.getD j 0 ≤ 15 := fun h j hj => by
        by_cases e : j = k
        · subst e; exact h
        · exact hall.out j (by omega)
      obtain ⟨X, hX⟩ : ∃ X, l.getD k 0 = X := ⟨_, rfl⟩
      rw [hX] at cs hbad hnext
      have HBAD := Lib.hid hbad
      have HNE := Lib.hid hnext
      clear cx hX hbad hnext
      by_cases h0 : X < 0
      · obtain rfl := HE.out (HBAD.out (.inl h0))
        have d0 : decide (X < 0) = true := decide_eq_true h0
        go_wp2_with fail
        go_ret
        exact ⟨rfl, rfl⟩
      · by_cases h1 : 15 < X
        · obtain rfl := HE.out (HBAD.out (.inr h1))
          have d0 : decide (X < 0) = false := decide_eq_false h0
          have d1 : decide (15 < X) = true := decide_eq_true h1
          go_wp2_with fail
          go_ret
          exact ⟨rfl, rfl⟩
        · have d0 : decide (X < 0) = false := decide_eq_false h0
          have d1 : decide (15 < X) = false := decide_eq_false h1
          have HN2 := Lib.hid (HNE.out ⟨by omega, by omega⟩)
          go_wp2_with fail
          go_roundw
          case rel => exact ⟨k + 1, by omega, by go_num, HN2, by first | rfl | trivial⟩
          case measure => simp [intOf]; omega
    · obtain rfl : k = l.length := by omega
      obtain rfl := HG.out (okB_good hall.out)
      have hki : ¬ (l.length : Int) < (l.length : Int) := by omega
      go_wp2_with fail
      go_ret
      exact ⟨rfl, rfl⟩
end Go.Proofs.YtipcdkemokkdfaaGreat

/- Contracts of layer 1's writer. -/
namespace Go.Proofs.YtipcdkemokkdfaaGreat
open Go.ChangeShapes Go.WideShapes Go.ChangeAt Go.RowKit
set_option linter.unusedVariables false
set_option maxRecDepth 100000
open Bits

theorem infoB : (Tryz.prog.info? 5).map (fun i => (i.zero, i.size, i.bytes)) = some (some (.int .u8 0), 1, 1) := by kernel_rfl
def byteCells (l : List UInt8) : List Value := l.map fun b => .int .u8 (b.toNat : Int)

set_option maxHeartbeats 800000 in
theorem wTake (w : World) (g bx B : Nat) (v r n : Value) (bs : List UInt8) (b : UInt8) (hbx : w.heap[bx]? = some (.cells #[.pointer (some ⟨g, 0, none⟩)] 51 (0, 0))) (hg : w.heap[g]? = some (.cells #[v, r, n] 77 (0, 0)))
    (hown : w.ownsRow B 5 1 v bs.length (byteCells bs)) (hB : B ≤ w.heap.size) (hl : bs.length ≤ 1000000000000) :
    Calls Tryz.prog 46 #[.int .u8 b.toNat, .pointer (some ⟨bx, 0, none⟩)] w fun e w' => e = .returned (.tuple #[]) ∧
      ∃ k cap, w'.heap[g]? = some (.cells #[.slice (some ⟨k, 0, none⟩) (bs.length + 1) cap, r, n] 77 (0, 0)) ∧ w'.ownsRow B 5 1 (.slice (some ⟨k, 0, none⟩) (bs.length + 1) cap) (bs ++ [b]).length (byteCells (bs ++ [b])) ∧ (v.ownBlock = some k ∨ w.heap.size ≤ k) ∧
        Keeps (fun k => k = g ∨ v.ownBlock = some k) w w' := by
  obtain ⟨i0, hi, hz0, hz1, hz2⟩ := info_parts infoB
  have cb := cell_in hbx 0
  have c0 := cell_in hg 0
  have f0 := free_in hg 0
  simp at cb c0
  have hgl := block_lt hg
  have hbl := block_lt hbx
  have HG := Lib.hid hg
  have HX := Lib.hid hbx
  clear hg hbx
  go_enter Tryz.func46, Tryz.ntmps46
  go_region_law (refine step_append_at rfl (.tmp 7) (.tmp 9) 43 rfl B 5 i0 (.int .u8 0) 1 Tryz.underlying43 hi hz0 hz1 hz2 rfl v bs.length (byteCells bs) rfl (hown.alloc _) ⟨w.heap.size, 0, none⟩ 1 1 [.int .u8 b.toNat] rfl rfl (cell_new1 w _ _ _ rfl) (by simp [Value.oneCell']) (by unfold maxLen; omega) (by omega) (by simp; omega) (by decide) ?_; intro k cap w1 hown1 hgrow hk; have HG1 := Lib.hid (grown_heap hgrow (heap_old HG.out _) (own_ne hown HG.out (by decide))); have cx := cell_lit (grown_heap hgrow (heap_old HX.out _) (own_ne hown HX.out (by decide))) 0 (.pointer (some ⟨g, 0, none⟩)) rfl; have cg := cell_lit HG1.out 0 v rfl; have fg := free_in HG1.out 0)
  all_goals
   have hk' : v.ownBlock = some k ∨ w.heap.size ≤ k := by
     rcases hk with hk | hk
     · exact .inl hk
     · right; simp at hk; omega
   have hne : (Value.slice (some ⟨k, 0, none⟩) (bs.length + 1) cap).ownBlock ≠ some g := own_ne hown1 HG1.out (by decide)
   go_end0
   refine ⟨rfl, k, cap, ?_, ?_, hk', ?_⟩
   · exact block_set HG1.out 0 _
   · have := ownsRow_setCell_other hown1 (a := ⟨g, 0, none⟩) hne (.slice (some ⟨k, 0, none⟩) (bs.length + 1) cap)
     rw [List.length_append, byteCells, List.map_append]
     exact this
   · exact (((Keeps.refl _ w).alloc _).drew.grown hgrow (fun j hj => .inr (.inr hj))).setCell (p := ⟨g, 0, none⟩) (.inr (.inl rfl)) _
end Go.Proofs.YtipcdkemokkdfaaGreat
