import Derived.Test.YtopiiickeojpmaaJ13
import Derived.Test.YtopiiickeojpmaaBm
import Derived.Test.YtopiiickeojpmaaTu
/- Layer 10: tables of codes: mathematics. -/
namespace Go.Proofs.Ytopiiickeojpmaa
set_option linter.unusedVariables false
set_option maxRecDepth 100000
open KraftMath CanonMath TurnMath Bits
theorem dec_short9 {l : List Int} {row : List Bool} (h : check l 16 = 0) (hn : ∀ s, ¬ Hit l row s) {s : Nat} (hs : s < l.length) (hlt : row.length < len l s) : decL l row = (0, 0, 3) := by
  rw [decL_none h hn, if_pos]
  obtain ⟨t, ht, h0, hb⟩ := no_gap h hn ⟨s, hs, hlt⟩
  rw [List.any_eq_true]
  refine ⟨t, List.mem_range.2 ht, ?_⟩
  unfold shortAt
  rw [Bool.and_eq_true, decide_eq_true_iff]
  exact ⟨h0, hb⟩
theorem dec_form9 {l : List Int} {row : List Bool} (h : check l 16 = 0) (hn : ∀ s, ¬ Hit l row s) (hle : ∀ s, s < l.length → len l s ≤ row.length) : decL l row = (0, 0, 4) := by
  rw [decL_none h hn, if_neg]
  rw [List.any_eq_true]
  rintro ⟨t, ht, h2⟩
  have ht := List.mem_range.1 ht
  unfold shortAt at h2
  rw [Bool.and_eq_true, decide_eq_true_iff, begL_row] at h2
  obtain ⟨h0, h3, h4⟩ := h2
  have hl := hle t ht
  refine hn t ?_
  rw [hit_iff h]
  have e : len l t = row.length := by omega
  refine ⟨ht, h0, hl, ?_⟩
  rw [e, Nat.sub_self, Nat.pow_zero, Nat.div_one] at h4
  have hc := ok_c h ht
  rw [e] at hc ⊢
  rw [List.take_length, ← h4, val_msb _ _ hc]
theorem word_msb (c : Nat) : ∀ n, wordOf (msb c n) = turn c n
  | 0 => rfl
  | n + 1 => by
    rw [msb, wordOf, word_msb c n, turn]
    by_cases h : c / 2 ^ n % 2 = 1
    · rw [h]; simp; omega
    · have h0 : c / 2 ^ n % 2 = 0 := by omega
      rw [h0]; simp
theorem word_inj {a b : List Bool} (h : a.length = b.length) (h2 : wordOf a = wordOf b) : a = b := by
  rw [← bitsOf_wordOf a, ← bitsOf_wordOf b, h, h2]
theorem bits_take (v n k : Nat) (h : k ≤ n) : (bitsOf v n).take k = bitsOf v k := by
  refine word_inj (by rw [List.length_take, bitsOf_length, bitsOf_length]; omega) ?_
  rw [wordOf_take, wordOf_bitsOf, wordOf_bitsOf, Nat.mod_mod_of_dvd _ (Nat.pow_dvd_pow 2 h)]
theorem begL_bits {v L c n : Nat} (hn : n ≤ L) : begL (bitsOf v L) (msb c n) = true ↔ v % 2 ^ n = turn c n := by
  unfold begL
  rw [msb_len, bitsOf_length, Bool.and_eq_true, decide_eq_true_iff, decide_eq_true_iff, bits_take v L n hn]
  constructor
  · rintro ⟨-, h⟩
    rw [← word_msb, ← h, wordOf_bitsOf]
  · intro h
    exact ⟨hn, word_inj (by rw [bitsOf_length, msb_len]) (by rw [wordOf_bitsOf, word_msb, h])⟩
/-- The entry of a number of L bits, as far as the first k symbols tell. -/
def entK (l : List Int) (L k v : Nat) : Nat × Nat := match (List.range k).find? (hitAt l (bitsOf v L)) with
  | some s => (s, len l s)
  | none => (0, 0)
theorem find_succ {α : Type} (p : Nat → Bool) (k : Nat) : (List.range (k + 1)).find? p = ((List.range k).find? p).or (if p k then some k else none) := by
  rw [List.range_succ, List.find?_append]
  simp only [List.find?_cons, List.find?_nil]
  cases p k <;> simp
theorem entK_succ {l : List Int} (h : check l 16 = 0) {L k v : Nat} (hk : k < l.length) : entK l L (k + 1) v = if hitAt l (bitsOf v L) k then (k, len l k) else entK l L k v := by
  unfold entK
  rw [find_succ (α := Nat)]
  cases hf : (List.range k).find? (hitAt l (bitsOf v L)) with
  | none =>
    simp only [Option.none_or]
    cases hitAt l (bitsOf v L) k <;> rfl
  | some s =>
    simp only [Option.some_or]
    have h1 := List.find?_some hf
    have h2 := List.mem_range.1 (List.mem_of_find?_eq_some hf)
    cases hh : hitAt l (bitsOf v L) k with
    | false => rfl
    | true =>
      have := hit_one h ((hitAt_iff (by omega)).1 h1) ((hitAt_iff hk).1 hh)
      omega
theorem hitAt_mod {l : List Int} {L k v : Nat} (hL : len l k ≤ L) : hitAt l (bitsOf v L) k = (decide (len l k ≠ 0) && decide (v % 2 ^ len l k = turn (code l k) (len l k))) := by
  unfold hitAt
  congr 1
  rw [Bool.eq_iff_iff, begL_bits hL, decide_eq_true_iff]
def entB (l : List Int) (L v : Nat) : Nat × Nat := entK l L l.length v
theorem entB_hit {l : List Int} (h : check l 16 = 0) {L v s : Nat} (hh : Hit l (bitsOf v L) s) : entB l L v = (s, len l s) := by
  unfold entB entK
  cases hf : (List.range l.length).find? (hitAt l (bitsOf v L)) with
  | none =>
    rw [List.find?_eq_none] at hf
    exact absurd ((hitAt_iff hh.1).2 hh) (by simpa using hf s (List.mem_range.2 hh.1))
  | some t =>
    have h1 := List.find?_some hf
    have h2 := List.mem_range.1 (List.mem_of_find?_eq_some hf)
    have : t = s := hit_one h ((hitAt_iff h2).1 h1) hh
    rw [this]
theorem entB_none {l : List Int} {L v : Nat} (hh : ∀ s, ¬ Hit l (bitsOf v L) s) : entB l L v = (0, 0) := by
  unfold entB entK
  cases hf : (List.range l.length).find? (hitAt l (bitsOf v L)) with
  | none => rfl
  | some t =>
    have h1 := List.find?_some hf
    have h2 := List.mem_range.1 (List.mem_of_find?_eq_some hf)
    exact absurd ((hitAt_iff h2).1 h1) (hh t)
def padL (rest : List Bool) (L : Nat) : List Bool := rest.take L ++ List.replicate (L - (rest.take L).length) false
theorem word_pad (a : List Bool) (k : Nat) : wordOf (a ++ List.replicate k false) = wordOf a := by
  rw [wordOf_append]
  have : wordOf (List.replicate k false) = 0 := by
    induction k with
    | zero => rfl
    | succ k ih => rw [List.replicate_succ, wordOf, ih]; rfl
  rw [this]; simp
theorem pad_len (rest : List Bool) (L : Nat) : (padL rest L).length = L := by
  unfold padL; rw [List.length_append, List.length_replicate, List.length_take]; omega
theorem bits_peek (rest : List Bool) (L : Nat) : bitsOf (peek rest L) L = padL rest L := by
  refine word_inj (by rw [bitsOf_length, pad_len]) ?_
  rw [wordOf_bitsOf, Nat.mod_eq_of_lt (peek_lt rest L)]
  unfold padL
  rw [word_pad]; rfl
theorem pad_take (rest : List Bool) (L n : Nat) (h : n ≤ rest.length) (hL : n ≤ L) : (padL rest L).take n = rest.take n := by
  unfold padL
  rw [List.take_append_of_le_length (by rw [List.length_take]; omega), List.take_take, Nat.min_eq_left hL]
/-- A full row begins with a code, if the codes leave no gap. -/
theorem full_hit {l : List Int} (h : check l 16 = 0) (hk : ksum 16 l = 65536) {row : List Bool} (hr : row.length ≤ 16) (hle : ∀ s, s < l.length → len l s ≤ row.length) : ∃ s, Hit l row s := by
  have htk : takes l (ord l) = ksum 16 l := by unfold ord; rw [takes_upto, ksum_below]
  rw [hk] at htk
  have hv := val_lt row
  have hp : 2 ^ row.length * 2 ^ (16 - row.length) = 2 ^ 16 := by rw [← Nat.pow_add, show row.length + (16 - row.length) = 16 by omega]
  have hq : 0 < 2 ^ (16 - row.length) := Nat.pow_pos (by decide)
  have hx : val row * 2 ^ (16 - row.length) < takes l (ord l) := by
    rw [htk, show (65536 : Nat) = 2 ^ 16 from rfl, ← hp]; exact Nat.mul_lt_mul_of_pos_right hv hq
  obtain ⟨s, hs, lo, hi⟩ := within l _ hx
  obtain ⟨m1, m2, m3, m4⟩ := (mem_ord l s).1 hs
  have hls := hle s m1
  refine ⟨s, (hit_iff h).2 ⟨m1, by omega, hls, ?_⟩⟩
  have e1 : 2 ^ (16 - len l s) = 2 ^ (row.length - len l s) * 2 ^ (16 - row.length) := by rw [← Nat.pow_add, show row.length - len l s + (16 - row.length) = 16 - len l s by omega]
  rw [e1, ← Nat.mul_assoc] at lo hi
  have lo2 := Nat.le_of_mul_le_mul_right lo hq
  have hi2 := Nat.lt_of_mul_lt_mul_right hi
  have hv2 := val_take row (len l s) row.length hls (Nat.le_refl _)
  rw [List.take_length] at hv2
  rw [← hv2]
  exact Nat.div_eq_of_lt_le lo2 hi2
def nextL (l : List Int) (L : Nat) (rest : List Bool) : Int × Int × Int :=
  if (entB l L (peek rest L)).2 = 0 then (0, 0, 4) else if rest.length < (entB l L (peek rest L)).2 then (0, 0, 3) else (((entB l L (peek rest L)).1 : Nat), ((entB l L (peek rest L)).2 : Nat), 0)
theorem pad_hit {l : List Int} (h : check l 16 = 0) {L : Nat} {rest : List Bool} {s : Nat} (hL : len l s ≤ L) (hr : len l s ≤ rest.length) : Hit l (padL rest L) s ↔ Hit l rest s := by
  rw [hit_iff h, hit_iff h, pad_len, pad_take rest L _ hr hL]
  exact ⟨fun ⟨a, b, c, d⟩ => ⟨a, b, hr, d⟩, fun ⟨a, b, c, d⟩ => ⟨a, b, hL, d⟩⟩
theorem single {l : List Int} (h : check l 16 = 0) (hu : used l = 1) (hk : ksum 16 l = 32768) : ∃ z, z < l.length ∧ len l z = 1 ∧ ∀ s, s < l.length → len l s ≠ 0 → s = z := by
  obtain ⟨-, -, -, hb, -⟩ := (check_ok l 16).1 h
  have hord := ord_length l hb
  rw [hu] at hord
  have htk : takes l (ord l) = ksum 16 l := by unfold ord; rw [takes_upto, ksum_below]
  obtain ⟨z, hz⟩ := List.length_eq_one_iff.1 hord
  have hzm : z ∈ ord l := by rw [hz]; simp
  obtain ⟨m1, m2, m3, m4⟩ := (mem_ord l z).1 hzm
  rw [hz, hk] at htk
  simp only [takes, Nat.add_zero] at htk
  refine ⟨z, m1, ?_, ?_⟩
  · refine Decidable.byContradiction fun hne => ?_
    have : 2 ^ (16 - len l z) ≤ 2 ^ 14 := Nat.pow_le_pow_right (by decide) (by omega)
    omega
  · intro s hs h0
    have : s ∈ ord l := (mem_ord l s).2 ⟨hs, by omega, (ok_b h s hs).2, by have := lenI h hs; omega⟩
    rw [hz] at this
    simpa using this
theorem next_dec {l : List Int} (h : check l 16 = 0) {L : Nat} (hL : ∀ s, s < l.length → len l s ≤ L) (hL16 : L ≤ 16) (hL1 : 1 ≤ L) (rest : List Bool) (hd : ∀ s, ¬ Hit l rest s → True) : nextL l L rest = (decL l rest : Int × Int × Int) := by
  unfold nextL
  by_cases hh : ∃ s, Hit l (padL rest L) s
  · obtain ⟨s, hs⟩ := hh
    have e := entB_hit h (L := L) (v := peek rest L) (s := s) (by rw [bits_peek]; exact hs)
    have hsl := hs.1
    have hs0 := hs.2.1
    rw [e]
    simp only
    rw [if_neg hs0]
    by_cases hr : rest.length < len l s
    · rw [if_pos hr]
      refine (dec_short9 h ?_ hsl hr).symm
      intro t ht
      have htl := ((hit_iff h).1 ht).2.2.1
      have := hit_one h ((pad_hit h (hL t ht.1) htl).2 ht) hs
      subst this
      omega
    · rw [if_neg hr]
      exact (decL_hit h ((pad_hit h (hL s hsl) (by omega)).1 hs)).symm
  · have hno : ∀ s, ¬ Hit l (padL rest L) s := fun s hs => hh ⟨s, hs⟩
    have e := entB_none (l := l) (L := L) (v := peek rest L) (by rw [bits_peek]; exact hno)
    rw [e]
    simp only [if_true]
    rcases ((check_ok l 16).1 h).2.2.2.2 with ⟨hu, hk⟩ | ⟨hu, hk⟩
    · obtain ⟨z, hz1, hz2, hz3⟩ := single h hu hk
      have hnr : ∀ s, ¬ Hit l rest s := by
        intro s hs
        exact hno s ((pad_hit h (hL s hs.1) (((hit_iff h).1 hs).2.2.1)).2 hs)
      by_cases hr : 1 ≤ rest.length
      · refine (dec_form9 h hnr ?_).symm
        intro s hs
        by_cases h0 : len l s = 0
        · omega
        · rw [hz3 s hs h0, hz2]; exact hr
      · exfalso
        have hre : rest = [] := List.length_eq_zero_iff.1 (by omega)
        subst hre
        refine hno z ((hit_iff h).2 ⟨hz1, by omega, by rw [pad_len, hz2]; exact hL1, ?_⟩)
        rw [hz2]
        have hc := code_first l z (by
          obtain ⟨-, -, -, hb, -⟩ := (check_ok l 16).1 h
          have hord := ord_length l hb
          rw [hu] at hord
          obtain ⟨y, hy⟩ := List.length_eq_one_iff.1 hord
          have hzm : z ∈ ord l := (mem_ord l z).2 ⟨hz1, by omega, by omega, by have := lenI h hz1; omega⟩
          rw [hy] at hzm ⊢
          simp at hzm
          subst hzm; rfl)
        rw [hc]
        unfold padL
        obtain ⟨M, rfl⟩ : ∃ M, L = M + 1 := ⟨L - 1, by omega⟩
        simp [List.replicate_succ, val]
    · exfalso
      obtain ⟨s, hs⟩ := full_hit h hk (row := padL rest L) (by rw [pad_len]; exact hL16) (by intro s hs; rw [pad_len]; exact hL s hs)
      exact hno s hs
end Go.Proofs.Ytopiiickeojpmaa
