import Derived.Test.YtipcdkemokkdfaaGreatK15
/- Codes of lengths, plainly. -/
namespace Go.Proofs.YtipcdkemokkdfaaGreat.CanonMath
open Go.Proofs.YtipcdkemokkdfaaGreat.KraftMath
theorem pow_split (a b c : Nat) (h : a = b + c) : 2 ^ a = 2 ^ b * 2 ^ c := by rw [h, Nat.pow_add]
/-- How many are n. -/
def cnt (l : List Int) (n : Nat) : Nat := (l.filter (fun x => x == (n : Int))).length
theorem cnt_append (a b : List Int) (n : Nat) : cnt (a ++ b) n = cnt a n + cnt b n := by simp [cnt]
theorem cnt_cons (x : Int) (l : List Int) (n : Nat) : cnt (x :: l) n = (if x = n then 1 else 0) + cnt l n := by
  unfold cnt; rw [List.filter_cons]
  by_cases h : x = n <;> simp [h]; omega
/-- The first code of n bits. -/
def first (l : List Int) : Nat → Nat
  | 0 => 0
  | n + 1 => 2 * (first l n + if n = 0 then 0 else cnt l n)
/-- What lengths below n take up of the codes of 16 bits. -/
def below (n : Nat) : List Int → Nat
  | [] => 0
  | x :: l => (if 1 ≤ x ∧ x < n then 2 ^ (16 - x.toNat) else 0) + below n l
theorem below_zero (l : List Int) : below 0 l = 0 := by
  induction l with
  | nil => rfl
  | cons x l ih => simp only [below, ih]; rw [if_neg (by omega)]
theorem below_one (l : List Int) : below 1 l = 0 := by
  induction l with
  | nil => rfl
  | cons x l ih => simp only [below, ih]; rw [if_neg (by omega)]
theorem below_succ (n : Nat) (hn : 1 ≤ n) (l : List Int) : below (n + 1) l = below n l + cnt l n * 2 ^ (16 - n) := by
  induction l with
  | nil => simp [below, cnt]
  | cons x l ih =>
    simp only [below, cnt_cons, ih, Nat.add_mul]
    by_cases h1 : x = n
    · subst h1; rw [if_pos (by omega), if_neg (by omega), if_pos rfl, Int.toNat_natCast]; omega
    · rw [if_neg h1]
      by_cases h2 : 1 ≤ x ∧ x < n
      · rw [if_pos (by omega), if_pos h2]; omega
      · rw [if_neg (by omega), if_neg h2]; omega
theorem below_mono (n m : Nat) (h : n ≤ m) (l : List Int) : below n l ≤ below m l := by
  induction l with
  | nil => simp [below]
  | cons x l ih =>
    simp only [below]
    by_cases h1 : 1 ≤ x ∧ x < n
    · rw [if_pos h1, if_pos (by omega)]; omega
    · rw [if_neg h1]; omega
theorem first_below (l : List Int) (n : Nat) (hn : n ≤ 16) : first l n * 2 ^ (16 - n) = below n l := by
  induction n with
  | zero => simp [first, below_zero]
  | succ n ih =>
    simp only [first]
    rw [show 2 * (first l n + if n = 0 then 0 else cnt l n) * 2 ^ (16 - (n + 1)) = (first l n + if n = 0 then 0 else cnt l n) * 2 ^ (16 - n) from by
      rw [show 16 - n = (16 - (n + 1)) + 1 from by omega, Nat.pow_succ, Nat.mul_comm 2, Nat.mul_assoc, Nat.mul_comm 2]]
    rw [Nat.add_mul, ih (by omega)]
    by_cases h0 : n = 0
    · subst h0; simp [below_zero, below_one]
    · rw [if_neg h0, below_succ n (by omega)]
theorem ksum_below (l : List Int) : ksum 16 l = below 17 l := by
  induction l with
  | nil => rfl
  | cons x l ih =>
    simp only [ksum, below, ih, part]
    congr 1
    by_cases h : 1 ≤ x ∧ x ≤ 16
    · rw [if_pos (by omega), if_pos (by omega)]
    · rw [if_neg (by omega), if_neg (by omega)]
def len (l : List Int) (s : Nat) : Nat := (l.getD s 0).toNat
/-- The code of the symbol s. -/
def code (l : List Int) (s : Nat) : Nat := if len l s = 0 then 0 else first l (len l s) + cnt (l.take s) (len l s)
theorem cnt_take_succ (l : List Int) (s n : Nat) (h : s < l.length) : cnt (l.take (s + 1)) n = cnt (l.take s) n + if l.getD s 0 = n then 1 else 0 := by
  have e : l.getD s 0 = l[s] := by simp [List.getD_eq_getElem?_getD, h]
  rw [List.take_succ_eq_append_getElem h, cnt_append, cnt_cons, e]; simp [cnt]
theorem cnt_take_mono (l : List Int) (s t n : Nat) (h : s ≤ t) : cnt (l.take s) n ≤ cnt (l.take t) n := by
  have : l.take t = l.take s ++ (l.take t).drop s := by
    conv => lhs; rw [← List.take_append_drop s (l.take t)]
    rw [List.take_take, Nat.min_eq_left h]
  rw [this, cnt_append]; omega
theorem cnt_take_lt (l : List Int) (s t : Nat) (h : s < t) (hs : s < l.length) (h0 : 0 ≤ l.getD s 0) : cnt (l.take s) (len l s) + 1 ≤ cnt (l.take t) (len l s) := by
  have h1 := cnt_take_succ l s (len l s) hs
  rw [if_pos (by unfold len; omega)] at h1
  have := cnt_take_mono l (s + 1) t (len l s) (by omega)
  omega
theorem cnt_take_all (l : List Int) (s : Nat) (hs : s < l.length) (h0 : 0 ≤ l.getD s 0) : cnt (l.take s) (len l s) + 1 ≤ cnt l (len l s) := by
  have := cnt_take_lt l s l.length hs hs h0
  rwa [List.take_length] at this
theorem code_place (l : List Int) (s : Nat) (h1 : 1 ≤ len l s) (h : len l s ≤ 16) : code l s * 2 ^ (16 - len l s) = below (len l s) l + cnt (l.take s) (len l s) * 2 ^ (16 - len l s) := by
  unfold code
  rw [if_neg (by omega), Nat.add_mul, first_below _ _ h]
/-- Of two symbols the one whose length is no longer, or that comes first of one length, has its codes ahead of the other's. -/
theorem place_lt (l : List Int) (i k : Nat) (hi : i < l.length) (h1 : 1 ≤ len l i) (h16 : len l k ≤ 16) (hb : 0 ≤ l.getD i 0) (h : len l i < len l k ∨ (len l i = len l k ∧ i < k)) :
    (code l i + 1) * 2 ^ (16 - len l i) ≤ code l k * 2 ^ (16 - len l k) := by
  rw [Nat.add_mul, code_place l i h1 (by omega), code_place l k (by omega) h16]
  rcases h with h | ⟨h, hik⟩
  · have e1 := below_succ (len l i) h1 l
    have e2 := below_mono (len l i + 1) (len l k) h l
    have e3 := cnt_take_all l i hi hb
    have e4 := Nat.mul_le_mul_right (2 ^ (16 - len l i)) e3
    rw [Nat.add_mul] at e4
    omega
  · have e3 := cnt_take_lt l i k hik hi hb
    have e4 := Nat.mul_le_mul_right (2 ^ (16 - len l i)) e3
    rw [Nat.add_mul] at e4
    rw [← h]
    omega
theorem code_fits (l : List Int) (s : Nat) (hs : s < l.length) (hb : 0 ≤ l.getD s 0) (h16 : len l s ≤ 16) (hk : ksum 16 l ≤ 65536) : code l s < 2 ^ len l s := by
  by_cases h0 : len l s = 0
  · unfold code; rw [if_pos h0, h0]; decide
  · have e1 := code_place l s (by omega) h16
    have e2 := below_succ (len l s) (by omega) l
    have e3 := cnt_take_all l s hs hb
    have e4 := Nat.mul_le_mul_right (2 ^ (16 - len l s)) e3
    rw [Nat.add_mul] at e4
    have e5 := below_mono (len l s + 1) 17 (by omega) l
    rw [ksum_below] at hk
    have hp : 2 ^ len l s * 2 ^ (16 - len l s) = 65536 := by rw [← Nat.pow_add, show len l s + (16 - len l s) = 16 from by omega]
    have hq : 0 < 2 ^ (16 - len l s) := Nat.pow_pos (by decide)
    have : (code l s + 1) * 2 ^ (16 - len l s) ≤ 2 ^ len l s * 2 ^ (16 - len l s) := by rw [Nat.add_mul, hp]; omega
    have := Nat.le_of_mul_le_mul_right this hq
    omega
theorem code_free (l : List Int) (i k : Nat) (hne : i ≠ k) (hi : i < l.length) (hk : k < l.length) (hbi : 0 ≤ l.getD i 0) (hbk : 0 ≤ l.getD k 0) (h1 : 1 ≤ len l i) (h : len l i ≤ len l k) (h16 : len l k ≤ 16) :
    code l k / 2 ^ (len l k - len l i) ≠ code l i := by
  intro e
  have hp : 2 ^ (16 - len l i) = 2 ^ (len l k - len l i) * 2 ^ (16 - len l k) := pow_split _ _ _ (by omega)
  have hq : 0 < 2 ^ (len l k - len l i) := Nat.pow_pos (by decide)
  have hr : 0 < 2 ^ (16 - len l k) := Nat.pow_pos (by decide)
  have d1 := Nat.div_add_mod (code l k) (2 ^ (len l k - len l i))
  have d2 := Nat.mod_lt (code l k) hq
  rw [e] at d1
  -- code k lies from code i * q on, below (code i + 1) * q
  have lo : code l i * 2 ^ (len l k - len l i) ≤ code l k := by rw [Nat.mul_comm]; omega
  have hi2 : code l k < (code l i + 1) * 2 ^ (len l k - len l i) := by rw [Nat.add_mul, Nat.mul_comm (code l i)]; omega
  by_cases hb : len l i < len l k ∨ (len l i = len l k ∧ i < k)
  · have := place_lt l i k hi h1 h16 hbi hb
    rw [hp, ← Nat.mul_assoc] at this
    have := Nat.le_of_mul_le_mul_right this hr
    omega
  · have he : len l i = len l k := by omega
    have := place_lt l k i hk (by omega) (by omega) hbk (.inr ⟨he.symm, by omega⟩)
    rw [← he] at this
    have := Nat.le_of_mul_le_mul_right this (by rw [he]; exact hr)
    rw [he, Nat.sub_self] at lo hi2
    omega

/-- The symbols of n bits, in order; those of 1 to n bits. -/
def ordN (l : List Int) (n : Nat) : List Nat := (List.range l.length).filter (fun s => l.getD s 0 == (n : Int))
def upto (l : List Int) : Nat → List Nat
  | 0 => []
  | n + 1 => upto l n ++ ordN l (n + 1)
def ord (l : List Int) : List Nat := upto l 16
def tot (l : List Int) : Nat → Nat
  | 0 => 0
  | n + 1 => tot l n + cnt l (n + 1)
theorem filter_range_cnt (l : List Int) (n s : Nat) (h : s ≤ l.length) : ((List.range s).filter (fun t => l.getD t 0 == (n : Int))).length = cnt (l.take s) n := by
  induction s with
  | zero => simp [cnt]
  | succ s ih =>
    rw [List.range_succ, List.filter_append, List.length_append, ih (by omega), cnt_take_succ l s n (by omega)]
    by_cases h : l.getD s 0 = n
    · rw [if_pos h, List.filter_cons, if_pos (by rw [h]; exact beq_self_eq_true _)]; rfl
    · rw [if_neg h, List.filter_cons, if_neg (by rw [beq_iff_eq]; exact h)]; rfl
theorem ordN_length (l : List Int) (n : Nat) : (ordN l n).length = cnt l n := by
  have := filter_range_cnt l n l.length (Nat.le_refl _)
  rwa [List.take_length] at this
theorem range_split (s m : Nat) (h : s < m) : ∃ r, List.range m = List.range s ++ s :: r := by
  refine ⟨(List.range m).drop (s + 1), ?_⟩
  have h1 : (List.range m).take s = List.range s := by rw [List.take_range, Nat.min_eq_left (by omega)]
  have h2 : (List.range m).drop s = s :: (List.range m).drop (s + 1) := by
    rw [List.drop_eq_getElem_cons (by simpa using h)]; simp
  conv => lhs; rw [← List.take_append_drop s (List.range m), h1, h2]
theorem ordN_get (l : List Int) (n s : Nat) (h : s < l.length) (hn : l.getD s 0 = n) : (ordN l n)[cnt (l.take s) n]? = some s := by
  obtain ⟨r, hr⟩ := range_split s l.length h
  unfold ordN
  rw [hr, List.filter_append, ← filter_range_cnt l n s (by omega), List.getElem?_append_right (Nat.le_refl _), Nat.sub_self, List.filter_cons, if_pos (by rw [hn]; exact beq_self_eq_true _)]
  rfl
theorem upto_length (l : List Int) (n : Nat) : (upto l n).length = tot l n := by
  induction n with
  | zero => rfl
  | succ n ih => simp [upto, tot, ih, ordN_length]
theorem upto_prefix (l : List Int) (n m : Nat) (h : n ≤ m) : ∃ r, upto l m = upto l n ++ r := by
  induction m with
  | zero => exact ⟨[], by rw [show n = 0 by omega]; simp⟩
  | succ m ih =>
    by_cases e : n = m + 1
    · exact ⟨[], by rw [e]; simp⟩
    · obtain ⟨r, hr⟩ := ih (by omega)
      exact ⟨r ++ ordN l (m + 1), by simp only [upto]; rw [hr, List.append_assoc]⟩
/-- Where a symbol stands. -/
def pos (l : List Int) (s : Nat) : Nat := tot l (len l s - 1) + cnt (l.take s) (len l s)
theorem ord_pos (l : List Int) (s : Nat) (h : s < l.length) (h1 : 1 ≤ len l s) (h16 : len l s ≤ 16) : (ord l)[pos l s]? = some s := by
  have h0 : l.getD s 0 = (len l s : Nat) := by unfold len at h1 ⊢; omega
  obtain ⟨r, hr⟩ := upto_prefix l (len l s) 16 h16
  unfold ord pos
  have e : len l s = (len l s - 1) + 1 := by omega
  rw [hr]
  have hu : upto l (len l s) = upto l (len l s - 1) ++ ordN l (len l s) := by
    conv => lhs; rw [e]
    simp only [upto]; rw [← e]
  have g := ordN_get l (len l s) s h h0
  have hlt : cnt (l.take s) (len l s) < (ordN l (len l s)).length := (List.getElem?_eq_some_iff.1 g).1
  rw [hu, List.append_assoc, ← upto_length, List.getElem?_append_right (by omega), Nat.add_sub_cancel_left, List.getElem?_append_left hlt, g]
theorem mem_ordN (l : List Int) (n s : Nat) : s ∈ ordN l n ↔ s < l.length ∧ l.getD s 0 = n := by
  unfold ordN; rw [List.mem_filter]; simp
theorem mem_upto (l : List Int) (n s : Nat) : s ∈ upto l n ↔ s < l.length ∧ 1 ≤ len l s ∧ len l s ≤ n ∧ 0 < l.getD s 0 := by
  induction n with
  | zero => simp [upto]; omega
  | succ n ih =>
    simp only [upto, List.mem_append, ih, mem_ordN]
    unfold len
    constructor
    · rintro (⟨a, b, c, d⟩ | ⟨a, b⟩)
      · exact ⟨a, b, by omega, d⟩
      · exact ⟨a, by omega, by omega, by omega⟩
    · rintro ⟨a, b, c, d⟩
      by_cases e : l.getD s 0 = ((n + 1 : Nat) : Int)
      · exact .inr ⟨a, e⟩
      · exact .inl ⟨a, b, by omega, d⟩
theorem mem_ord (l : List Int) (s : Nat) : s ∈ ord l ↔ s < l.length ∧ 1 ≤ len l s ∧ len l s ≤ 16 ∧ 0 < l.getD s 0 := mem_upto l 16 s
theorem upto_nodup (l : List Int) (n : Nat) : (upto l n).Nodup := by
  induction n with
  | zero => simp [upto]
  | succ n ih =>
    simp only [upto]
    rw [List.nodup_append]
    refine ⟨ih, List.Pairwise.filter _ List.nodup_range, ?_⟩
    rintro a ha b hb rfl
    have h1 := (mem_upto l n a).1 ha
    have h2 := (mem_ordN l (n + 1) a).1 hb
    unfold len at h1
    omega
theorem ord_nodup (l : List Int) : (ord l).Nodup := upto_nodup l 16
theorem tot_used (l : List Int) (hb : ∀ n ∈ l, 0 ≤ n ∧ n ≤ 16) : tot l 16 = used l := by
  have key : ∀ m, m ≤ 16 → ∀ l : List Int, tot l m = (l.filter (fun x => decide (1 ≤ x ∧ x ≤ (m : Int)))).length := by
    intro m hm l
    induction m with
    | zero =>
      simp only [tot]
      rw [List.filter_eq_nil_iff.2]; · rfl
      intro a _; simp; omega
    | succ m ih =>
      simp only [tot, ih (by omega)]
      clear ih
      induction l with
      | nil => rfl
      | cons x l il =>
        rw [cnt_cons, List.filter_cons, List.filter_cons]
        by_cases h1 : 1 ≤ x ∧ x ≤ (m : Int)
        · rw [if_pos (by simpa using h1), if_neg (by omega), if_pos (by simp; omega), List.length_cons, List.length_cons]; omega
        · rw [if_neg (by simpa using h1)]
          by_cases h2 : x = ((m + 1 : Nat) : Int)
          · rw [if_pos h2, if_pos (by simp; omega), List.length_cons]; omega
          · rw [if_neg h2, if_neg (by simp; omega)]; omega
  rw [key 16 (by omega)]
  clear key
  induction l with
  | nil => rfl
  | cons x l ih =>
    have hx := hb x (List.mem_cons_self ..)
    rw [List.filter_cons, used, ← ih (fun y hy => hb y (List.mem_cons_of_mem _ hy))]
    by_cases h : 0 < x
    · rw [if_pos h, if_pos (by simp; omega), List.length_cons]; omega
    · rw [if_neg h, if_neg (by simp; omega)]; omega
theorem ord_length (l : List Int) (hb : ∀ n ∈ l, 0 ≤ n ∧ n ≤ 16) : (ord l).length = used l := by unfold ord; rw [upto_length, tot_used l hb]
/-- What the symbols of a row take up of the codes of 16 bits. -/
def takes (l : List Int) : List Nat → Nat
  | [] => 0
  | s :: o => 2 ^ (16 - len l s) + takes l o
theorem takes_append (l : List Int) (a b : List Nat) : takes l (a ++ b) = takes l a + takes l b := by
  induction a with
  | nil => simp [takes]
  | cons s a ih => simp only [List.cons_append, takes, ih]; omega
theorem takes_same (l : List Int) (n : Nat) (o : List Nat) (h : ∀ s ∈ o, len l s = n) : takes l o = o.length * 2 ^ (16 - n) := by
  induction o with
  | nil => simp [takes]
  | cons s o ih =>
    simp only [takes, List.length_cons, Nat.add_mul, ih (fun t ht => h t (List.mem_cons_of_mem _ ht)), h s (List.mem_cons_self ..)]; omega
theorem len_ordN (l : List Int) (n s : Nat) (h : s ∈ ordN l n) : len l s = n := by
  have := (mem_ordN l n s).1 h; unfold len; omega
theorem takes_upto (l : List Int) (n : Nat) : takes l (upto l n) = below (n + 1) l := by
  induction n with
  | zero => simp [upto, takes, below_one]
  | succ n ih =>
    simp only [upto]
    rw [takes_append, ih, takes_same l (n + 1) _ (fun s hs => len_ordN l _ s hs), ordN_length, below_succ (n + 1) (by omega)]
theorem takes_pos (l : List Int) (s : Nat) (h : s < l.length) (h1 : 1 ≤ len l s) (h16 : len l s ≤ 16) : takes l ((ord l).take (pos l s)) = code l s * 2 ^ (16 - len l s) := by
  have h0 : l.getD s 0 = (len l s : Nat) := by unfold len at h1 ⊢; omega
  obtain ⟨r, hr⟩ := upto_prefix l (len l s) 16 h16
  have e : len l s = (len l s - 1) + 1 := by omega
  have hu : upto l (len l s) = upto l (len l s - 1) ++ ordN l (len l s) := by
    conv => lhs; rw [e]
    simp only [upto]; rw [← e]
  have g := ordN_get l (len l s) s h h0
  have hlt : cnt (l.take s) (len l s) < (ordN l (len l s)).length := (List.getElem?_eq_some_iff.1 g).1
  rw [code_place l s h1 h16]
  unfold ord pos
  rw [hr, hu, List.append_assoc, ← upto_length, List.take_length_add_append, List.take_append_of_le_length (by omega), takes_append, takes_upto, ← e]
  rw [takes_same l (len l s) _ (fun t ht => len_ordN l _ t (List.mem_of_mem_take ht)), List.length_take_of_le (by omega)]
theorem pos_of_get (l : List Int) (i s : Nat) (h : (ord l)[i]? = some s) : s < l.length ∧ 1 ≤ len l s ∧ len l s ≤ 16 ∧ 0 < l.getD s 0 ∧ pos l s = i := by
  have hm := (mem_ord l s).1 (List.mem_of_getElem? h)
  refine ⟨hm.1, hm.2.1, hm.2.2.1, hm.2.2.2, ?_⟩
  have hp := ord_pos l s hm.1 hm.2.1 hm.2.2.1
  obtain ⟨h1, e1⟩ := List.getElem?_eq_some_iff.1 h
  obtain ⟨h2, e2⟩ := List.getElem?_eq_some_iff.1 hp
  have hn := List.pairwise_iff_getElem.1 (ord_nodup l)
  rcases Nat.lt_trichotomy (pos l s) i with g | g | g
  · exact absurd (e2.trans e1.symm) (hn _ _ h2 h1 g)
  · exact g
  · exact absurd (e1.trans e2.symm) (hn _ _ h1 h2 g)
/-- The first symbol's code is 0; the next one's is one more, filled up. -/
theorem code_first (l : List Int) (s : Nat) (h : (ord l)[0]? = some s) : code l s = 0 := by
  obtain ⟨a, b, c, d, e⟩ := pos_of_get l 0 s h
  have := takes_pos l s a b c
  rw [e] at this
  simp only [List.take_zero, takes] at this
  have hq : 0 < 2 ^ (16 - len l s) := Nat.pow_pos (by decide)
  rcases Nat.eq_zero_or_pos (code l s) with h | h
  · exact h
  · have := Nat.mul_pos h hq; omega
end Go.Proofs.YtipcdkemokkdfaaGreat.CanonMath
