/- Layer 60: rows that are met again: mathematics of the table. -/
import Derived.Test.YtplopddlpoffoaaBm
namespace Go.Proofs.Ytplopddlpoffoaa
set_option linter.unusedVariables false
set_option maxRecDepth 100000
abbrev Row8 := List UInt8
def freshR : List Row8 := (List.range 256).map fun i => [UInt8.ofNat i]
/-- The document's search: the first of the longest rows that s begins with. -/
def lngGo (s : Row8) : List Row8 → Nat → Nat → Nat → Nat
  | [], _, best, _ => best
  | r :: rs, i, best, n => if n < r.length ∧ r <+: s then lngGo s rs (i + 1) i r.length else lngGo s rs (i + 1) best n
def lng (l : List Row8) (s : Row8) : Nat := lngGo s l 0 0 0
structure Dic (l : List Row8) : Prop where
  len : 256 ≤ l.length
  one : ∀ i, i < 256 → l[i]? = some [UInt8.ofNat i]
  nodup : l.Nodup
  pre : ∀ j r, 256 ≤ j → l[j]? = some r → ∃ i b q, i < j ∧ l[i]? = some q ∧ r = q ++ [b]
  ne : ∀ r, r ∈ l → r ≠ []
theorem nodup_at {l : List Row8} (h : l.Nodup) {i j : Nat} {r : Row8} (hi : l[i]? = some r) (hj : l[j]? = some r) : i = j := by
  obtain ⟨h1, e1⟩ := List.getElem?_eq_some_iff.1 hi
  obtain ⟨h2, e2⟩ := List.getElem?_eq_some_iff.1 hj
  have h3 := List.pairwise_iff_getElem.1 (List.nodup_iff_pairwise_ne.1 h)
  rcases Nat.lt_trichotomy i j with hc | hc | hc
  · exact absurd (e1.trans e2.symm) (h3 i j h1 h2 hc)
  · exact hc
  · exact absurd (e2.trans e1.symm) (h3 j i h2 h1 hc)
theorem fresh_len : freshR.length = 256 := by simp [freshR]
theorem fresh_at (i : Nat) (hi : i < 256) : freshR[i]? = some [UInt8.ofNat i] := by simp [freshR, hi]
theorem dic_fresh : Dic freshR := by
  refine ⟨by rw [fresh_len]; exact Nat.le_refl _, fresh_at, ?_, ?_, ?_⟩
  · unfold freshR
    rw [List.nodup_iff_pairwise_ne, List.pairwise_map]
    refine List.Pairwise.imp_of_mem ?_ (List.nodup_iff_pairwise_ne.1 (List.nodup_range (n := 256)))
    intro a b ha hb hab h
    rw [List.mem_range] at ha hb
    have h1 : UInt8.ofNat a = UInt8.ofNat b := by simpa using h
    have h2 := congrArg UInt8.toNat h1
    simp only [UInt8.toNat_ofNat'] at h2
    omega
  · intro j r hj hr
    have := (List.getElem?_eq_some_iff.1 hr).1
    rw [fresh_len] at this
    omega
  · intro r hr
    simp only [freshR, List.mem_map] at hr
    obtain ⟨i, -, rfl⟩ := hr
    simp
/-- All beginnings of a row stand in the table. -/
theorem Dic.closed {l : List Row8} (h : Dic l) : ∀ (j : Nat) (r : Row8), l[j]? = some r → ∀ n, 1 ≤ n → n ≤ r.length → ∃ i : Nat, i ≤ j ∧ l[i]? = some (r.take n) := by
  intro j
  induction j using Nat.strongRecOn with
  | ind j ih =>
    intro r hr n h1 h2
    by_cases hj : j < 256
    · have := h.one j hj
      rw [this] at hr
      cases hr
      simp only [List.length_cons, List.length_nil] at h2
      obtain rfl : n = 1 := by omega
      exact ⟨j, Nat.le_refl _, this⟩
    · obtain ⟨i, b, q, hi, hq, rfl⟩ := h.pre j r (by omega) hr
      by_cases hn : n ≤ q.length
      · obtain ⟨k, hk, e⟩ := ih i hi q hq n h1 hn
        refine ⟨k, by omega, ?_⟩
        rw [e, List.take_append_of_le_length hn]
      · rw [List.take_of_length_le (by simp; omega)]
        exact ⟨j, Nat.le_refl _, hr⟩
theorem Dic.some_one {l : List Row8} (h : Dic l) (b : UInt8) : l[b.toNat]? = some [b] := by
  have := h.one b.toNat b.toNat_lt
  simpa using this
theorem lngGo_spec (s : Row8) : ∀ (rs : List Row8) (i best n : Nat), (∃ r, (r ∈ rs ∧ r <+: s ∧ n < r.length)) → ∃ j r, rs[j]? = some r ∧ lngGo s rs i best n = i + j ∧ r <+: s ∧ n < r.length ∧ ∀ q, q ∈ rs → q <+: s → q.length ≤ r.length
  | [], i, best, n, h => by obtain ⟨r, h, -⟩ := h; cases h
  | r :: rs, i, best, n, h => by
    unfold lngGo
    by_cases hr : n < r.length ∧ r <+: s
    · rw [if_pos hr]
      by_cases hm : ∃ q, q ∈ rs ∧ q <+: s ∧ r.length < q.length
      · obtain ⟨j, q, h1, h2, h3, h4, h5⟩ := lngGo_spec s rs (i + 1) i r.length hm
        refine ⟨j + 1, q, by simpa using h1, by omega, h3, by omega, fun p hp hps => ?_⟩
        rcases List.mem_cons.1 hp with rfl | hp
        · omega
        · exact h5 p hp hps
      · refine ⟨0, r, rfl, ?_, hr.2, hr.1, fun p hp hps => ?_⟩
        · have : ∀ (rs : List Row8) (k b m : Nat), (¬ ∃ q, q ∈ rs ∧ q <+: s ∧ m < q.length) → lngGo s rs k b m = b := by
            intro rs
            induction rs with
            | nil => intro k b m _; rfl
            | cons q qs ih =>
              intro k b m hno
              unfold lngGo
              rw [if_neg (fun hc => hno ⟨q, List.mem_cons_self, hc.2, hc.1⟩)]
              exact ih (k + 1) b m (fun ⟨p, hp, h⟩ => hno ⟨p, List.mem_cons_of_mem _ hp, h⟩)
          rw [this rs (i + 1) i r.length hm]; rfl
        · rcases List.mem_cons.1 hp with rfl | hp
          · exact Nat.le_refl _
          · exact Nat.le_of_not_lt fun hc => hm ⟨p, hp, hps, hc⟩
    · rw [if_neg hr]
      obtain ⟨q, hq, hqs, hqn⟩ := h
      rcases List.mem_cons.1 hq with rfl | hq
      · exact absurd ⟨hqn, hqs⟩ hr
      · obtain ⟨j, p, h1, h2, h3, h4, h5⟩ := lngGo_spec s rs (i + 1) best n ⟨q, hq, hqs, hqn⟩
        refine ⟨j + 1, p, by simpa using h1, by omega, h3, h4, fun x hx hxs => ?_⟩
        rcases List.mem_cons.1 hx with rfl | hx
        · exact Nat.le_of_lt (Nat.lt_of_le_of_lt (Nat.le_of_not_lt fun hc => hr ⟨hc, hxs⟩) h4)
        · exact h5 x hx hxs
theorem Dic.lng_spec {l : List Row8} (h : Dic l) {s : Row8} (hs : s ≠ []) : ∃ r, l[lng l s]? = some r ∧ r <+: s ∧ ∀ q, q ∈ l → q <+: s → q.length ≤ r.length := by
  obtain ⟨b, t, rfl⟩ : ∃ b t, s = b :: t := by cases s with | nil => exact absurd rfl hs | cons b t => exact ⟨b, t, rfl⟩
  have h1 := h.some_one b
  obtain ⟨j, r, h2, h3, h4, -, h5⟩ := lngGo_spec (b :: t) l 0 0 0 ⟨[b], List.mem_of_getElem? h1, by simp, by simp⟩
  refine ⟨r, ?_, h4, h5⟩
  unfold lng
  rw [h3, Nat.zero_add]; exact h2
/-- A row that s begins with, and none with a byte more: the longest. -/
theorem Dic.lng_eq {l : List Row8} (h : Dic l) {s : Row8} {row k : Nat} (h1 : 1 ≤ k) (hk : k ≤ s.length) (hr : l[row]? = some (s.take k)) (hno : k < s.length → s.take (k + 1) ∉ l) : lng l s = row := by
  have hs : s ≠ [] := by intro e; subst e; simp at hk; omega
  obtain ⟨r, e1, e2, e3⟩ := h.lng_spec hs
  have h4 := e3 _ (List.mem_of_getElem? hr) (List.take_prefix k s)
  rw [List.length_take, Nat.min_eq_left hk] at h4
  have h5 : r.length ≤ s.length := e2.length_le
  have h6 : r.length ≤ k := by
    refine Nat.le_of_not_lt fun hc => ?_
    obtain ⟨i, -, hi⟩ := h.closed _ _ e1 (k + 1) (by omega) hc
    refine hno (by omega) ?_
    have : r.take (k + 1) = s.take (k + 1) := by
      rw [List.prefix_iff_eq_take.1 e2, List.take_take, Nat.min_eq_left hc]
    rw [← this]
    exact List.mem_of_getElem? hi
  have h7 : r = s.take k := by
    rw [List.prefix_iff_eq_take.1 e2, show r.length = k by omega]
  rw [h7] at e1
  exact nodup_at h.nodup e1 hr
/-- A row with a byte behind it, if it is new, may join. -/
theorem Dic.add {l : List Row8} (h : Dic l) {i : Nat} {q : Row8} {b : UInt8} (hq : l[i]? = some q) (hno : q ++ [b] ∉ l) : Dic (l ++ [q ++ [b]]) := by
  have hi : i < l.length := (List.getElem?_eq_some_iff.1 hq).1
  have hl := h.len
  have hat : ∀ j r, l[j]? = some r → (l ++ [q ++ [b]])[j]? = some r := fun j r e => by rw [List.getElem?_append_left (List.getElem?_eq_some_iff.1 e).1]; exact e
  refine ⟨by simp; omega, fun j hj => hat _ _ (h.one j hj), ?_, ?_, ?_⟩
  · rw [List.nodup_append]
    refine ⟨h.nodup, by simp, fun a ha c hc => ?_⟩
    rw [List.mem_singleton] at hc
    intro e
    exact hno (by rw [← hc, ← e]; exact ha)
  · intro j r hj hr
    by_cases hjl : j < l.length
    · rw [List.getElem?_append_left hjl] at hr
      obtain ⟨k, c, p, h1, h2, h3⟩ := h.pre j r hj hr
      exact ⟨k, c, p, h1, hat _ _ h2, h3⟩
    · have hjj : j = l.length := by
        have := (List.getElem?_eq_some_iff.1 hr).1
        simp at this; omega
      subst hjj
      rw [List.getElem?_append_right (Nat.le_refl _), Nat.sub_self] at hr
      simp at hr
      exact ⟨i, b, q, hi, hat _ _ hq, hr.symm⟩
  · intro r hr
    rcases List.mem_append.1 hr with hr | hr
    · exact h.ne r hr
    · rw [List.mem_singleton] at hr; subst hr; simp
/-- The map of a table. -/
def Tr (l : List Row8) (M : Nat → Nat → Option Nat) : Prop :=
  (∀ i q, l[i]? = some q → ∀ (b : UInt8) (j : Nat), M i b.toNat = some j ↔ l[j]? = some (q ++ [b])) ∧ ∀ i c, l.length ≤ i → M i c = none
def putT (M : Nat → Nat → Option Nat) (i b v : Nat) : Nat → Nat → Option Nat := fun x y => if x = i ∧ y = b then some v else M x y
theorem tr_fresh : Tr freshR (fun _ _ => none) := by
  refine ⟨fun i q hq b j => ?_, fun _ _ _ => rfl⟩
  constructor
  · intro h; cases h
  · intro h
    exfalso
    have h1 : i < 256 := by have := (List.getElem?_eq_some_iff.1 hq).1; rwa [fresh_len] at this
    have h2 : j < 256 := by have := (List.getElem?_eq_some_iff.1 h).1; rwa [fresh_len] at this
    rw [fresh_at i h1] at hq
    rw [fresh_at j h2] at h
    cases hq
    simp at h
theorem Tr.add {l : List Row8} {M : Nat → Nat → Option Nat} (hd : Dic l) (h : Tr l M) {i : Nat} {q : Row8} {b : UInt8} (hq : l[i]? = some q) (hno : q ++ [b] ∉ l) : Tr (l ++ [q ++ [b]]) (putT M i b.toNat l.length) := by
  have hi : i < l.length := (List.getElem?_eq_some_iff.1 hq).1
  refine ⟨fun x p hp c j => ?_, fun x y hx => ?_⟩
  · by_cases hx : x < l.length
    · rw [List.getElem?_append_left hx] at hp
      unfold putT
      by_cases he : x = i ∧ c.toNat = b.toNat
      · rw [if_pos he]
        obtain ⟨rfl, hc⟩ := he
        obtain rfl : c = b := UInt8.toNat_inj.1 hc
        rw [hq] at hp; cases hp
        constructor
        · intro e; cases e
          rw [List.getElem?_append_right (Nat.le_refl _), Nat.sub_self]; rfl
        · intro e
          have hjl : j = l.length := by
            by_cases hj : j < l.length
            · rw [List.getElem?_append_left hj] at e
              exact absurd (List.mem_of_getElem? e) hno
            · have := (List.getElem?_eq_some_iff.1 e).1
              simp at this; omega
          rw [hjl]
      · rw [if_neg he, h.1 x p hp c j]
        constructor
        · intro e; rw [List.getElem?_append_left (List.getElem?_eq_some_iff.1 e).1]; exact e
        · intro e
          by_cases hj : j < l.length
          · rwa [List.getElem?_append_left hj] at e
          · exfalso
            have : j = l.length := by
              have := (List.getElem?_eq_some_iff.1 e).1
              simp at this; omega
            subst this
            rw [List.getElem?_append_right (Nat.le_refl _), Nat.sub_self] at e
            simp at e
            obtain ⟨rfl, rfl⟩ := e
            exact he ⟨nodup_at hd.nodup hp hq, rfl⟩
    · have hxx : x = l.length := by
        have := (List.getElem?_eq_some_iff.1 hp).1
        simp at this; omega
      subst hxx
      rw [List.getElem?_append_right (Nat.le_refl _), Nat.sub_self] at hp
      simp at hp; subst hp
      unfold putT
      rw [if_neg (fun e => by omega), h.2 _ _ (Nat.le_refl _)]
      constructor
      · intro e; cases e
      · intro e
        exfalso
        by_cases hj : j < l.length
        · rw [List.getElem?_append_left hj] at e
          -- its beginning q ++ [b] would stand in l
          obtain ⟨k, -, hk⟩ := hd.closed j _ e (q.length + 1) (by omega) (by simp)
          refine hno ?_
          have : (q ++ [b] ++ [c]).take (q.length + 1) = q ++ [b] := by
            rw [List.take_append_of_le_length (by simp)]
            exact List.take_of_length_le (by simp)
          rw [this] at hk
          exact List.mem_of_getElem? hk
        · have hjj : j = l.length := by
            have := (List.getElem?_eq_some_iff.1 e).1
            simp at this; omega
          subst hjj
          rw [List.getElem?_append_right (Nat.le_refl _), Nat.sub_self] at e
          simp at e
  · unfold putT
    rw [if_neg (fun e => by simp at hx; omega)]
    exact h.2 x y (by simp at hx; omega)
theorem Tr.none_iff {l : List Row8} {M : Nat → Nat → Option Nat} (h : Tr l M) {i : Nat} {q : Row8} (hq : l[i]? = some q) (b : UInt8) (hn : M i b.toNat = none) : q ++ [b] ∉ l := by
  intro hm
  obtain ⟨j, hj⟩ := List.mem_iff_getElem?.1 hm
  have := (h.1 i q hq b j).2 hj
  rw [hn] at this; cases this
end Go.Proofs.Ytplopddlpoffoaa
