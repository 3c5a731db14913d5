/- Layer 19: ranks; whether a row is the order; strings compared (mathematics). -/
import Derived.Test.YtpkidedepcnoaaaU7
namespace Go.Proofs.Ytpkidedepcnoaaa
open Go.ChangeShapes Go.WideShapes Go.ChangeAt Go.RowKit
set_option linter.unusedVariables false
set_option linter.unusedSimpArgs false
set_option maxRecDepth 100000
/-- The first place of a number among the first t, or -1. -/
def fstF (a : List Int) (i : Int) : Nat → Int
  | 0 => -1
  | t + 1 => if fstF a i t < 0 ∧ a.getD t 0 = i then (t : Int) else fstF a i t
theorem fstF_spec (a : List Int) (i : Int) : ∀ t, (fstF a i t = -1 ∧ ∀ j, j < t → a.getD j 0 ≠ i) ∨ ∃ j, j < t ∧ fstF a i t = (j : Int) ∧ a.getD j 0 = i ∧ ∀ k, k < j → a.getD k 0 ≠ i
  | 0 => .inl ⟨rfl, fun j h => by omega⟩
  | t + 1 => by
    rw [fstF]
    rcases fstF_spec a i t with ⟨h1, h2⟩ | ⟨j, h1, h2, h3, h4⟩
    · by_cases e : a.getD t 0 = i
      · rw [if_pos ⟨by omega, e⟩]
        exact .inr ⟨t, by omega, rfl, e, h2⟩
      · rw [if_neg (fun h => e h.2)]
        refine .inl ⟨h1, fun j hj => ?_⟩
        by_cases f : j = t
        · subst f; exact e
        · exact h2 j (by omega)
    · rw [if_neg (by omega)]
      exact .inr ⟨j, by omega, h2, h3, h4⟩
/-- The same from the end. -/
def bckF (a : List Int) (i : Int) (n : Nat) : Nat → Int
  | 0 => -1
  | d + 1 => if a.getD (n - 1 - d) 0 = i then ((n - 1 - d : Nat) : Int) else bckF a i n d
theorem bckF_spec (a : List Int) (i : Int) (n : Nat) : ∀ d, d ≤ n → (bckF a i n d = -1 ∧ ∀ j, n - d ≤ j → j < n → a.getD j 0 ≠ i) ∨ ∃ j, n - d ≤ j ∧ j < n ∧ bckF a i n d = (j : Int) ∧ a.getD j 0 = i ∧ ∀ k, n - d ≤ k → k < j → a.getD k 0 ≠ i
  | 0, _ => .inl ⟨rfl, fun j h h2 => by omega⟩
  | d + 1, hd => by
    rw [bckF]
    by_cases e : a.getD (n - 1 - d) 0 = i
    · rw [if_pos e]
      exact .inr ⟨n - 1 - d, by omega, by omega, rfl, e, fun k h1 h2 => by omega⟩
    · rw [if_neg e]
      rcases bckF_spec a i n d (by omega) with ⟨h1, h2⟩ | ⟨j, h0, h1, h2, h3, h4⟩
      · refine .inl ⟨h1, fun j hj hj2 => ?_⟩
        by_cases f : j = n - 1 - d
        · subst f; exact e
        · exact h2 j (by omega) hj2
      · refine .inr ⟨j, by omega, h1, h2, h3, fun k hk hk2 => ?_⟩
        by_cases f : k = n - 1 - d
        · subst f; exact e
        · exact h4 k (by omega) hk2
theorem bck_fst (a : List Int) (i : Int) (n : Nat) : bckF a i n n = fstF a i n := by
  rcases bckF_spec a i n n (Nat.le_refl _) with ⟨h1, h2⟩ | ⟨j, h0, h1, h2, h3, h4⟩
  · rcases fstF_spec a i n with ⟨g1, g2⟩ | ⟨k, g1, g2, g3, g4⟩
    · rw [h1, g1]
    · exact absurd g3 (h2 k (by omega) g1)
  · rcases fstF_spec a i n with ⟨g1, g2⟩ | ⟨k, g1, g2, g3, g4⟩
    · exact absurd h3 (g2 j h1)
    · rw [h2, g2]
      rcases Nat.lt_trichotomy j k with e | e | e
      · exact absurd h3 (g4 j e)
      · rw [e]
      · exact absurd g3 (h4 k (by omega) e)
def ranksL (a : List Int) : List Int := (List.range a.length).map (fun i : Nat => fstF a (i : Int) a.length)
theorem ranksL_len (a : List Int) : (ranksL a).length = a.length := by simp [ranksL]
theorem ranksL_getD (a : List Int) (i : Nat) (h : i < a.length) : (ranksL a).getD i 0 = fstF a (i : Int) a.length := by simp [ranksL, List.getD_eq_getElem?_getD, h]
/-- A row is the order of all ends. -/
def SufI (L : List UInt8) (l : List Int) : Prop := ∃ a : List Nat, IsSuf L a ∧ l = a.map (fun x : Nat => (x : Int))
theorem mapN_getD (a : List Nat) (j : Nat) (h : j < a.length) : (a.map (fun x : Nat => (x : Int))).getD j 0 = (a.getD j 0 : Nat) := by simp [List.getD_eq_getElem?_getD, h]
/-- All places have a rank: each stands once. -/
theorem all_ranked (l : List Int) (n : Nat) (hl : l.length = n) (h : ∀ i, i < n → 0 ≤ fstF l (i : Int) n) : ∃ a : List Nat, l = a.map (fun x : Nat => (x : Int)) ∧ a.length = n ∧ a.Nodup ∧ (∀ x ∈ a, x < n) ∧ ∀ j, j < n → fstF l ((a.getD j 0 : Nat) : Int) n = (j : Int) := by
  have hpos : ∀ i, i < n → ∃ j, j < n ∧ fstF l (i : Int) n = (j : Int) ∧ l.getD j 0 = (i : Int) := by
    intro i hi
    rcases fstF_spec l (i : Int) n with ⟨h1, h2⟩ | ⟨j, h1, h2, h3, h4⟩
    · have := h i hi; omega
    · exact ⟨j, h1, h2, h3⟩
  have hnd : ((List.range n).map (fun i : Nat => (fstF l (i : Int) n).toNat)).Nodup := by
    refine List.pairwise_iff_getElem.2 (fun x y hx hy hxy => ?_)
    simp only [List.length_map, List.length_range] at hx hy
    simp only [List.getElem_map, List.getElem_range]
    intro e
    obtain ⟨j1, -, e1, f1⟩ := hpos x hx
    obtain ⟨j2, -, e2, f2⟩ := hpos y hy
    rw [e1, e2] at e
    have : j1 = j2 := by omega
    subst this
    omega
  have hsur := (pig n _ hnd (fun x hx => by
    obtain ⟨i, hi, rfl⟩ := List.mem_map.1 hx
    obtain ⟨j, hj, e, -⟩ := hpos i (List.mem_range.1 hi)
    rw [e]; omega)).2 (by simp)
  have hback : ∀ j, j < n → ∃ i, i < n ∧ l.getD j 0 = ((i : Nat) : Int) ∧ fstF l (i : Int) n = (j : Int) := by
    intro j hj
    obtain ⟨i, hi, e⟩ := List.mem_map.1 (hsur j hj)
    have hi := List.mem_range.1 hi
    obtain ⟨k, hk, e1, e2⟩ := hpos i hi
    have : k = j := by rw [e1] at e; omega
    subst this
    exact ⟨i, hi, e2, e1⟩
  have hmap : l = (l.map Int.toNat).map (fun x : Nat => (x : Int)) := by
    apply List.ext_getElem (by simp)
    intro j h1 h2
    obtain ⟨i, hi, e, -⟩ := hback j (by omega)
    rw [List.getD_eq_getElem?_getD, List.getElem?_eq_getElem h1, Option.getD_some] at e
    simp [e]
  have hget : ∀ j, j < n → ∃ i, i < n ∧ (l.map Int.toNat).getD j 0 = i ∧ fstF l (i : Int) n = (j : Int) := by
    intro j hj
    obtain ⟨i, hi, e, f⟩ := hback j hj
    refine ⟨i, hi, ?_, f⟩
    rw [List.getD_eq_getElem?_getD, List.getElem?_eq_getElem (by omega), Option.getD_some] at e
    simp [List.getD_eq_getElem?_getD, show j < l.length by omega, e]
  refine ⟨l.map Int.toNat, hmap, by simp [hl], ?_, fun x hx => ?_, fun j hj => ?_⟩
  · refine pw_of_getD (fun i j hij hj e => ?_)
    simp only [List.length_map] at hj
    obtain ⟨x, -, e1, f1⟩ := hget i (by omega)
    obtain ⟨y, -, e2, f2⟩ := hget j (by omega)
    rw [e1, e2] at e
    subst e
    omega
  · obtain ⟨j, hj, e⟩ := List.getElem_of_mem hx
    simp only [List.length_map] at hj
    obtain ⟨i, hi, e1, -⟩ := hget j (by omega)
    rw [List.getD_eq_getElem?_getD, List.getElem?_eq_getElem (by simpa using hj), Option.getD_some, e] at e1
    omega
  · obtain ⟨i, hi, e1, f1⟩ := hget j hj
    rw [e1]; exact f1
theorem suf_ranked (l : List Int) (a : List Nat) (n : Nat) (ha : l = a.map (fun x : Nat => (x : Int))) (hal : a.length = n) (hnd : a.Nodup) (hlt : ∀ x ∈ a, x < n) : (∀ i, i < n → 0 ≤ fstF l (i : Int) n) ∧ ∀ j, j < n → fstF l ((a.getD j 0 : Nat) : Int) n = (j : Int) := by
  have hall := (pig n a hnd hlt).2 hal
  have hg : ∀ j, j < n → l.getD j 0 = ((a.getD j 0 : Nat) : Int) := fun j hj => by rw [ha]; exact mapN_getD a j (by omega)
  have h2 : ∀ j, j < n → fstF l ((a.getD j 0 : Nat) : Int) n = (j : Int) := by
    intro j hj
    rcases fstF_spec l ((a.getD j 0 : Nat) : Int) n with ⟨h1, h2⟩ | ⟨k, h1, h2, h3, h4⟩
    · exact absurd (hg j hj) (h2 j hj)
    · rw [h2]
      rw [hg k h1] at h3
      rcases Nat.lt_trichotomy k j with e | e | e
      · exact absurd (by omega) (pw_getD hnd k j e (by omega))
      · rw [e]
      · exact absurd (by omega) (pw_getD hnd j k e (by omega))
  refine ⟨fun i hi => ?_, h2⟩
  obtain ⟨j, hj, e⟩ := List.getElem_of_mem (hall i hi)
  have := h2 j (by omega)
  rw [List.getD_eq_getElem?_getD, List.getElem?_eq_getElem hj, Option.getD_some, e] at this
  omega
/-- The rank of an end, -1 behind the text. -/
def ofR (l : List Int) (n i : Nat) : Int := if i < n then fstF l (i : Int) n else -1
/-- What is asked of neighbours. -/
def Nbr (L : List UInt8) (l : List Int) (a : List Nat) (j : Nat) : Prop :=
  byteAt L (a.getD (j - 1) 0) ≤ byteAt L (a.getD j 0) ∧ (byteAt L (a.getD (j - 1) 0) = byteAt L (a.getD j 0) → ofR l L.length (a.getD (j - 1) 0 + 1) ≤ ofR l L.length (a.getD j 0 + 1))
theorem key_head (L : List UInt8) (p k : Nat) (hp : p < L.length) : key L p (k + 1) = (byteAt L p + 1) * 257 ^ k + key L (p + 1) k := by
  rw [Nat.add_comm k 1, key_add, key_byte L p hp]
theorem nbr_suf {L : List UInt8} {l : List Int} {a : List Nat} (hal : a.length = L.length) (hnd : a.Nodup) (hlt : ∀ x ∈ a, x < L.length) (hr : ∀ j, j < L.length → fstF l ((a.getD j 0 : Nat) : Int) L.length = (j : Int)) (h : ∀ j, 1 ≤ j → j < L.length → Nbr L l a j) : IsSuf L a := by
  have hall := (pig L.length a hnd hlt).2 hal
  have gl : ∀ j, j < L.length → a.getD j 0 < L.length := fun j hj => hlt _ (getD_mem a j (by omega))
  have chain : ∀ d x, x + d < L.length → byteAt L (a.getD x 0) ≤ byteAt L (a.getD (x + d) 0) ∧ (byteAt L (a.getD x 0) = byteAt L (a.getD (x + d) 0) → ofR l L.length (a.getD x 0 + 1) ≤ ofR l L.length (a.getD (x + d) 0 + 1)) := by
    intro d
    induction d with
    | zero => intro x _; exact ⟨Nat.le_refl _, fun _ => Int.le_refl _⟩
    | succ d ih =>
      intro x hx
      obtain ⟨h1, h2⟩ := ih x (by omega)
      obtain ⟨h3, h4⟩ := h (x + (d + 1)) (by omega) hx
      rw [show x + (d + 1) - 1 = x + d by omega] at h3 h4
      exact ⟨by omega, fun e => by have := h2 (by omega); have := h4 (by omega); omega⟩
  have main : ∀ k x y, x < y → y < L.length → key L (a.getD x 0) k ≤ key L (a.getD y 0) k := by
    intro k
    induction k with
    | zero => intro x y _ _; exact Nat.le_refl _
    | succ k ih =>
      intro x y hxy hy
      obtain ⟨h1, h2⟩ := chain (y - x) x (by omega)
      rw [show x + (y - x) = y by omega] at h1 h2
      have lx := gl x (by omega)
      have ly := gl y hy
      have b1 := key_lt L (a.getD x 0 + 1) k
      have b2 := key_lt L (a.getD y 0 + 1) k
      rw [key_head L _ k lx, key_head L _ k ly]
      by_cases e : byteAt L (a.getD x 0) = byteAt L (a.getD y 0)
      · have h3 := h2 e
        have : key L (a.getD x 0 + 1) k ≤ key L (a.getD y 0 + 1) k := by
          by_cases g1 : a.getD x 0 + 1 < L.length
          · obtain ⟨x', hx', ex⟩ := List.getElem_of_mem (hall _ g1)
            have gx : a.getD x' 0 = a.getD x 0 + 1 := by rw [List.getD_eq_getElem?_getD, List.getElem?_eq_getElem hx', Option.getD_some, ex]
            have r1 := hr x' (by omega)
            rw [gx] at r1
            unfold ofR at h3
            rw [if_pos g1, r1] at h3
            by_cases g2 : a.getD y 0 + 1 < L.length
            · obtain ⟨y', hy', ey⟩ := List.getElem_of_mem (hall _ g2)
              have gy : a.getD y' 0 = a.getD y 0 + 1 := by rw [List.getD_eq_getElem?_getD, List.getElem?_eq_getElem hy', Option.getD_some, ey]
              have r2 := hr y' (by omega)
              rw [gy] at r2
              rw [if_pos g2, r2] at h3
              rw [← gx, ← gy]
              by_cases e2 : x' = y'
              · rw [e2]; exact Nat.le_refl _
              · exact ih x' y' (by omega) (by omega)
            · rw [if_neg g2] at h3; omega
          · rw [key_out L _ (by omega)]; exact Nat.zero_le _
        rw [e]; omega
      · have := (lex_lt (a := byteAt L (a.getD x 0) + 1) (c := byteAt L (a.getD y 0) + 1) b1 b2).2 (.inl (by omega))
        omega
  refine ⟨hal, hlt, pw_of_getD (fun i j hij hj => ?_)⟩
  have h1 := main L.length i j hij (by omega)
  have h2 := pw_getD hnd i j hij hj
  have li := gl i (by omega)
  have lj := gl j (by omega)
  rcases Nat.lt_or_eq_of_le h1 with e | e
  · exact e
  · exact absurd (key_inj L _ _ L.length (by omega) (by omega) (Nat.le_refl _) e) h2
theorem suf_nbr {L : List UInt8} {l : List Int} {a : List Nat} (h : IsSuf L a) (hr : ∀ j, j < L.length → fstF l ((a.getD j 0 : Nat) : Int) L.length = (j : Int)) (j : Nat) (h1 : 1 ≤ j) (hj : j < L.length) : Nbr L l a j := by
  have hal := h.len
  have gl : ∀ j, j < L.length → a.getD j 0 < L.length := fun j hj => h.lt _ (getD_mem a j (by omega))
  have hk := pw_getD h.inc (j - 1) j (by omega) (by omega)
  have lp := gl (j - 1) (by omega)
  have lq := gl j hj
  obtain ⟨n, hn⟩ : ∃ n, L.length = n + 1 := ⟨L.length - 1, by omega⟩
  have b1 := key_lt L (a.getD (j - 1) 0 + 1) n
  have b2 := key_lt L (a.getD j 0 + 1) n
  have hk' := hk
  rw [hn, key_head L _ n lp, key_head L _ n lq, lex_lt b1 b2] at hk'
  refine ⟨by omega, fun e => ?_⟩
  have hkk : key L (a.getD (j - 1) 0 + 1) n < key L (a.getD j 0 + 1) n := by omega
  unfold ofR
  by_cases g2 : a.getD j 0 + 1 < L.length
  · obtain ⟨y, hy, ey⟩ := List.getElem_of_mem (h.mem _ g2)
    have gy : a.getD y 0 = a.getD j 0 + 1 := by rw [List.getD_eq_getElem?_getD, List.getElem?_eq_getElem hy, Option.getD_some, ey]
    have r2 := hr y (by omega)
    rw [gy] at r2
    rw [if_pos g2, r2]
    by_cases g1 : a.getD (j - 1) 0 + 1 < L.length
    · obtain ⟨x, hx, ex⟩ := List.getElem_of_mem (h.mem _ g1)
      have gx : a.getD x 0 = a.getD (j - 1) 0 + 1 := by rw [List.getD_eq_getElem?_getD, List.getElem?_eq_getElem hx, Option.getD_some, ex]
      have r1 := hr x (by omega)
      rw [gx] at r1
      rw [if_pos g1, r1]
      apply Classical.byContradiction
      intro hne
      have := pw_getD h.inc y x (by omega) (by omega)
      rw [gx, gy] at this
      have := key_up L _ _ n L.length (by omega) hkk
      omega
    · rw [if_neg g1]; omega
  · rw [key_out L (a.getD j 0 + 1) (by omega)] at hkk; omega
/-- Strings, compared. -/
theorem less_key (L : List UInt8) : ∀ (k p q : Nat), L.length ≤ p + k → L.length ≤ q + k → Op.bytesLess (L.drop p) (L.drop q) = decide (key L p k < key L q k)
  | k, p, q, hp, hq => by
    by_cases h2 : q < L.length
    · obtain ⟨k, rfl⟩ : ∃ k', k = k' + 1 := ⟨k - 1, by omega⟩
      have e2 : L.drop q = L.getD q 0 :: L.drop (q + 1) := by rw [List.drop_eq_getElem_cons h2]; simp [List.getD_eq_getElem?_getD, h2]
      by_cases h1 : p < L.length
      · have e1 : L.drop p = L.getD p 0 :: L.drop (p + 1) := by rw [List.drop_eq_getElem_cons h1]; simp [List.getD_eq_getElem?_getD, h1]
        have ih := less_key L k (p + 1) (q + 1) (by omega) (by omega)
        rw [e1, e2, Op.bytesLess, ih, key_head L p k h1, key_head L q k h2]
        have b1 := key_lt L (p + 1) k
        have b2 := key_lt L (q + 1) k
        have hl := lex_lt (a := byteAt L p + 1) (c := byteAt L q + 1) b1 b2
        have u1 : L.getD p 0 < L.getD q 0 ↔ byteAt L p < byteAt L q := UInt8.lt_iff_toNat_lt
        have u2 : L.getD p 0 = L.getD q 0 ↔ byteAt L p = byteAt L q := UInt8.toNat_inj.symm
        rw [Bool.eq_iff_iff, decide_eq_true_iff, hl, Bool.or_eq_true, Bool.and_eq_true, decide_eq_true_iff, beq_iff_eq, decide_eq_true_iff, u1, u2]
        omega
      · rw [List.drop_eq_nil_of_le (by omega : L.length ≤ p), e2, Op.bytesLess, key_out L p (by omega), key_head L q k h2]
        have : 0 < 257 ^ k := Nat.pow_pos (by decide)
        have : 1 * 257 ^ k ≤ (byteAt L q + 1) * 257 ^ k := Nat.mul_le_mul_right _ (by omega)
        symm
        rw [decide_eq_true_iff]; omega
    · rw [List.drop_eq_nil_of_le (by omega : L.length ≤ q), key_out L q (by omega)]
      cases L.drop p <;> simp [Op.bytesLess]
theorem drop_eq_key (L : List UInt8) (p q : Nat) (hp : p ≤ L.length) (hq : q ≤ L.length) : (L.drop p == L.drop q) = decide (key L p L.length = key L q L.length) := by
  rw [Bool.eq_iff_iff, beq_iff_eq, decide_eq_true_iff]
  constructor
  · intro h
    have := congrArg List.length h
    rw [List.length_drop, List.length_drop] at this
    have : p = q := by omega
    rw [this]
  · intro h
    rw [key_inj L p q L.length hp hq (Nat.le_refl _) h]
theorem slD (L : List UInt8) (i : Int) (p : Nat) (hi : i = p) (hp : p ≤ L.length) (W : World) : (Instr.slice 9 (.string (sM L)) (some (.int .i64 i)) none none).run Try.prog W = .ok (.string (sM (L.drop p))) W := by
  subst hi
  have hsz := sM_size L
  have := run_slice_string_l (P := Try.prog) (w := W) (t := 9) (s := sM L) Try.underlying9 .i64 (p : Int) (by omega) (by omega)
  rw [this, Int.toNat_natCast]
  congr 2
  apply ByteArray.ext
  simp [sM, ByteArray.data_extract, List.extract_toArray, List.extract_eq_take_drop, ByteArray.size]
  exact List.take_of_length_le (by rw [List.length_drop]; omega)
theorem sM_toList (L : List UInt8) : (sM L).toList = L := by rw [ByteArray.toList_eq]; simp [sM]
theorem gtrD (L : List UInt8) (p q : Nat) (hp : p ≤ L.length) (hq : q ≤ L.length) (t : TypeId) (W : World) : (binOp .gtr t (.string (sM (L.drop p))) (.string (sM (L.drop q)))).run Try.prog W = .ok (.bool (decide (key L q L.length < key L p L.length))) W := by
  have e : binOp .gtr t (.string (sM (L.drop p))) (.string (sM (L.drop q))) = pure (.bool !(Op.bytesLess (sM (L.drop p)).toList (sM (L.drop q)).toList || (sM (L.drop p)).toList == (sM (L.drop q)).toList)) := by simp [binOp, Op.stringOp]
  rw [e, sM_toList, sM_toList, less_key L L.length p q (by omega) (by omega), drop_eq_key L p q hp hq]
  show Result.ok _ _ = _
  congr 2
  rw [Bool.eq_iff_iff]
  simp only [Bool.not_eq_true', Bool.or_eq_false_iff, decide_eq_false_iff_not, decide_eq_true_iff]
  omega
theorem geqD (L : List UInt8) (p q : Nat) (hp : p ≤ L.length) (hq : q ≤ L.length) (t : TypeId) (W : World) : (binOp .geq t (.string (sM (L.drop p))) (.string (sM (L.drop q)))).run Try.prog W = .ok (.bool (decide (key L q L.length ≤ key L p L.length))) W := by
  have e : binOp .geq t (.string (sM (L.drop p))) (.string (sM (L.drop q))) = pure (.bool !(Op.bytesLess (sM (L.drop p)).toList (sM (L.drop q)).toList)) := by simp [binOp, Op.stringOp]
  rw [e, sM_toList, sM_toList, less_key L L.length p q (by omega) (by omega)]
  show Result.ok _ _ = _
  congr 2
  rw [Bool.eq_iff_iff]
  simp only [Bool.not_eq_true', decide_eq_false_iff_not, decide_eq_true_iff]
  omega
end Go.Proofs.Ytpkidedepcnoaaa
