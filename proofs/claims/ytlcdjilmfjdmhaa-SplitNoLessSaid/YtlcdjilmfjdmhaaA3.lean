/- Layer 53: parts that cost least (mathematics). -/
import Derived.Test.YtlcdjilmfjdmhaaA2
namespace Go.Proofs.Ytlcdjilmfjdmhaa
set_option linter.unusedVariables false
set_option linter.unusedSimpArgs false
set_option maxRecDepth 100000
namespace Split
/-- Of the first m ways the last one of the least cost. -/
def scanC (c : Nat → Int) : Nat → Int × Nat
  | 0 => (0, 0)
  | j + 1 => if (scanC c j).2 = 0 ∨ c (j + 1) ≤ (scanC c j).1 then (c (j + 1), j + 1) else scanC c j
theorem scanC_spec (c : Nat → Int) : ∀ m, 0 < m → 1 ≤ (scanC c m).2 ∧ (scanC c m).2 ≤ m ∧ (scanC c m).1 = c (scanC c m).2 ∧ (∀ j, 1 ≤ j → j ≤ m → (scanC c m).1 ≤ c j) ∧ ∀ j, (scanC c m).2 < j → j ≤ m → (scanC c m).1 < c j
  | 0, h => by omega
  | 1, _ => by
    have e : scanC c 1 = (c 1, 1) := by simp [scanC]
    rw [e]
    refine ⟨Nat.le_refl _, Nat.le_refl _, rfl, fun j h1 h2 => ?_, fun j h1 h2 => ?_⟩
    · obtain rfl : j = 1 := by omega
      exact Int.le_refl _
    · simp only at h1; omega
  | m + 2, _ => by
    obtain ⟨h1, h2, h3, h4, h5⟩ := scanC_spec c (m + 1) (by omega)
    have e : scanC c (m + 2) = if (scanC c (m + 1)).2 = 0 ∨ c (m + 2) ≤ (scanC c (m + 1)).1 then (c (m + 2), m + 2) else scanC c (m + 1) := rfl
    rw [e]
    generalize scanC c (m + 1) = r at *
    split
    · rename_i h
      refine ⟨by simp only; omega, by simp only; omega, rfl, fun j h6 h7 => ?_, fun j h6 h7 => ?_⟩
      · simp only
        by_cases ej : j = m + 2
        · subst ej; exact Int.le_refl _
        · have := h4 j h6 (by omega); omega
      · simp only at h6; omega
    · rename_i h
      refine ⟨h1, by omega, h3, fun j h6 h7 => ?_, fun j h6 h7 => ?_⟩
      · by_cases ej : j = m + 2
        · subst ej; omega
        · exact h4 j h6 (by omega)
      · by_cases ej : j = m + 2
        · subst ej; omega
        · exact h5 j h6 (by omega)
theorem scanC_congr {c d : Nat → Int} : ∀ m, (∀ j, 1 ≤ j → j ≤ m → c j = d j) → scanC c m = scanC d m
  | 0, _ => rfl
  | m + 1, h => by
    have ih := scanC_congr m (fun j h1 h2 => h j h1 (by omega))
    simp only [scanC, ih, h (m + 1) (by omega) (Nat.le_refl _)]
/-- Of each end of the text what its parts cost at least, and how long the first one is. -/
def tabL (E : List UInt8 → Int) (most : Nat) : List UInt8 → List (Int × Nat)
  | [] => [(0, 0)]
  | x :: t => scanC (fun j => E ((x :: t).take j) + ((tabL E most t).getD (j - 1) (0, 0)).1) (min most (t.length + 1)) :: tabL E most t
def lst (E : List UInt8 → Int) (most : Nat) (L : List UInt8) : Int := ((tabL E most L).getD 0 (0, 0)).1
def fst (E : List UInt8 → Int) (most : Nat) (L : List UInt8) : Nat := ((tabL E most L).getD 0 (0, 0)).2
theorem lst_nil (E : List UInt8 → Int) (most : Nat) : lst E most [] = 0 := rfl
theorem tab_at (E : List UInt8 → Int) (most : Nat) : ∀ (L : List UInt8) (j : Nat), j ≤ L.length → (tabL E most L).getD j (0, 0) = (lst E most (L.drop j), fst E most (L.drop j))
  | L, 0, _ => by rw [List.drop_zero]; rfl
  | x :: t, j + 1, h => by
    have e : (tabL E most (x :: t)).getD (j + 1) (0, 0) = (tabL E most t).getD j (0, 0) := rfl
    rw [e, tab_at E most t j (by simp at h; omega), List.drop_succ_cons]
/-- What all costs, if the first part is so long. -/
def wayC (E : List UInt8 → Int) (most : Nat) (L : List UInt8) (j : Nat) : Int := E (L.take j) + lst E most (L.drop j)
theorem best_cons (E : List UInt8 → Int) (most : Nat) (L : List UInt8) (h : 0 < L.length) : (lst E most L, fst E most L) = scanC (wayC E most L) (min most L.length) := by
  match L, h with
  | x :: t, _ =>
    have e : (lst E most (x :: t), fst E most (x :: t)) = scanC (fun j => E ((x :: t).take j) + ((tabL E most t).getD (j - 1) (0, 0)).1) (min most (t.length + 1)) := rfl
    rw [e]
    refine scanC_congr _ (fun j h1 h2 => ?_)
    have hj : j - 1 ≤ t.length := by omega
    rw [tab_at E most t (j - 1) hj]
    unfold wayC
    obtain ⟨i, rfl⟩ : ∃ i, j = i + 1 := ⟨j - 1, by omega⟩
    rfl
theorem best_spec (E : List UInt8 → Int) (most : Nat) (L : List UInt8) (h : 0 < L.length) (hm : 0 < most) :
    1 ≤ fst E most L ∧ fst E most L ≤ most ∧ fst E most L ≤ L.length ∧ lst E most L = wayC E most L (fst E most L) ∧ (∀ j, 1 ≤ j → j ≤ most → j ≤ L.length → lst E most L ≤ wayC E most L j) ∧ ∀ j, fst E most L < j → j ≤ most → j ≤ L.length → lst E most L < wayC E most L j := by
  have hb := best_cons E most L h
  have hs := scanC_spec (wayC E most L) (min most L.length) (by omega)
  rw [← hb] at hs
  obtain ⟨h1, h2, h3, h4, h5⟩ := hs
  simp only at h1 h2 h3 h4 h5
  exact ⟨h1, by omega, by omega, h3, fun j a b c => h4 j a (by omega), fun j a b c => h5 j a (by omega)⟩
/-- Whoever tells a least one that is the last one tells that one. -/
theorem best_unique (E : List UInt8 → Int) (most : Nat) (L : List UInt8) (h : 0 < L.length) (hm : 0 < most) (q : Nat) (hq1 : 1 ≤ q) (hq2 : q ≤ most) (hq3 : q ≤ L.length)
    (hle : ∀ j, 1 ≤ j → j ≤ most → j ≤ L.length → wayC E most L q ≤ wayC E most L j) (hlt : ∀ j, q < j → j ≤ most → j ≤ L.length → wayC E most L q < wayC E most L j) : fst E most L = q ∧ lst E most L = wayC E most L q := by
  obtain ⟨h1, h2, h3, h4, h5, h6⟩ := best_spec E most L h hm
  have a := hle _ h1 h2 h3
  have b := h5 q hq1 hq2 hq3
  have e : fst E most L = q := by
    rcases Nat.lt_trichotomy (fst E most L) q with c | c | c
    · have := h6 q c hq2 hq3; omega
    · exact c
    · have := hlt _ c h2 h3; omega
  exact ⟨e, by rw [h4, e]⟩
/-- The sizes of the parts. -/
def ptsF (E : List UInt8 → Int) (most : Nat) : Nat → List UInt8 → List Nat
  | 0, _ => []
  | f + 1, L => if L.length = 0 then [] else fst E most L :: ptsF E most f (L.drop (fst E most L))
def pts (E : List UInt8 → Int) (most : Nat) (L : List UInt8) : List Nat := ptsF E most L.length L
theorem ptsF_enough (E : List UInt8 → Int) (most : Nat) (hm : 0 < most) : ∀ (f g : Nat) (L : List UInt8), L.length ≤ f → L.length ≤ g → ptsF E most f L = ptsF E most g L
  | 0, 0, L, _, _ => rfl
  | 0, g + 1, L, h, _ => by
    have : L.length = 0 := by omega
    simp [ptsF, this]
  | f + 1, 0, L, _, h => by
    have : L.length = 0 := by omega
    simp [ptsF, this]
  | f + 1, g + 1, L, h1, h2 => by
    unfold ptsF
    split
    · rfl
    · have hp := (best_spec E most L (by omega) hm).1
      rw [ptsF_enough E most hm f g (L.drop (fst E most L)) (by rw [List.length_drop]; omega) (by rw [List.length_drop]; omega)]
theorem pts_nil (E : List UInt8 → Int) (most : Nat) (L : List UInt8) (h : L.length = 0) : pts E most L = [] := by
  unfold pts; rw [h]; rfl
theorem pts_cons (E : List UInt8 → Int) (most : Nat) (L : List UInt8) (h : 0 < L.length) (hm : 0 < most) : pts E most L = fst E most L :: pts E most (L.drop (fst E most L)) := by
  have hp := (best_spec E most L h hm).1
  obtain ⟨f, hf⟩ : ∃ f, L.length = f + 1 := ⟨L.length - 1, by omega⟩
  have e : pts E most L = fst E most L :: ptsF E most f (L.drop (fst E most L)) := by
    unfold pts; rw [hf, ptsF, if_neg (by omega)]
  rw [e, ptsF_enough E most hm f (L.drop (fst E most L)).length _ (by rw [List.length_drop]; omega) (Nat.le_refl _)]
  rfl
theorem pts_pos (E : List UInt8 → Int) (most : Nat) (hm : 0 < most) : ∀ (n : Nat) (L : List UInt8), L.length ≤ n → (pts E most L).length ≤ L.length
  | 0, L, h => by rw [pts_nil E most L (by omega)]; simp
  | n + 1, L, h => by
    by_cases h0 : L.length = 0
    · rw [pts_nil E most L h0]; simp
    · have hp := best_spec E most L (by omega) hm
      have := pts_pos E most hm n (L.drop (fst E most L)) (by rw [List.length_drop]; omega)
      rw [pts_cons E most L (by omega) hm, List.length_cons]
      rw [List.length_drop] at this; omega
/-- All costs no less than nought, and no more than parts of one byte do. -/
theorem lst_bd (E : List UInt8 → Int) (most : Nat) (hm : 0 < most) (F : Int) (hF : 0 ≤ F) (N : Nat) (h0 : ∀ L, 0 < L.length → L.length ≤ N → 0 ≤ E L) (h1 : ∀ L, L.length = 1 → E L ≤ F) : ∀ (n : Nat) (L : List UInt8), L.length ≤ n → L.length ≤ N → 0 ≤ lst E most L ∧ lst E most L ≤ (L.length : Int) * F
  | 0, L, h, hN => by
    obtain rfl : L = [] := List.length_eq_zero_iff.1 (by omega)
    rw [lst_nil]; simp
  | n + 1, L, h, hN => by
    by_cases hz : L.length = 0
    · obtain rfl : L = [] := List.length_eq_zero_iff.1 hz
      rw [lst_nil]; simp
    · obtain ⟨a, b, c, d, e, f⟩ := best_spec E most L (by omega) hm
      have i1 := lst_bd E most hm F hF N h0 h1 n (L.drop (fst E most L)) (by rw [List.length_drop]; omega) (by rw [List.length_drop]; omega)
      have i2 := lst_bd E most hm F hF N h0 h1 n (L.drop 1) (by rw [List.length_drop]; omega) (by rw [List.length_drop]; omega)
      have e1 := e 1 (Nat.le_refl _) (by omega) (by omega)
      have e2 := h1 (L.take 1) (by rw [List.length_take]; omega)
      have e3 := h0 (L.take (fst E most L)) (by rw [List.length_take]; omega) (by rw [List.length_take]; omega)
      unfold wayC at d e1
      refine ⟨by omega, ?_⟩
      have hl : ((L.drop 1).length : Int) = (L.length : Int) - 1 := by rw [List.length_drop]; omega
      rw [hl, Int.sub_mul] at i2
      omega
end Split
end Go.Proofs.Ytlcdjilmfjdmhaa
