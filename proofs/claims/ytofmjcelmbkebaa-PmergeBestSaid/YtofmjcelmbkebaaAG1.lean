/- Layer 7: the mathematics of merged packages: rows of coins, what the first ones of a row hold, and that they weigh least. -/
import Derived.Test.YtofmjcelmbkebaaBase
namespace Go.Proofs.Ytofmjcelmbkebaa.Pm
set_option linter.unusedVariables false
set_option maxRecDepth 100000

abbrev Coin := Int × Bool
def pairsF : List Coin → List Coin
  | x :: y :: r => (x.1 + y.1, false) :: pairsF r
  | _ => []
def mrg : Nat → List Coin → List Coin → List Coin
  | f + 1, x :: a, y :: b => if y.1 < x.1 then y :: mrg f (x :: a) b else x :: mrg f a (y :: b)
  | _, a, b => a ++ b
def mergeF (a b : List Coin) : List Coin := mrg (a.length + b.length) a b
def rowF (S : List Coin) : Nat → List Coin
  | 0 => S
  | i + 1 => mergeF S (pairsF (rowF S i))
def cntS : List Coin → Nat
  | [] => 0
  | c :: l => (if c.2 = true then 1 else 0) + cntS l
def sumW : List Coin → Int
  | [] => 0
  | c :: l => c.1 + sumW l
def symC (ws : List Int) : List Coin := ws.map (fun x => (x, true))
/-- Ascending. -/
def Asc : List Coin → Prop
  | [] => True
  | x :: l => (∀ y ∈ l, x.1 ≤ y.1) ∧ Asc l

theorem mrg_zero (a b : List Coin) : mrg 0 a b = a ++ b := by cases a <;> cases b <;> rfl
theorem pairsF_len : ∀ l : List Coin, (pairsF l).length = l.length / 2
  | [] => rfl
  | [x] => by simp [pairsF]
  | x :: y :: r => by simp only [pairsF, List.length_cons, pairsF_len r]; omega
theorem mrg_len : ∀ f (a b : List Coin), (mrg f a b).length = a.length + b.length
  | 0, a, b => by rw [mrg_zero, List.length_append]
  | f + 1, [], b => by simp [mrg]
  | f + 1, x :: a, [] => by simp [mrg]
  | f + 1, x :: a, y :: b => by
    simp only [mrg]
    split
    · simp only [List.length_cons, mrg_len f (x :: a) b]; omega
    · simp only [List.length_cons, mrg_len f a (y :: b)]; omega
theorem mergeF_len (a b : List Coin) : (mergeF a b).length = a.length + b.length := mrg_len _ a b
theorem mrg_mem : ∀ f (a b : List Coin) c, c ∈ mrg f a b ↔ c ∈ a ∨ c ∈ b
  | 0, a, b, c => by rw [mrg_zero, List.mem_append]
  | f + 1, [], b, c => by simp [mrg]
  | f + 1, x :: a, [], c => by simp [mrg]
  | f + 1, x :: a, y :: b, c => by
    simp only [mrg]
    split
    · simp only [List.mem_cons, mrg_mem f (x :: a) b]
      constructor
      · rintro (h | h | h) <;> simp [h]
      · rintro ((h | h) | h | h) <;> simp [h]
    · simp only [List.mem_cons, mrg_mem f a (y :: b)]
      constructor
      · rintro (h | h | h | h) <;> simp [h]
      · rintro ((h | h) | h | h) <;> simp [h]
theorem mrg_asc : ∀ f (a b : List Coin), a.length + b.length ≤ f → Asc a → Asc b → Asc (mrg f a b)
  | 0, a, b, h, ha, hb => by
    have : a = [] := List.length_eq_zero_iff.1 (by omega)
    subst this
    have : b = [] := List.length_eq_zero_iff.1 (by simpa using h)
    subst this; simp [mrg, Asc]
  | f + 1, [], b, h, ha, hb => by simpa [mrg] using hb
  | f + 1, x :: a, [], h, ha, hb => by simpa [mrg] using ha
  | f + 1, x :: a, y :: b, h, ha, hb => by
    simp only [mrg]
    simp only [List.length_cons] at h
    split
    · rename_i hlt
      refine ⟨fun z hz => ?_, mrg_asc f (x :: a) b (by simp only [List.length_cons]; omega) ha hb.2⟩
      rcases (mrg_mem _ _ _ _).1 hz with hz | hz
      · rcases List.mem_cons.1 hz with rfl | hz
        · omega
        · have := ha.1 z hz; omega
      · exact hb.1 z hz
    · rename_i hlt
      refine ⟨fun z hz => ?_, mrg_asc f a (y :: b) (by simp only [List.length_cons]; omega) ha.2 hb⟩
      rcases (mrg_mem _ _ _ _).1 hz with hz | hz
      · exact ha.1 z hz
      · rcases List.mem_cons.1 hz with rfl | hz
        · omega
        · have := hb.1 z hz; omega
theorem pairs_asc : ∀ l : List Coin, Asc l → Asc (pairsF l)
  | [], _ => by simp [pairsF, Asc]
  | [x], _ => by simp [pairsF, Asc]
  | x :: y :: r, h => by
    simp only [pairsF]
    refine ⟨?_, pairs_asc r h.2.2⟩
    -- each pair of r is of two of r
    have key : ∀ l : List Coin, (∀ z ∈ l, x.1 ≤ z.1 ∧ y.1 ≤ z.1) → ∀ z ∈ pairsF l, x.1 + y.1 ≤ z.1 := by
      intro l
      induction l using pairsF.induct with
      | case1 a b r ih =>
        intro hl z hz
        simp only [pairsF, List.mem_cons] at hz
        rcases hz with rfl | hz
        · have h1 := hl a (by simp)
          have h2 := hl b (by simp)
          simp only; omega
        · exact ih (fun z hz => hl z (by simp [hz])) z hz
      | case2 l hl => intro _ z hz; unfold pairsF at hz; split at hz <;> simp_all
    exact key r (fun z hz => ⟨h.1 z (by simp [hz]), h.2.1 z hz⟩)
theorem row_asc (S : List Coin) (h : Asc S) : ∀ i, Asc (rowF S i)
  | 0 => h
  | i + 1 => mrg_asc _ _ _ (Nat.le_refl _) h (pairs_asc _ (row_asc S h i))
/-- What is above 0. -/
def Pos (l : List Coin) : Prop := ∀ c ∈ l, 0 < c.1
theorem pairs_pos : ∀ l : List Coin, Pos l → Pos (pairsF l)
  | [], _ => by simp [pairsF, Pos]
  | [x], _ => by simp [pairsF, Pos]
  | x :: y :: r, h => by
    intro c hc
    simp only [pairsF, List.mem_cons] at hc
    rcases hc with rfl | hc
    · have h1 := h x (by simp)
      have h2 := h y (by simp)
      simp only; omega
    · exact pairs_pos r (fun z hz => h z (by simp [hz])) c hc
theorem row_pos (S : List Coin) (h : Pos S) : ∀ i, Pos (rowF S i)
  | 0 => h
  | i + 1 => fun c hc => by
    rcases (mrg_mem _ _ _ _).1 hc with hc | hc
    · exact h c hc
    · exact pairs_pos _ (row_pos S h i) c hc
theorem sumW_append (a b : List Coin) : sumW (a ++ b) = sumW a + sumW b := by
  induction a with
  | nil => simp [sumW]
  | cons x a ih => simp only [List.cons_append, sumW, ih]; omega
theorem cntS_append (a b : List Coin) : cntS (a ++ b) = cntS a + cntS b := by
  induction a with
  | nil => simp [cntS]
  | cons x a ih => simp only [List.cons_append, cntS, ih]; omega
theorem cntS_all : ∀ l : List Coin, (∀ c ∈ l, c.2 = true) → cntS l = l.length
  | [], _ => rfl
  | c :: l, h => by simp only [cntS, List.length_cons, h c (by simp), if_true, cntS_all l (fun c hc => h c (by simp [hc]))]; omega
theorem cntS_none : ∀ l : List Coin, (∀ c ∈ l, c.2 = false) → cntS l = 0
  | [], _ => rfl
  | c :: l, h => by
    simp only [cntS, h c (by simp), cntS_none l (fun c hc => h c (by simp [hc]))]; rfl
theorem pairs_sym : ∀ l : List Coin, ∀ c ∈ pairsF l, c.2 = false
  | [], _ => by simp [pairsF]
  | [x], _ => by simp [pairsF]
  | x :: y :: r, c => by
    intro hc
    simp only [pairsF, List.mem_cons] at hc
    rcases hc with rfl | hc
    · rfl
    · exact pairs_sym r c hc
theorem symC_sym (ws : List Int) : ∀ c ∈ symC ws, c.2 = true := by
  intro c hc; unfold symC at hc; obtain ⟨x, -, rfl⟩ := List.mem_map.1 hc; rfl
theorem pairs_take : ∀ (l : List Coin) (u : Nat), 2 * u ≤ l.length → sumW ((pairsF l).take u) = sumW (l.take (2 * u))
  | l, 0, _ => by simp [sumW]
  | [], u + 1, h => by simp at h
  | [x], u + 1, h => by simp at h; omega
  | x :: y :: r, u + 1, h => by
    have e : 2 * (u + 1) = 2 * u + 1 + 1 := by omega
    simp only [List.length_cons] at h
    rw [e]
    simp only [pairsF, List.take_succ_cons, sumW, pairs_take r u (by omega)]; omega

/-- The first t of two rows as one. -/
theorem mrg_split : ∀ f (a b : List Coin), a.length + b.length ≤ f → (∀ c ∈ a, c.2 = true) → (∀ c ∈ b, c.2 = false) → Asc a → Asc b → ∀ t, t ≤ a.length + b.length →
    ∃ s p, s + p = t ∧ s ≤ a.length ∧ p ≤ b.length ∧ cntS ((mrg f a b).take t) = s ∧ sumW ((mrg f a b).take t) = sumW (a.take s) + sumW (b.take p) ∧
      (∀ x ∈ a.take s, ∀ y ∈ b.drop p, x.1 ≤ y.1) ∧ (∀ y ∈ b.take p, ∀ x ∈ a.drop s, y.1 < x.1) ∧ (∀ x ∈ a.take s, x ∈ (mrg f a b).take t)
  | f, a, b, hf, ha, hb, hA, hB, 0, ht => ⟨0, 0, rfl, Nat.zero_le _, Nat.zero_le _, by simp [cntS], by simp [sumW], by simp, by simp, by simp⟩
  | 0, a, b, hf, ha, hb, hA, hB, t + 1, ht => by omega
  | f + 1, [], b, hf, ha, hb, hA, hB, t + 1, ht => by
    refine ⟨0, t + 1, by omega, Nat.zero_le _, by simpa using ht, ?_, by simp [mrg, sumW], by simp, by simp, by simp⟩
    simp only [mrg, List.nil_append]
    exact cntS_none _ (fun c hc => hb c (List.mem_of_mem_take hc))
  | f + 1, x :: a, [], hf, ha, hb, hA, hB, t + 1, ht => by
    refine ⟨t + 1, 0, by omega, by simpa using ht, Nat.zero_le _, ?_, by simp [mrg, sumW], by simp, by simp, by simp [mrg]⟩
    simp only [mrg, List.append_nil]
    rw [cntS_all _ (fun c hc => ha c (List.mem_of_mem_take hc)), List.length_take_of_le (by simpa using ht)]
  | f + 1, x :: a, y :: b, hf, ha, hb, hA, hB, t + 1, ht => by
    simp only [mrg]
    simp only [List.length_cons] at hf ht
    split
    · rename_i hlt
      obtain ⟨s, p, h1, h2, h3, h4, h5, h6, h7, h8⟩ := mrg_split f (x :: a) b (by simp only [List.length_cons]; omega) ha (fun c hc => hb c (by simp [hc])) hA hB.2 t (by simp only [List.length_cons]; omega)
      refine ⟨s, p + 1, by omega, h2, by simp only [List.length_cons]; omega, ?_, ?_, ?_, ?_, fun z hz => by rw [List.take_succ_cons]; exact List.mem_cons_of_mem _ (h8 z hz)⟩
      · simp only [List.take_succ_cons, cntS, h4, hb y (by simp)]; simp
      · simp only [List.take_succ_cons, sumW, h5]; omega
      · simpa using h6
      · intro z hz w hw
        simp only [List.take_succ_cons, List.mem_cons] at hz
        rcases hz with rfl | hz
        · have hw' := List.mem_of_mem_drop hw
          rcases List.mem_cons.1 hw' with rfl | hw'
          · exact hlt
          · have := hA.1 w hw'; omega
        · exact h7 z hz w hw
    · rename_i hlt
      obtain ⟨s, p, h1, h2, h3, h4, h5, h6, h7, h8⟩ := mrg_split f a (y :: b) (by simp only [List.length_cons]; omega) (fun c hc => ha c (by simp [hc])) hb hA.2 hB t (by simp only [List.length_cons]; omega)
      refine ⟨s + 1, p, by omega, by simp only [List.length_cons]; omega, h3, ?_, ?_, ?_, ?_, fun z hz => by
        rw [List.take_succ_cons] at hz ⊢
        rcases List.mem_cons.1 hz with rfl | hz
        · exact List.mem_cons_self
        · exact List.mem_cons_of_mem _ (h8 z hz)⟩
      · simp only [List.take_succ_cons, cntS, h4, ha x (by simp), if_true]; omega
      · simp only [List.take_succ_cons, sumW, h5]; omega
      · intro z hz w hw
        simp only [List.take_succ_cons, List.mem_cons] at hz
        rcases hz with rfl | hz
        · have hw' := List.mem_of_mem_drop hw
          rcases List.mem_cons.1 hw' with rfl | hw'
          · omega
          · have := hB.1 w hw'; omega
        · exact h6 z hz w hw
      · simpa using h7
theorem take_shift : ∀ (x : Coin) (a : List Coin), Asc (x :: a) → ∀ s, s < (x :: a).length → x.1 + sumW ((x :: a).take s) ≤ sumW ((x :: a).take (s + 1))
  | x, a, h, 0, hs => by simp [sumW]
  | x, [], h, s + 1, hs => by simp at hs
  | x, y :: a, h, s + 1, hs => by
    have := take_shift y a h.2 s (by simpa using hs)
    have hxy := h.1 y (by simp)
    simp only [List.take_succ_cons, sumW] at this ⊢
    omega
/-- They weigh no more than any others. -/
theorem mrg_least : ∀ f (a b : List Coin), a.length + b.length ≤ f → Asc a → Asc b → ∀ s p, s ≤ a.length → p ≤ b.length → sumW ((mrg f a b).take (s + p)) ≤ sumW (a.take s) + sumW (b.take p)
  | 0, a, b, hf, hA, hB, s, p, hs, hp => by
    obtain rfl : s = 0 := by omega
    obtain rfl : p = 0 := by omega
    simp [sumW]
  | f + 1, [], b, hf, hA, hB, s, p, hs, hp => by
    simp only [List.length_nil] at hs
    obtain rfl : s = 0 := by omega
    simp [mrg, sumW]
  | f + 1, x :: a, [], hf, hA, hB, s, p, hs, hp => by
    simp only [List.length_nil] at hp
    obtain rfl : p = 0 := by omega
    simp [mrg, sumW]
  | f + 1, x :: a, y :: b, hf, hA, hB, s, p, hs, hp => by
    simp only [mrg]
    simp only [List.length_cons] at hf
    split
    · rename_i hlt
      cases p with
      | succ p =>
        have := mrg_least f (x :: a) b (by simp only [List.length_cons]; omega) hA hB.2 s p hs (by simpa using hp)
        rw [show s + (p + 1) = s + p + 1 by omega]
        simp only [List.take_succ_cons, sumW] at this ⊢
        omega
      | zero =>
        cases s with
        | zero => simp [sumW]
        | succ s =>
          have := mrg_least f (x :: a) b (by simp only [List.length_cons]; omega) hA hB.2 s 0 (by omega) (Nat.zero_le _)
          have h2 := take_shift x a hA s (by omega)
          rw [Nat.add_zero] at this ⊢
          rw [List.take_zero] at this ⊢
          rw [List.take_succ_cons]
          simp only [sumW] at this h2 ⊢
          omega
    · rename_i hlt
      cases s with
      | succ s =>
        have := mrg_least f a (y :: b) (by simp only [List.length_cons]; omega) hA.2 hB s p (by simpa using hs) hp
        rw [show s + 1 + p = s + p + 1 by omega]
        simp only [List.take_succ_cons, sumW] at this ⊢
        omega
      | zero =>
        cases p with
        | zero => simp [sumW]
        | succ p =>
          have := mrg_least f a (y :: b) (by simp only [List.length_cons]; omega) hA.2 hB 0 p (Nat.zero_le _) (by omega)
          have h2 := take_shift y b hB p (by omega)
          rw [show 0 + (p + 1) = 0 + p + 1 by omega]
          simp only [List.take_zero, sumW] at this
          rw [List.take_succ_cons]
          simp only [sumW, List.take_zero]
          omega
end Go.Proofs.Ytofmjcelmbkebaa.Pm
