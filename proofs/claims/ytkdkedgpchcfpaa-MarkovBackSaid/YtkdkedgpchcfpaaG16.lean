/- Layers 46 and 61: the mathematics: numbers as bits and chances, and that decoding undoes them. -/
import Derived.Test.YtkdkedgpchcfpaaG15
namespace Go.Proofs.Ytkdkedgpchcfpaa
set_option linter.unusedVariables false
set_option maxRecDepth 100000
open Range
def stepTo (o : Nat) (s : TS) : TS :=
  ⟨stepD s.d (s.ch.getD (o + s.r) 0), s.ch.set (o + s.r) (updB (s.ch.getD (o + s.r) 0).toNat (bitD s.d (s.ch.getD (o + s.r) 0)) : Nat), 2 * s.r + if bitD s.d (s.ch.getD (o + s.r) 0) then 1 else 0⟩
theorem stepT_zero (s : TS) : stepT s = stepTo 0 s := by simp [stepT, stepTo]
def stepsTo (o : Nat) (s : TS) : Nat → TS
  | 0 => s
  | j + 1 => stepTo o (stepsTo o s j)
theorem stepsT_zero (s : TS) (j : Nat) : stepsT s j = stepsTo 0 s j := by
  induction j with
  | zero => rfl
  | succ j ih => rw [stepsT, stepsTo, ih, stepT_zero]
/-- What was told so far: bits, their chances, the chances now, the row of bits. -/
structure ES where
  bl : List Bool
  pl : List Int
  ch : List Int
  r : Nat
def stepE (o : Nat) (bit : Bool) (s : ES) : ES :=
  ⟨s.bl ++ [bit], s.pl ++ [s.ch.getD (o + s.r) 0], s.ch.set (o + s.r) (updB (s.ch.getD (o + s.r) 0).toNat bit : Nat), 2 * s.r + if bit then 1 else 0⟩
def bitAt (x n j : Nat) : Bool := decide (x / 2 ^ (n - 1 - j) % 2 = 1)
def stepsE (o x n : Nat) (s : ES) : Nat → ES
  | 0 => s
  | j + 1 => stepE o (bitAt x n j) (stepsE o x n s j)
def FineE (s : ES) (N j : Nat) : Prop := s.ch.length = N ∧ (∀ z ∈ s.ch, 1 ≤ z ∧ z ≤ 2047) ∧ 2 ^ j ≤ s.r ∧ s.r < 2 ^ (j + 1) ∧ s.bl.length = s.pl.length ∧ s.pl.all okB = true
theorem okB_of {z : Int} (h : 1 ≤ z ∧ z ≤ 2047) : okB z = true := by unfold okB; simp; omega
theorem fineE_at {s : ES} {N n j o : Nat} (h : FineE s N j) (hj : j < n) (ho : o + 2 ^ n ≤ N) : o + s.r < s.ch.length ∧ ∃ Z : Nat, s.ch.getD (o + s.r) 0 = Z ∧ 1 ≤ Z ∧ Z ≤ 2047 := by
  obtain ⟨h2, h3, h4, h5, -⟩ := h
  have hp : 2 ^ (j + 1) ≤ 2 ^ n := Nat.pow_le_pow_right (by decide) hj
  have hr : o + s.r < s.ch.length := by omega
  have hz := h3 (s.ch.getD (o + s.r) 0) (by simp [List.getD_eq_getElem?_getD, hr])
  exact ⟨hr, (s.ch.getD (o + s.r) 0).toNat, by omega, by omega, by omega⟩
theorem fineE_step {s : ES} {N n j o : Nat} (h : FineE s N j) (hj : j < n) (ho : o + 2 ^ n ≤ N) (bit : Bool) : FineE (stepE o bit s) N (j + 1) := by
  obtain ⟨hr, Z, hZ, hz1, hz2⟩ := fineE_at h hj ho
  obtain ⟨h2, h3, h4, h5, h6, h7⟩ := h
  unfold stepE
  rw [hZ]
  refine ⟨by simpa using h2, ?_, ?_, ?_, by simpa using h6, ?_⟩
  · intro z hz
    rcases List.mem_or_eq_of_mem_set hz with hz | hz
    · exact h3 z hz
    · have := updB_ok (p := Z) ⟨hz1, hz2⟩ bit
      rw [hz, Int.toNat_natCast]; omega
  · simp only [Nat.pow_succ] at *; split <;> omega
  · simp only [Nat.pow_succ] at *; split <;> omega
  · rw [List.all_append, h7]; simp [okB_of (z := (Z : Int)) ⟨by omega, by omega⟩]
theorem fineE_steps {s : ES} {N n o : Nat} (h : FineE s N 0) (ho : o + 2 ^ n ≤ N) (x : Nat) : ∀ j, j ≤ n → FineE (stepsE o x n s j) N j
  | 0, _ => h
  | j + 1, hj => fineE_step (fineE_steps h ho x j (by omega)) hj ho _
theorem stepsE_row (o x n : Nat) (s : ES) (h1 : s.r = 1) (hx : x < 2 ^ n) : ∀ j, j ≤ n → (stepsE o x n s j).r = 2 ^ j + x / 2 ^ (n - j)
  | 0, _ => by show s.r = _; rw [h1, Nat.sub_zero, Nat.div_eq_of_lt hx]
  | j + 1, hj => by
    have ih := stepsE_row o x n s h1 hx j (by omega)
    show 2 * (stepsE o x n s j).r + (if bitAt x n j then 1 else 0) = _
    rw [ih]
    obtain ⟨e, he⟩ : ∃ e, n - j = e + 1 := ⟨n - j - 1, by omega⟩
    have e2 : n - (j + 1) = e := by omega
    have e3 : n - 1 - j = e := by omega
    unfold bitAt
    rw [he, e2, e3, Nat.pow_succ 2 e, ← Nat.div_div_eq_div_mul, Nat.pow_succ]
    generalize x / 2 ^ e = q
    by_cases h : q % 2 = 1
    · simp [h]; omega
    · simp [h]; omega
theorem stepsE_len (o x n : Nat) (s : ES) : ∀ j, (stepsE o x n s j).bl.length = s.bl.length + j
  | 0 => rfl
  | j + 1 => by show ((stepsE o x n s j).bl ++ [_]).length = _; rw [List.length_append, stepsE_len o x n s j]; simp; omega
def pr (s : ES) : List (Bool × Nat) := prs s.bl s.pl
theorem pr_step (o : Nat) (bit : Bool) (s : ES) (h : s.bl.length = s.pl.length) : pr (stepE o bit s) = pr s ++ [(bit, (s.ch.getD (o + s.r) 0).toNat)] := by
  unfold pr stepE prs
  have : nats (s.pl ++ [s.ch.getD (o + s.r) 0]) = nats s.pl ++ [(s.ch.getD (o + s.r) 0).toNat] := by simp [nats]
  rw [this, List.zip_append (by rw [nats_len]; exact h)]
  rfl
theorem pr_maps (s : ES) (h : s.bl.length = s.pl.length) : (pr s).map (·.2) = nats s.pl ∧ (pr s).map (·.1) = s.bl := by
  unfold pr prs
  exact ⟨List.map_snd_zip (by rw [nats_len]; omega), List.map_fst_zip (by rw [nats_len]; omega)⟩
theorem undo_append (d : Dec) (a b : List Nat) : undo d (a ++ b) = undo d a ++ undo (after d a) b := by
  induction a generalizing d with
  | nil => rfl
  | cons p a ih => simp [undo, after, ih]
/-- A decoder and an encoder that go side by side. -/
def Sync (D : Dec) (t : TS) (e : ES) : Prop := t.ch = e.ch ∧ t.r = e.r ∧ t.d = after D (nats e.pl)
theorem sync_step {D : Dec} {t : TS} {e : ES} {L : List (Bool × Nat)} {N n j o : Nat} {bit : Bool} (h : Sync D t e) (hf : FineE e N j) (hj : j < n) (ho : o + 2 ^ n ≤ N) (hL : undo D (L.map (·.2)) = L.map (·.1)) (hp : pr (stepE o bit e) <+: L) :
    Sync D (stepTo o t) (stepE o bit e) := by
  obtain ⟨hr, Z, hZ, hz1, hz2⟩ := fineE_at hf hj ho
  obtain ⟨s1, s2, s3⟩ := h
  have hlen := hf.2.2.2.2.1
  obtain ⟨rest, hrest⟩ := hp
  rw [pr_step o bit e hlen] at hrest
  have hm := pr_maps e hlen
  have hbit : bitD t.d (Z : Int) = bit := by
    rw [← hrest] at hL
    simp only [List.map_append, List.append_assoc, hm.1, hm.2] at hL
    rw [undo_append] at hL
    have hle : (undo D (nats e.pl)).length = e.bl.length := by rw [undo_len', nats_len, hlen]
    have h2 := (List.append_inj hL hle).2
    simp only [List.map_cons, List.map_nil, List.cons_append, List.nil_append, undo] at h2
    have h3 := (List.cons.inj h2).1
    unfold bitD
    rw [okB_of (z := (Z : Int)) ⟨by omega, by omega⟩, if_pos rfl, s3, ← h3, hZ]
  unfold stepTo stepE
  rw [s1, s2, hZ, hbit]
  refine ⟨rfl, rfl, ?_⟩
  show stepD t.d (Z : Int) = after D (nats (e.pl ++ [(Z : Int)]))
  have e1 : nats (e.pl ++ [(Z : Int)]) = nats e.pl ++ [Z] := by simp [nats]
  rw [e1, after_snoc, ← s3]
  unfold stepD
  rw [okB_of (z := (Z : Int)) ⟨by omega, by omega⟩, if_pos rfl, Int.toNat_natCast]
theorem pr_steps_pre (o x n : Nat) (s : ES) (N : Nat) (hf : FineE s N 0) (ho : o + 2 ^ n ≤ N) : ∀ j k, j + k ≤ n → pr (stepsE o x n s j) <+: pr (stepsE o x n s (j + k))
  | j, 0, _ => List.prefix_refl _
  | j, k + 1, h => by
    refine (pr_steps_pre o x n s N hf ho j k (by omega)).trans ?_
    show pr (stepsE o x n s (j + k)) <+: pr (stepE o (bitAt x n (j + k)) (stepsE o x n s (j + k)))
    rw [pr_step _ _ _ (fineE_steps hf ho x (j + k) (by omega)).2.2.2.2.1]
    exact List.prefix_append _ _
theorem sync_steps {D : Dec} {t : TS} {e : ES} {L : List (Bool × Nat)} {N n o : Nat} (x : Nat) (h : Sync D t e) (hf : FineE e N 0) (ho : o + 2 ^ n ≤ N) (hL : undo D (L.map (·.2)) = L.map (·.1)) (hp : pr (stepsE o x n e n) <+: L) :
    ∀ j, j ≤ n → Sync D (stepsTo o t j) (stepsE o x n e j)
  | 0, _ => h
  | j + 1, hj => by
    have hq := pr_steps_pre o x n e N hf ho (j + 1) (n - (j + 1)) (by omega)
    rw [show j + 1 + (n - (j + 1)) = n by omega] at hq
    exact sync_step (sync_steps x h hf ho hL hp j (by omega)) (fineE_steps hf ho x j (by omega)) hj ho hL (hq.trans hp)
/-- One number. -/
def numE (o n : Nat) (s : ES) (x : Nat) : ES := stepsE o x n ⟨s.bl, s.pl, s.ch, 1⟩ n
def numD (o n : Nat) (s : TS) : TS := stepsTo o ⟨s.d, s.ch, 1⟩ n
/-- What holds between numbers. -/
def Mid (s : ES) (N : Nat) : Prop := s.ch.length = N ∧ (∀ z ∈ s.ch, 1 ≤ z ∧ z ≤ 2047) ∧ s.bl.length = s.pl.length ∧ s.pl.all okB = true
theorem Mid.fine {s : ES} {N : Nat} (h : Mid s N) : FineE ⟨s.bl, s.pl, s.ch, 1⟩ N 0 := ⟨h.1, h.2.1, by show 2 ^ 0 ≤ 1; decide, by show 1 < 2 ^ 1; decide, h.2.2.1, h.2.2.2⟩
theorem Mid.next {s : ES} {N o n : Nat} (h : Mid s N) (ho : o + 2 ^ n ≤ N) (x : Nat) : Mid (numE o n s x) N := by
  obtain ⟨h1, h2, -, -, h3, h4⟩ := fineE_steps h.fine ho x n (Nat.le_refl _)
  exact ⟨h1, h2, h3, h4⟩
theorem numE_pre {s : ES} {N o n : Nat} (h : Mid s N) (ho : o + 2 ^ n ≤ N) (x : Nat) : pr s <+: pr (numE o n s x) := by
  have := pr_steps_pre o x n ⟨s.bl, s.pl, s.ch, 1⟩ N h.fine ho 0 n (by omega)
  rw [Nat.zero_add] at this
  exact this
theorem numE_len (o n : Nat) (s : ES) (x : Nat) : (numE o n s x).bl.length = s.bl.length + n := stepsE_len _ _ _ _ _
theorem sync_num {D : Dec} {t : TS} {e : ES} {L : List (Bool × Nat)} {N n o : Nat} (x : Nat) (hx : x < 2 ^ n) (h1 : t.ch = e.ch) (h2 : t.d = after D (nats e.pl)) (hf : Mid e N) (ho : o + 2 ^ n ≤ N) (hL : undo D (L.map (·.2)) = L.map (·.1)) (hp : pr (numE o n e x) <+: L) :
    Sync D (numD o n t) (numE o n e x) ∧ (numD o n t).r = 2 ^ n + x := by
  have := sync_steps (t := ⟨t.d, t.ch, 1⟩) x (⟨h1, rfl, h2⟩ : Sync D ⟨t.d, t.ch, 1⟩ ⟨e.bl, e.pl, e.ch, 1⟩) hf.fine ho hL hp n (Nat.le_refl _)
  refine ⟨this, ?_⟩
  have hr := stepsE_row o x n ⟨e.bl, e.pl, e.ch, 1⟩ rfl hx n (Nat.le_refl _)
  rw [Nat.sub_self, Nat.pow_zero, Nat.div_one] at hr
  exact this.2.1.trans hr
end Go.Proofs.Ytkdkedgpchcfpaa
