import Derived.Test.YtedmnlfbmmlcbaaG15
import Derived.Laws.EntriesVeiled
/- Layers 46 and 61: the mathematics: numbers as bits and chances, and that decoding undoes them. -/
namespace Go.Proofs.Ytedmnlfbmmlcbaa
set_option linter.unusedVariables false
set_option maxRecDepth 100000
open Range
def stepTo (o : Nat) (s : TS) : TS :=
  ⟨stepD s.d (s.ch.getD (o + s.r) 0), s.ch.set (o + s.r) (updB (s.ch.getD (o + s.r) 0).toNat (bitD s.d (s.ch.getD (o + s.r) 0)) : Nat), 2 * s.r + if bitD s.d (s.ch.getD (o + s.r) 0) then 1 else 0⟩
theorem stepT_zero (s : TS) : stepT s = stepTo 0 s := by simp [stepT, stepTo]
def stepsTo (o : Nat) (s : TS) : Nat → TS
  | 0 => s
  | j + 1 => stepTo o (stepsTo o s j)
theorem stepsT_zero (s : TS) (j : Nat) : stepsT s j = stepsTo 0 s j := by
  induction j with
  | zero => rfl
  | succ j ih => rw [stepsT, stepsTo, ih, stepT_zero]
/-- What was told so far: bits, their chances, the chances now, the row of bits. -/
structure ES where
  bl : List Bool
  pl : List Int
  ch : List Int
  r : Nat
def stepE (o : Nat) (bit : Bool) (s : ES) : ES :=
  ⟨s.bl ++ [bit], s.pl ++ [s.ch.getD (o + s.r) 0], s.ch.set (o + s.r) (updB (s.ch.getD (o + s.r) 0).toNat bit : Nat), 2 * s.r + if bit then 1 else 0⟩
def bitAt (x n j : Nat) : Bool := decide (x / 2 ^ (n - 1 - j) % 2 = 1)
def stepsE (o x n : Nat) (s : ES) : Nat → ES
  | 0 => s
  | j + 1 => stepE o (bitAt x n j) (stepsE o x n s j)
def FineE (s : ES) (N j : Nat) : Prop := s.ch.length = N ∧ (∀ z ∈ s.ch, 1 ≤ z ∧ z ≤ 2047) ∧ 2 ^ j ≤ s.r ∧ s.r < 2 ^ (j + 1) ∧ s.bl.length = s.pl.length ∧ s.pl.all okB = true
theorem okB_of {z : Int} (h : 1 ≤ z ∧ z ≤ 2047) : okB z = true := by unfold okB; simp; omega
theorem fineE_at {s : ES} {N n j o : Nat} (h : FineE s N j) (hj : j < n) (ho : o + 2 ^ n ≤ N) : o + s.r < s.ch.length ∧ ∃ Z : Nat, s.ch.getD (o + s.r) 0 = Z ∧ 1 ≤ Z ∧ Z ≤ 2047 := by
  obtain ⟨h2, h3, h4, h5, -⟩ := h
  have hp : 2 ^ (j + 1) ≤ 2 ^ n := Nat.pow_le_pow_right (by decide) hj
  have hr : o + s.r < s.ch.length := by omega
  have hz := h3 (s.ch.getD (o + s.r) 0) (by simp [List.getD_eq_getElem?_getD, hr])
  exact ⟨hr, (s.ch.getD (o + s.r) 0).toNat, by omega, by omega, by omega⟩
theorem fineE_step {s : ES} {N n j o : Nat} (h : FineE s N j) (hj : j < n) (ho : o + 2 ^ n ≤ N) (bit : Bool) : FineE (stepE o bit s) N (j + 1) := by
  obtain ⟨hr, Z, hZ, hz1, hz2⟩ := fineE_at h hj ho
  obtain ⟨h2, h3, h4, h5, h6, h7⟩ := h
  unfold stepE
  rw [hZ]
  refine ⟨by simpa using h2, ?_, ?_, ?_, by simpa using h6, ?_⟩
  · intro z hz
    rcases List.mem_or_eq_of_mem_set hz with hz | hz
    · exact h3 z hz
    · have := updB_ok (p := Z) ⟨hz1, hz2⟩ bit
      rw [hz, Int.toNat_natCast]; omega
  · simp only [Nat.pow_succ] at *; split <;> omega
  · simp only [Nat.pow_succ] at *; split <;> omega
  · rw [List.all_append, h7]; simp [okB_of (z := (Z : Int)) ⟨by omega, by omega⟩]
theorem fineE_steps {s : ES} {N n o : Nat} (h : FineE s N 0) (ho : o + 2 ^ n ≤ N) (x : Nat) : ∀ j, j ≤ n → FineE (stepsE o x n s j) N j
  | 0, _ => h
  | j + 1, hj => fineE_step (fineE_steps h ho x j (by omega)) hj ho _
theorem stepsE_row (o x n : Nat) (s : ES) (h1 : s.r = 1) (hx : x < 2 ^ n) : ∀ j, j ≤ n → (stepsE o x n s j).r = 2 ^ j + x / 2 ^ (n - j)
  | 0, _ => by show s.r = _; rw [h1, Nat.sub_zero, Nat.div_eq_of_lt hx]
  | j + 1, hj => by
    have ih := stepsE_row o x n s h1 hx j (by omega)
    show 2 * (stepsE o x n s j).r + (if bitAt x n j then 1 else 0) = _
    rw [ih]
    obtain ⟨e, he⟩ : ∃ e, n - j = e + 1 := ⟨n - j - 1, by omega⟩
    have e2 : n - (j + 1) = e := by omega
    have e3 : n - 1 - j = e := by omega
    unfold bitAt
    rw [he, e2, e3, Nat.pow_succ 2 e, ← Nat.div_div_eq_div_mul, Nat.pow_succ]
    generalize x / 2 ^ e = q
    by_cases h : q % 2 = 1
    · simp [h]; omega
    · simp [h]; omega
theorem stepsE_len (o x n : Nat) (s : ES) : ∀ j, (stepsE o x n s j).bl.length = s.bl.length + j
  | 0 => rfl
  | j + 1 => by show ((stepsE o x n s j).bl ++ [_]).length = _; rw [List.length_append, stepsE_len o x n s j]; simp; omega
def pr (s : ES) : List (Bool × Nat) := prs s.bl s.pl
theorem pr_step (o : Nat) (bit : Bool) (s : ES) (h : s.bl.length = s.pl.length) : pr (stepE o bit s) = pr s ++ [(bit, (s.ch.getD (o + s.r) 0).toNat)] := by
  unfold pr stepE prs
  have : nats (s.pl ++ [s.ch.getD (o + s.r) 0]) = nats s.pl ++ [(s.ch.getD (o + s.r) 0).toNat] := by simp [nats]
  rw [this, List.zip_append (by rw [nats_len]; exact h)]
  rfl
theorem pr_maps (s : ES) (h : s.bl.length = s.pl.length) : (pr s).map (·.2) = nats s.pl ∧ (pr s).map (·.1) = s.bl := by
  unfold pr prs
  exact ⟨List.map_snd_zip (by rw [nats_len]; omega), List.map_fst_zip (by rw [nats_len]; omega)⟩
theorem undo_append (d : Dec) (a b : List Nat) : undo d (a ++ b) = undo d a ++ undo (after d a) b := by
  induction a generalizing d with
  | nil => rfl
  | cons p a ih => simp [undo, after, ih]
/-- A decoder and an encoder that go side by side. -/
def Sync (D : Dec) (t : TS) (e : ES) : Prop := t.ch = e.ch ∧ t.r = e.r ∧ t.d = after D (nats e.pl)
theorem sync_step {D : Dec} {t : TS} {e : ES} {L : List (Bool × Nat)} {N n j o : Nat} {bit : Bool} (h : Sync D t e) (hf : FineE e N j) (hj : j < n) (ho : o + 2 ^ n ≤ N) (hL : undo D (L.map (·.2)) = L.map (·.1)) (hp : pr (stepE o bit e) <+: L) :
    Sync D (stepTo o t) (stepE o bit e) := by
  obtain ⟨hr, Z, hZ, hz1, hz2⟩ := fineE_at hf hj ho
  obtain ⟨s1, s2, s3⟩ := h
  have hlen := hf.2.2.2.2.1
  obtain ⟨rest, hrest⟩ := hp
  rw [pr_step o bit e hlen] at hrest
  have hm := pr_maps e hlen
  have hbit : bitD t.d (Z : Int) = bit := by
    rw [← hrest] at hL
    simp only [List.map_append, List.append_assoc, hm.1, hm.2] at hL
    rw [undo_append] at hL
    have hle : (undo D (nats e.pl)).length = e.bl.length := by rw [undo_len', nats_len, hlen]
    have h2 := (List.append_inj hL hle).2
    simp only [List.map_cons, List.map_nil, List.cons_append, List.nil_append, undo] at h2
    have h3 := (List.cons.inj h2).1
    unfold bitD
    rw [okB_of (z := (Z : Int)) ⟨by omega, by omega⟩, if_pos rfl, s3, ← h3, hZ]
  unfold stepTo stepE
  rw [s1, s2, hZ, hbit]
  refine ⟨rfl, rfl, ?_⟩
  show stepD t.d (Z : Int) = after D (nats (e.pl ++ [(Z : Int)]))
  have e1 : nats (e.pl ++ [(Z : Int)]) = nats e.pl ++ [Z] := by simp [nats]
  rw [e1, after_snoc, ← s3]
  unfold stepD
  rw [okB_of (z := (Z : Int)) ⟨by omega, by omega⟩, if_pos rfl, Int.toNat_natCast]
theorem pr_steps_pre (o x n : Nat) (s : ES) (N : Nat) (hf : FineE s N 0) (ho : o + 2 ^ n ≤ N) : ∀ j k, j + k ≤ n → pr (stepsE o x n s j) <+: pr (stepsE o x n s (j + k))
  | j, 0, _ => List.prefix_refl _
  | j, k + 1, h => by
    refine (pr_steps_pre o x n s N hf ho j k (by omega)).trans ?_
    show pr (stepsE o x n s (j + k)) <+: pr (stepE o (bitAt x n (j + k)) (stepsE o x n s (j + k)))
    rw [pr_step _ _ _ (fineE_steps hf ho x (j + k) (by omega)).2.2.2.2.1]
    exact List.prefix_append _ _
theorem sync_steps {D : Dec} {t : TS} {e : ES} {L : List (Bool × Nat)} {N n o : Nat} (x : Nat) (h : Sync D t e) (hf : FineE e N 0) (ho : o + 2 ^ n ≤ N) (hL : undo D (L.map (·.2)) = L.map (·.1)) (hp : pr (stepsE o x n e n) <+: L) :
    ∀ j, j ≤ n → Sync D (stepsTo o t j) (stepsE o x n e j)
  | 0, _ => h
  | j + 1, hj => by
    have hq := pr_steps_pre o x n e N hf ho (j + 1) (n - (j + 1)) (by omega)
    rw [show j + 1 + (n - (j + 1)) = n by omega] at hq
    exact sync_step (sync_steps x h hf ho hL hp j (by omega)) (fineE_steps hf ho x j (by omega)) hj ho hL (hq.trans hp)
/-- One number. -/
def numE (o n : Nat) (s : ES) (x : Nat) : ES := stepsE o x n ⟨s.bl, s.pl, s.ch, 1⟩ n
def numD (o n : Nat) (s : TS) : TS := stepsTo o ⟨s.d, s.ch, 1⟩ n
/-- What holds between numbers. -/
def Mid (s : ES) (N : Nat) : Prop := s.ch.length = N ∧ (∀ z ∈ s.ch, 1 ≤ z ∧ z ≤ 2047) ∧ s.bl.length = s.pl.length ∧ s.pl.all okB = true
theorem Mid.fine {s : ES} {N : Nat} (h : Mid s N) : FineE ⟨s.bl, s.pl, s.ch, 1⟩ N 0 := ⟨h.1, h.2.1, by show 2 ^ 0 ≤ 1; decide, by show 1 < 2 ^ 1; decide, h.2.2.1, h.2.2.2⟩
theorem Mid.next {s : ES} {N o n : Nat} (h : Mid s N) (ho : o + 2 ^ n ≤ N) (x : Nat) : Mid (numE o n s x) N := by
  obtain ⟨h1, h2, -, -, h3, h4⟩ := fineE_steps h.fine ho x n (Nat.le_refl _)
  exact ⟨h1, h2, h3, h4⟩
theorem numE_pre {s : ES} {N o n : Nat} (h : Mid s N) (ho : o + 2 ^ n ≤ N) (x : Nat) : pr s <+: pr (numE o n s x) := by
  have := pr_steps_pre o x n ⟨s.bl, s.pl, s.ch, 1⟩ N h.fine ho 0 n (by omega)
  rw [Nat.zero_add] at this
  exact this
theorem numE_len (o n : Nat) (s : ES) (x : Nat) : (numE o n s x).bl.length = s.bl.length + n := stepsE_len _ _ _ _ _
theorem sync_num {D : Dec} {t : TS} {e : ES} {L : List (Bool × Nat)} {N n o : Nat} (x : Nat) (hx : x < 2 ^ n) (h1 : t.ch = e.ch) (h2 : t.d = after D (nats e.pl)) (hf : Mid e N) (ho : o + 2 ^ n ≤ N) (hL : undo D (L.map (·.2)) = L.map (·.1)) (hp : pr (numE o n e x) <+: L) :
    Sync D (numD o n t) (numE o n e x) ∧ (numD o n t).r = 2 ^ n + x := by
  have := sync_steps (t := ⟨t.d, t.ch, 1⟩) x (⟨h1, rfl, h2⟩ : Sync D ⟨t.d, t.ch, 1⟩ ⟨e.bl, e.pl, e.ch, 1⟩) hf.fine ho hL hp n (Nat.le_refl _)
  refine ⟨this, ?_⟩
  have hr := stepsE_row o x n ⟨e.bl, e.pl, e.ch, 1⟩ rfl hx n (Nat.le_refl _)
  rw [Nat.sub_self, Nat.pow_zero, Nat.div_one] at hr
  exact this.2.1.trans hr
end Go.Proofs.Ytedmnlfbmmlcbaa

/- Layer 46: what numbers are as bytes, what bytes are as numbers, and that the one undoes the other. -/
namespace Go.Proofs.Ytedmnlfbmmlcbaa
set_option linter.unusedVariables false
set_option maxRecDepth 100000
open Range
def numsE (n : Nat) (s : ES) (xs : List Nat) : ES := xs.foldl (numE 0 n) s
theorem numsE_snoc (n : Nat) (s : ES) (xs : List Nat) (x : Nat) : numsE n s (xs ++ [x]) = numE 0 n (numsE n s xs) x := by simp [numsE]
theorem numsE_app (n : Nat) (s : ES) (xs ys : List Nat) : numsE n s (xs ++ ys) = numsE n (numsE n s xs) ys := by simp [numsE]
theorem numsE_mid {n N : Nat} {s : ES} (h : Mid s N) (ho : 2 ^ n ≤ N) (xs : List Nat) : Mid (numsE n s xs) N ∧ pr s <+: pr (numsE n s xs) := by
  induction xs generalizing s with
  | nil => exact ⟨h, List.prefix_refl _⟩
  | cons x xs ih =>
    have h2 := h.next (o := 0) (n := n) (by omega) x
    have := ih h2
    exact ⟨this.1, (numE_pre h (by omega) x).trans this.2⟩
theorem numsE_len (n : Nat) (s : ES) (xs : List Nat) : (numsE n s xs).bl.length = s.bl.length + n * xs.length := by
  induction xs generalizing s with
  | nil => rfl
  | cons x xs ih =>
    show (numsE n (numE 0 n s x) xs).bl.length = _
    rw [ih, numE_len, List.length_cons, Nat.mul_add]; omega
def e0 (N : Nat) : ES := ⟨[], [], List.replicate N 1024, 1⟩
theorem mid0 (N : Nat) : Mid (e0 N) N := ⟨by simp [e0], by intro z hz; have := (List.mem_replicate.1 hz).2; omega, rfl, rfl⟩
def stD (n : Nat) (s : TS) : Nat → TS
  | 0 => s
  | k + 1 => numD 0 n (stD n s k)
def outD (n : Nat) (s : TS) (k : Nat) : List Int := (List.range k).map fun i => ((stD n s (i + 1)).r : Int) - (2 ^ n : Nat)
theorem outD_succ (n : Nat) (s : TS) (k : Nat) : outD n s (k + 1) = outD n s k ++ [((stD n s (k + 1)).r : Int) - (2 ^ n : Nat)] := by
  unfold outD; rw [List.range_succ, List.map_append]; rfl
theorem outD_len (n : Nat) (s : TS) (k : Nat) : (outD n s k).length = k := by simp [outD]
def t0 (s : List UInt8) (N : Nat) : TS := ⟨fresh s, List.replicate N 1024, 1⟩
theorem dec_sync (n : Nat) (xs : List Nat) (hx : ∀ x ∈ xs, x < 2 ^ n) (S : List UInt8) (hL : undo (fresh S) ((pr (numsE n (e0 (2 ^ n)) xs)).map (·.2)) = (pr (numsE n (e0 (2 ^ n)) xs)).map (·.1)) :
    ∀ k, k ≤ xs.length → (stD n (t0 S (2 ^ n)) k).ch = (numsE n (e0 (2 ^ n)) (xs.take k)).ch ∧ (stD n (t0 S (2 ^ n)) k).d = after (fresh S) (nats (numsE n (e0 (2 ^ n)) (xs.take k)).pl) ∧
      outD n (t0 S (2 ^ n)) k = (xs.take k).map Int.ofNat
  | 0, _ => ⟨rfl, rfl, rfl⟩
  | k + 1, hk => by
    obtain ⟨h1, h2, h3⟩ := dec_sync n xs hx S hL k (by omega)
    have hm := (numsE_mid (n := n) (mid0 (2 ^ n)) (Nat.le_refl _) (xs.take k)).1
    have e1 : xs.take (k + 1) = xs.take k ++ [xs[k]'(by omega)] := List.take_succ_eq_append_getElem (by omega)
    have e2 : numsE n (e0 (2 ^ n)) (xs.take (k + 1)) = numE 0 n (numsE n (e0 (2 ^ n)) (xs.take k)) (xs[k]'(by omega)) := by rw [e1, numsE_snoc]
    have hp : pr (numE 0 n (numsE n (e0 (2 ^ n)) (xs.take k)) (xs[k]'(by omega))) <+: pr (numsE n (e0 (2 ^ n)) xs) := by
      rw [← e2]
      have : numsE n (e0 (2 ^ n)) xs = numsE n (numsE n (e0 (2 ^ n)) (xs.take (k + 1))) (xs.drop (k + 1)) := by rw [← numsE_app, List.take_append_drop]
      rw [this]
      exact (numsE_mid (numsE_mid (n := n) (mid0 (2 ^ n)) (Nat.le_refl _) _).1 (Nat.le_refl _) _).2
    have hs := sync_num (D := fresh S) (t := stD n (t0 S (2 ^ n)) k) (xs[k]'(by omega)) (hx _ (List.getElem_mem _)) h1 h2 hm (o := 0) (by omega) hL hp
    have e3 : stD n (t0 S (2 ^ n)) (k + 1) = numD 0 n (stD n (t0 S (2 ^ n)) k) := rfl
    refine ⟨by rw [e3, e2]; exact hs.1.1, by rw [e3, e2]; exact hs.1.2.2, ?_⟩
    rw [outD_succ, h3, e3, hs.2, e1, List.map_append]
    congr 1
    simp only [List.map_cons, List.map_nil, List.cons.injEq, and_true, Int.ofNat_eq_natCast]
    generalize 2 ^ n = q
    omega
def inB (n : Nat) (l : List Int) : Bool := l.all (fun x => decide (0 ≤ x) && decide (x < ((2 ^ n : Nat) : Int)))
def encB (l : List Int) (n : Int) : List UInt8 × Int :=
  if n < 1 ∨ 9 < n then ([], 1) else if inB n.toNat l = false then ([], 2) else (told (pr (numsE n.toNat (e0 (2 ^ n.toNat)) (nats l))), 0)
def decB (s : List UInt8) (many n : Int) : List Int × Int :=
  if n < 1 ∨ 9 < n ∨ many < 0 ∨ 1048576 < many then ([], 1) else (outD n.toNat (t0 s (2 ^ n.toNat)) many.toNat, 0)
theorem inB_at {n : Nat} {l : List Int} (h : inB n l = true) : ∀ z ∈ l, 0 ≤ z ∧ z < ((2 ^ n : Nat) : Int) := by
  intro z hz
  have := List.all_eq_true.1 h z hz
  simpa using this
theorem back46 (l : List Int) (n : Nat) (hn : 1 ≤ n) (hn9 : n ≤ 9) (h : inB n l = true) (hl : l.length ≤ 1048576) (r : List UInt8) : ∃ S, encB l n = (S, 0) ∧ decB (S ++ r) l.length n = (l, 0) ∧ S.length ≤ 4 * (9 * l.length) + 4 := by
  have hb := inB_at h
  refine ⟨told (pr (numsE n (e0 (2 ^ n)) (nats l))), ?_, ?_, ?_⟩
  · unfold encB; rw [if_neg (by omega), Int.toNat_natCast, h, if_neg (by decide)]
  · unfold decB
    rw [if_neg (by omega), Int.toNat_natCast, Int.toNat_natCast]
    have hm := (numsE_mid (n := n) (mid0 (2 ^ n)) (Nat.le_refl _) (nats l)).1
    have hlt : ∀ x ∈ pr (numsE n (e0 (2 ^ n)) (nats l)), x.2 < 2048 := prs_lt _ _ hm.2.2.2
    have hbk := back (pr (numsE n (e0 (2 ^ n)) (nats l))) r hlt
    have := (dec_sync n (nats l) (by
      intro x hx
      obtain ⟨z, hz, rfl⟩ := List.mem_map.1 hx
      have := hb z hz; omega) _ hbk l.length (by rw [nats_len]; exact Nat.le_refl _)).2.2
    rw [this, List.take_of_length_le (by rw [nats_len]; exact Nat.le_refl _)]
    congr 1
    unfold nats
    rw [List.map_map]
    refine (List.map_congr_left (g := id) ?_).trans (List.map_id _)
    intro z hz
    have := (hb z hz).1
    simp; omega
  · have hlen := numsE_len n (e0 (2 ^ n)) (nats l)
    have e : (e0 (2 ^ n)).bl.length = 0 := rfl
    rw [e, nats_len] at hlen
    unfold told
    split
    · simp
    · have := run_len 0 top (pr (numsE n (e0 (2 ^ n)) (nats l)))
      have hp : (pr (numsE n (e0 (2 ^ n)) (nats l))).length ≤ (numsE n (e0 (2 ^ n)) (nats l)).bl.length := by unfold pr prs; rw [List.length_zip]; omega
      have h9 : n * l.length ≤ 9 * l.length := Nat.mul_le_mul_right _ hn9
      rw [List.length_append]
      have : (four (run 0 top (pr (numsE n (e0 (2 ^ n)) (nats l)))).2.1).length = 4 := rfl
      omega
end Go.Proofs.Ytedmnlfbmmlcbaa

/- Layer 46: numbers out of bytes. -/
namespace Go.Proofs.Ytedmnlfbmmlcbaa
open Go.ChangeShapes Go.WideShapes Go.ChangeAt Go.RowKit
set_option linter.unusedVariables false
set_option maxRecDepth 100000
open Range
def MidT (s : TS) (n : Nat) : Prop := Fine s.d ∧ s.ch.length = 2 ^ n ∧ (∀ z ∈ s.ch, 1 ≤ z ∧ z ≤ 2047)
theorem MidT.fine {s : TS} {n : Nat} (h : MidT s n) : FineT ⟨s.d, s.ch, 1⟩ n 0 := ⟨h.1, h.2.1, h.2.2, by show 2 ^ 0 ≤ 1; decide, by show 1 < 2 ^ 1; decide⟩
theorem numD_eq (n : Nat) (s : TS) : numD 0 n s = stepsT ⟨s.d, s.ch, 1⟩ n := by unfold numD; rw [stepsT_zero]
theorem MidT.next {s : TS} {n : Nat} (h : MidT s n) : MidT (numD 0 n s) n := by
  rw [numD_eq]
  obtain ⟨h1, h2, h3, -⟩ := fineT_steps h.fine n (Nat.le_refl _)
  exact ⟨h1, h2, h3⟩
theorem midT0 (s : List UInt8) (n : Nat) : MidT (t0 s (2 ^ n)) n := ⟨fine_fresh s, by simp [t0], by intro z hz; have := (List.mem_replicate.1 hz).2; omega⟩
theorem midT_st {s : TS} {n : Nat} (h : MidT s n) : ∀ k, MidT (stD n s k) n
  | 0 => h
  | k + 1 => (midT_st h k).next
theorem TDec.below {w w' : World} {B gt gb gd bx n M : Nat} {s : TS} (h : TDec w B gt gb gd bx n s) (hb : Below M w w') (hM : B ≤ M) (h1 : gt < M) (h2 : gb < M) : TDec w' B gt gb gd bx n s := by
  obtain ⟨⟨t1, t2, t3⟩, t4, t5, t6, t7, t8, t9⟩ := h
  refine ⟨⟨(hb.block _ h1).trans t1, ⟨t2.1, ?_⟩, t3⟩, t4.kept hb (by omega), (hb.block _ (by omega)).trans t5, t6, t7, t8, t9⟩
  rcases t2.2 with hn | ⟨g, cap, cur, e, hbb, hgg, rest⟩
  · exact .inl hn
  · have : gb = g := by injection e with e _ _; injection e with e; injection e
    exact .inr ⟨g, cap, cur, e, hbb, (hb.block g (by omega)).trans hgg, rest⟩
set_option maxHeartbeats 3200000 in
theorem tDecode (s : ByteArray) (hs : s.size ≤ 1000000) (many n : Nat) (hn1 : 1 ≤ n) (hn : n ≤ 9) (hm : many ≤ 1048576) (w : World) :
    Calls Try.prog 41 #[.string s, .int .i64 many, .int .i64 n] w fun e w' => ∃ v, e = .returned (.tuple #[v, .int .i64 0]) ∧ OwnI w.heap.size w' v (outD n (t0 s.data.toList (2 ^ n)) many) ∧ Below w.heap.size w w' := by
  have C1 := Lib.hid (fun W => gNew s (by omega) W)
  have C2 := Lib.hid (fun W => tNew n hn W)
  have hmf : ∀ (fn : Fn) (first cap : Array Value) (w : World), (Instr.makeFunc fn first cap).run Try.prog w = .ok (.func fn first cap) w := fun _ _ _ _ => rfl
  have HM := Lib.hid (midT_st (midT0 s.data.toList n))
  have HT0 := Lib.hid (show t0 s.data.toList (2 ^ n) = ⟨fresh s.data.toList, List.replicate (2 ^ n) 1024, 1⟩ from rfl)
  obtain ⟨T0, hT0⟩ : ∃ T0, t0 s.data.toList (2 ^ n) = T0 := ⟨_, rfl⟩
  rw [hT0] at HM HT0 ⊢
  clear hT0
  go_enter Try.func41, Try.ntmps41
  go_wp2_with fail
  refine (C1.out _).mono ?_; rintro e w1 ⟨gd, rfl, hd1, hb1, hg1, hg2⟩
  have HD1 := Lib.hid hd1; have HB1 := Lib.hid hb1
  clear hd1 hb1 C1
  go_wp2_with fail
  refine (C2.out _).mono ?_; rintro e w2 ⟨gt, rfl, ht2, hb2, hg3, hg4⟩
  obtain ⟨gb, t1, t2, t3⟩ := ht2
  have hbs1 := HB1.out.size
  have hbx := (hb2.block w1.heap.size (by simp)).trans (heap_alloc_new w1 (.cells #[.pointer (some ⟨gd, 0, none⟩)] 92))
  have hB12 := HB1.out.trans ((Below.refl w.heap.size w1).alloc hbs1 (.cells #[.pointer (some ⟨gd, 0, none⟩)] 92) |>.trans (hb2.mono (by simp; omega)))
  have hd2 := (HD1.out.kept (w' := w1.alloc (.cells #[.pointer (some ⟨gd, 0, none⟩)] 92)) (B := w1.heap.size) ((Below.refl _ _).alloc (Nat.le_refl _) _) hg2).kept hb2 (by simp; omega)
  have hs1 : (w1.alloc (.cells #[.pointer (some ⟨gd, 0, none⟩)] 92)).heap.size = w1.heap.size + 1 := by simp
  rw [hs1] at hg3 t2 hb2
  have f2 := free_in t1 2
  have c2 := cell_lit t1 2 _ rfl
  have hgb := (World.ownsRow.lt t2 gb rfl)
  obtain ⟨X, hX⟩ : ∃ X, w2.setCell ⟨gt, 2, none⟩ (askV w1.heap.size) = X := ⟨_, rfl⟩
  have hXs : X.heap.size = w2.heap.size := by rw [← hX]; simp
  have hkX : Below (w1.heap.size + 1) w2 X := by rw [← hX]; exact (Below.refl _ _).setCell (p := ⟨gt, 2, none⟩) (by show w1.heap.size + 1 ≤ gt; omega) _
  have hTX : TDec X (w1.heap.size + 1) gt gb gd w1.heap.size n T0 := by
    have hkX2 : Keeps (fun j => j = gt) w2 X := by rw [← hX]; exact (Keeps.refl (fun j => j = gt) w2).setCell (p := ⟨gt, 2, none⟩) (.inr rfl) _
    rw [HT0.out]
    refine ⟨⟨?_, ?_, t3⟩, (hd2.kept hkX (by omega)), (hkX.block _ (by omega)).trans hbx, by omega, by omega, by omega, by omega⟩
    · rw [← hX]; exact block_set t1 2 _
    · exact hkX2.ownsRow t2 (fun j hj e => by
        have : gb = j := by simpa [Value.ownBlock] using hj
        have e' : j = gt := e
        exact t3 (by omega))
  have hB12' := hB12.trans (hkX.mono (by omega))
  clear t1 t2 hd2 hbx hB12 HB1 HD1
  have HXS := Lib.hid hXs
  clear hXs
  go_wp2_with (refine make_int rfl _ _ rfl .i64 .i64 _ _ many rfl rfl rfl rfl (by omega) ?_; intro w3 hown3 hb3 hz3)
  obtain ⟨go, hgo⟩ : ∃ go, X.heap.size = go := ⟨_, rfl⟩
  rw [hgo] at hown3 hz3 hb3 ⊢
  have hXs := HXS.out
  have hT3 := hTX.below hb3 (by omega) (by omega) (by omega)
  have hb13 := hB12'.trans (hb3.mono (by have := hB12'.size; omega))
  have HO := Lib.hid hown3
  have HT := Lib.hid hT3
  have HB := Lib.hid hb13
  have hwgo : w.heap.size ≤ go := by have := hB12'.size; omega
  have hgtgo : gt < go := by omega
  have hgbgo : gb < go := by omega
  have hgdgo : gd < go := by omega
  obtain ⟨B, hB⟩ : ∃ B, w1.heap.size + 1 = B := ⟨_, rfl⟩
  obtain ⟨bx, hbxx⟩ : ∃ bx, w1.heap.size = bx := ⟨_, rfl⟩
  rw [hB] at HT
  rw [hbxx] at HT ⊢
  have hwB : w.heap.size ≤ B := by omega
  have hBgo : B ≤ go := by omega
  have hgwd : w.heap.size ≤ gd := by omega
  have hgwb : w.heap.size ≤ gb := by omega
  clear hown3 hT3 hb13 hTX hB12' hb3 hkX hX hXs hgo hb2 hB hbxx hg1 hg2 hg3 hg4 hgb f2 c2 hs1 hz3 t3 hmf hbs1
  go_wp2_with fail
  go_loopw [38] (fun i wr => ∃ k : Nat, k ≤ many ∧ i = .int .i64 k ∧ TDec wr B gt gb gd bx n (stD n T0 k) ∧ OwnI go wr (.slice (some ⟨go, 0, none⟩) many many) (outD n T0 k ++ List.replicate (many - k) 0) ∧ Below w.heap.size w wr) (fun i _ => many - (intOf i).toNat)
  case atStart => exact ⟨0, Nat.zero_le _, rfl, HT.out, HO.out, HB.out⟩
  case round =>
    obtain ⟨k, hk, rfl, ht, hown, hb⟩ := hrel
    by_cases hlt : k < many
    · have HS := Lib.hid (outD_succ n T0 k)
      have HE := Lib.hid (show stD n T0 (k + 1) = stepsT ⟨(stD n T0 k).d, (stD n T0 k).ch, 1⟩ n from numD_eq n _)
      have hfi := (HM.out k).fine
      have hol : (outD n T0 k).length = k := outD_len n T0 k
      have CN := Lib.hid (fun W (h : TDec W B gt gb gd bx n ⟨(stD n T0 k).d, (stD n T0 k).ch, 1⟩) => tNumD W B gt gb gd bx n ⟨(stD n T0 k).d, (stD n T0 k).ch, 1⟩ hn h hfi rfl)
      rw [← HE.out] at CN
      obtain ⟨OL, hOL⟩ : ∃ OL, outD n T0 k = OL := ⟨_, rfl⟩
      obtain ⟨TN, hTN⟩ : ∃ TN, stD n T0 (k + 1) = TN := ⟨_, rfl⟩
      rw [hOL] at hown HS hol
      rw [hTN] at HS CN
      have HTN := Lib.hid hTN
      have HT1 := Lib.hid (ht.row 1)
      have HO1 := Lib.hid hown
      have HB1 := Lib.hid hb
      have HOL := Lib.hid hol
      clear ht hown hb hfi hOL hTN HE hol
      go_wp2_with fail
      refine (CN.out _ HT1.out).mono ?_; rintro e w4 ⟨rfl, ht4, hk4⟩
      obtain ⟨R, hR⟩ : ∃ R, ((TN.r : Int) - (2 ^ n : Nat)) = R := ⟨_, rfl⟩
      have hown4 : OwnI go w4 (.slice (some ⟨go, 0, none⟩) many many) (OL ++ List.replicate (many - k) 0) := hk4.ownsRow HO1.out (fun j hj e => by
        have : go = j := by simpa [Value.ownBlock] using hj
        have e' : j = gd ∨ j = gb := e
        omega)
      have hll : (OL ++ List.replicate (many - k) (0 : Int)).length = many := by rw [List.length_append, HOL.out]; simp; omega
      have cx := OwnS.int_cell hown4 k (by rw [hll]; exact hlt)
      have fx := hown4.free k
      have hown5 := OwnS.set_int hown4 k R (by rw [hll]; exact hlt)
      have e1 : (OL ++ List.replicate (many - k) 0).set k R = OL ++ [R] ++ List.replicate (many - (k + 1)) 0 := by
        rw [List.set_append_right _ _ (by rw [HOL.out]; omega), HOL.out, Nat.sub_self]
        obtain ⟨m, hm⟩ : ∃ m, many - k = m + 1 := ⟨many - k - 1, by omega⟩
        rw [hm, show many - (k + 1) = m by omega, List.replicate_succ]
        simp
      rw [e1, ← hR, ← HS.out] at hown5
      have ht5 := ht4.below ((Below.refl go w4).setCell (p := ⟨go, k, none⟩) (Nat.le_refl _) (.int .i64 R)) (by omega) hgtgo hgbgo
      have hbs := HB1.out.size
      have hbs1 : w.heap.size ≤ wr.heap.size := HB1.out.size
      have hb5 := (HB1.out.trans (hk4.below (B := w.heap.size) (fun j hj => ⟨Nat.lt_of_lt_of_le hj hbs1, fun e => by have e' : j = gd ∨ j = gb := e; omega⟩))).setCell (p := ⟨go, k, none⟩) hwgo (.int .i64 R)
      rw [hR] at hown5 ⊢
      have HT5 := Lib.hid ht5; have HO5 := Lib.hid hown5; have HB5 := Lib.hid hb5
      clear ht4 hk4 hown4 e1 hll hR ht5 hown5 hb5 hbs
      go_wp2_with fail
      go_roundw
      case rel => exact ⟨k + 1, by omega, by go_num, by rw [HTN.out]; exact HT5.out, HO5.out, HB5.out⟩
      case measure => simp [intOf]; omega
    · obtain rfl : k = many := by omega
      rw [Nat.sub_self, List.replicate_zero, List.append_nil] at hown
      have HO1 := Lib.hid hown
      have HB1 := Lib.hid hb
      clear ht hown hb
      go_wp2_with fail
      go_ret2
      exact ⟨_, rfl, HO1.out.base hwgo, HB1.out⟩
end Go.Proofs.Ytedmnlfbmmlcbaa
