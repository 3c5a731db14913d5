/- Layer 61: what a text is as bytes, what bytes are as a text, and that the one undoes the other. -/
import Derived.Test.YtkdkedgpchcfpaaG17
namespace Go.Proofs.Ytkdkedgpchcfpaa
set_option linter.unusedVariables false
set_option maxRecDepth 100000
open Range
def FineO (s : TS) (N j : Nat) : Prop := Fine s.d ∧ s.ch.length = N ∧ (∀ z ∈ s.ch, 1 ≤ z ∧ z ≤ 2047) ∧ 2 ^ j ≤ s.r ∧ s.r < 2 ^ (j + 1)
theorem fineO_at {s : TS} {N n j o : Nat} (h : FineO s N j) (hj : j < n) (ho : o + 2 ^ n ≤ N) : o + s.r < s.ch.length ∧ ∃ Z : Nat, s.ch.getD (o + s.r) 0 = Z ∧ 1 ≤ Z ∧ Z ≤ 2047 := by
  obtain ⟨h1, h2, h3, h4, h5⟩ := h
  have hp : 2 ^ (j + 1) ≤ 2 ^ n := Nat.pow_le_pow_right (by decide) hj
  have hr : o + s.r < s.ch.length := by omega
  have hz := h3 (s.ch.getD (o + s.r) 0) (by simp [List.getD_eq_getElem?_getD, hr])
  exact ⟨hr, (s.ch.getD (o + s.r) 0).toNat, by omega, by omega, by omega⟩
theorem fineO_step {s : TS} {N n j o : Nat} (h : FineO s N j) (hj : j < n) (ho : o + 2 ^ n ≤ N) : FineO (stepTo o s) N (j + 1) := by
  obtain ⟨hr, Z, hZ, hz1, hz2⟩ := fineO_at h hj ho
  obtain ⟨h1, h2, h3, h4, h5⟩ := h
  unfold stepTo
  rw [hZ]
  refine ⟨stepD_fine h1 _, by simpa using h2, ?_, ?_, ?_⟩
  · intro z hz
    rcases List.mem_or_eq_of_mem_set hz with hz | hz
    · exact h3 z hz
    · have := updB_ok (p := Z) ⟨hz1, hz2⟩ (bitD s.d (Z : Int))
      rw [hz, Int.toNat_natCast]; omega
  · simp only [Nat.pow_succ] at *; split <;> omega
  · simp only [Nat.pow_succ] at *; split <;> omega
theorem fineO_steps {s : TS} {N n o : Nat} (h : FineO s N 0) (ho : o + 2 ^ n ≤ N) : ∀ j, j ≤ n → FineO (stepsTo o s j) N j
  | 0, _ => h
  | j + 1, hj => fineO_step (fineO_steps h ho j (by omega)) (by omega) ho
/-- Between bytes, with the byte ahead. -/
def mD (p : TS × Nat) : TS × Nat := (numD (256 * p.2) 8 p.1, (numD (256 * p.2) 8 p.1).r - 256)
def mDs (p : TS × Nat) : Nat → TS × Nat
  | 0 => p
  | k + 1 => mD (mDs p k)
def mE (p : ES × Nat) (x : Nat) : ES × Nat := (numE (256 * p.2) 8 p.1 x, x)
def mEs (p : ES × Nat) (xs : List Nat) : ES × Nat := xs.foldl mE p
theorem mEs_snoc (p : ES × Nat) (xs : List Nat) (x : Nat) : mEs p (xs ++ [x]) = mE (mEs p xs) x := by simp [mEs]
theorem mEs_app (p : ES × Nat) (xs ys : List Nat) : mEs p (xs ++ ys) = mEs (mEs p xs) ys := by simp [mEs]
def MidD (p : TS × Nat) (N : Nat) : Prop := Fine p.1.d ∧ p.1.ch.length = N ∧ (∀ z ∈ p.1.ch, 1 ≤ z ∧ z ≤ 2047) ∧ p.2 < 256
theorem MidD.fine {p : TS × Nat} {N : Nat} (h : MidD p N) : FineO ⟨p.1.d, p.1.ch, 1⟩ N 0 := ⟨h.1, h.2.1, h.2.2.1, by show 2 ^ 0 ≤ 1; decide, by show 1 < 2 ^ 1; decide⟩
theorem MidD.next {p : TS × Nat} {N : Nat} (hN : N = 65536) (h : MidD p N) : MidD (mD p) N := by
  obtain ⟨h1, h2, h3, h4, h5⟩ := fineO_steps (o := 256 * p.2) (n := 8) h.fine (by have := h.2.2.2; omega) 8 (Nat.le_refl _)
  refine ⟨h1, h2, h3, ?_⟩
  show (numD (256 * p.2) 8 p.1).r - 256 < 256
  unfold numD
  omega
theorem midD_s {p : TS × Nat} {N : Nat} (hN : N = 65536) (h : MidD p N) : ∀ k, MidD (mDs p k) N
  | 0 => h
  | k + 1 => (midD_s hN h k).next hN
def t0M (s : List UInt8) (N : Nat) : TS × Nat := (⟨fresh s, List.replicate N 1024, 1⟩, 0)
theorem midD0 (s : List UInt8) (N : Nat) : MidD (t0M s N) N := ⟨fine_fresh s, by simp [t0M], by intro z hz; have := (List.mem_replicate.1 hz).2; omega, by show 0 < 256; decide⟩
def outM (p : TS × Nat) (k : Nat) : List UInt8 := (List.range k).map fun i => UInt8.ofNat (mDs p (i + 1)).2
theorem outM_succ (p : TS × Nat) (k : Nat) : outM p (k + 1) = outM p k ++ [UInt8.ofNat (mDs p (k + 1)).2] := by
  unfold outM; rw [List.range_succ, List.map_append]; rfl
theorem outM_len (p : TS × Nat) (k : Nat) : (outM p k).length = k := by simp [outM]
def MidM (p : ES × Nat) (N : Nat) : Prop := Mid p.1 N ∧ p.2 < 256
theorem MidM.next {p : ES × Nat} {N : Nat} (hN : N = 65536) (h : MidM p N) {x : Nat} (hx : x < 256) : MidM (mE p x) N := ⟨h.1.next (by have := h.2; omega) x, hx⟩
def e0M (N : Nat) : ES × Nat := (e0 N, 0)
theorem mid0M (N : Nat) : MidM (e0M N) N := ⟨mid0 N, by show 0 < 256; decide⟩
theorem midM_s {N : Nat} (hN : N = 65536) (xs : List Nat) : ∀ {p : ES × Nat}, MidM p N → (∀ x ∈ xs, x < 256) → MidM (mEs p xs) N ∧ pr p.1 <+: pr (mEs p xs).1 ∧ (mEs p xs).1.bl.length = p.1.bl.length + 8 * xs.length := by
  induction xs with
  | nil => intro p h _; exact ⟨h, List.prefix_refl _, rfl⟩
  | cons x xs ih =>
    intro p h hx
    have h2 := h.next hN (hx x (by simp))
    obtain ⟨i1, i2, i3⟩ := ih h2 (fun y hy => hx y (by simp [hy]))
    refine ⟨i1, (numE_pre h.1 (by have := h.2; omega) x).trans i2, ?_⟩
    show (mEs (mE p x) xs).1.bl.length = _
    rw [i3]
    show (numE (256 * p.2) 8 p.1 x).bl.length + _ = _
    rw [numE_len, List.length_cons]; omega
theorem decM_sync {N : Nat} (hN : N = 65536) (xs : List Nat) (hx : ∀ x ∈ xs, x < 256) (S : List UInt8) (hL : undo (fresh S) ((pr (mEs (e0M N) xs).1).map (·.2)) = (pr (mEs (e0M N) xs).1).map (·.1)) :
    ∀ k, k ≤ xs.length → (mDs (t0M S N) k).1.ch = (mEs (e0M N) (xs.take k)).1.ch ∧ (mDs (t0M S N) k).1.d = after (fresh S) (nats (mEs (e0M N) (xs.take k)).1.pl) ∧ (mDs (t0M S N) k).2 = (mEs (e0M N) (xs.take k)).2 ∧
      outM (t0M S N) k = (xs.take k).map UInt8.ofNat
  | 0, _ => ⟨rfl, rfl, rfl, rfl⟩
  | k + 1, hk => by
    obtain ⟨h1, h2, h3, h4⟩ := decM_sync hN xs hx S hL k (by omega)
    have hm := (midM_s hN (xs.take k) (mid0M N) (fun x h => hx x (List.mem_of_mem_take h))).1
    have hxk := hx _ (List.getElem_mem (show k < xs.length by omega))
    have e1 : xs.take (k + 1) = xs.take k ++ [xs[k]'(by omega)] := List.take_succ_eq_append_getElem (by omega)
    have e2 : mEs (e0M N) (xs.take (k + 1)) = mE (mEs (e0M N) (xs.take k)) (xs[k]'(by omega)) := by rw [e1, mEs_snoc]
    have hm2 := hm.next hN hxk
    have hp : pr (mE (mEs (e0M N) (xs.take k)) (xs[k]'(by omega))).1 <+: pr (mEs (e0M N) xs).1 := by
      rw [← e2]
      have : mEs (e0M N) xs = mEs (mEs (e0M N) (xs.take (k + 1))) (xs.drop (k + 1)) := by rw [← mEs_app, List.take_append_drop]
      rw [this]
      exact (midM_s hN _ (by rw [e2]; exact hm2) (fun x h => hx x (List.mem_of_mem_drop h))).2.1
    have hs := sync_num (D := fresh S) (t := (mDs (t0M S N) k).1) (xs[k]'(by omega)) (n := 8) hxk h1 h2 hm.1 (o := 256 * (mEs (e0M N) (xs.take k)).2) (by have := hm.2; omega) hL hp
    have e3 : mDs (t0M S N) (k + 1) = (numD (256 * (mEs (e0M N) (xs.take k)).2) 8 (mDs (t0M S N) k).1, (numD (256 * (mEs (e0M N) (xs.take k)).2) 8 (mDs (t0M S N) k).1).r - 256) := by
      show mD (mDs (t0M S N) k) = _
      unfold mD
      rw [h3]
    have e4 : (mDs (t0M S N) (k + 1)).2 = xs[k]'(by omega) := by rw [e3]; show (numD _ 8 _).r - 256 = _; rw [hs.2]; simp
    refine ⟨by rw [e3, e2]; exact hs.1.1, by rw [e3, e2]; exact hs.1.2.2, by rw [e4, e2]; rfl, ?_⟩
    rw [outM_succ, h4, e1, List.map_append, e4]
    rfl
def bys (s : List UInt8) : List Nat := s.map (·.toNat)
theorem bys_lt (s : List UInt8) : ∀ x ∈ bys s, x < 256 := by
  intro x hx
  obtain ⟨b, -, rfl⟩ := List.mem_map.1 hx
  exact b.toNat_lt
theorem bys_len (s : List UInt8) : (bys s).length = s.length := by simp [bys]
def encM (N : Nat) (s : List UInt8) : List UInt8 := told (pr (mEs (e0M N) (bys s)).1)
def decM (N : Nat) (s : List UInt8) (many : Nat) : List UInt8 := outM (t0M s N) many
theorem back61 {N : Nat} (hN : N = 65536) (s r : List UInt8) : decM N (encM N s ++ r) s.length = s ∧ (encM N s).length ≤ 32 * s.length + 4 := by
  obtain ⟨hm, -, hl⟩ := midM_s hN (bys s) (mid0M N) (bys_lt s)
  constructor
  · have hlt : ∀ x ∈ pr (mEs (e0M N) (bys s)).1, x.2 < 2048 := prs_lt _ _ hm.1.2.2.2
    have hbk := back (pr (mEs (e0M N) (bys s)).1) r hlt
    have := (decM_sync hN (bys s) (bys_lt s) _ hbk s.length (by rw [bys_len]; exact Nat.le_refl _)).2.2.2
    show outM (t0M (encM N s ++ r) N) s.length = s
    unfold encM
    rw [this, List.take_of_length_le (by rw [bys_len]; exact Nat.le_refl _)]
    unfold bys
    rw [List.map_map]
    refine (List.map_congr_left (g := id) ?_).trans (List.map_id _)
    intro z _
    simp
  · have e : (e0M N).1.bl.length = 0 := rfl
    rw [e, bys_len] at hl
    unfold encM told
    split
    · simp
    · have := run_len 0 top (pr (mEs (e0M N) (bys s)).1)
      have hp : (pr (mEs (e0M N) (bys s)).1).length ≤ (mEs (e0M N) (bys s)).1.bl.length := by unfold pr prs; rw [List.length_zip]; omega
      rw [List.length_append]
      have : (four (run 0 top (pr (mEs (e0M N) (bys s)).1)).2.1).length = 4 := rfl
      omega
end Go.Proofs.Ytkdkedgpchcfpaa
