/- Layer 46: what numbers are as bytes, what bytes are as numbers, and that the one undoes the other. -/
import Derived.Test.YtkdkedgpchcfpaaG16
namespace Go.Proofs.Ytkdkedgpchcfpaa
set_option linter.unusedVariables false
set_option maxRecDepth 100000
open Range
def numsE (n : Nat) (s : ES) (xs : List Nat) : ES := xs.foldl (numE 0 n) s
theorem numsE_snoc (n : Nat) (s : ES) (xs : List Nat) (x : Nat) : numsE n s (xs ++ [x]) = numE 0 n (numsE n s xs) x := by simp [numsE]
theorem numsE_app (n : Nat) (s : ES) (xs ys : List Nat) : numsE n s (xs ++ ys) = numsE n (numsE n s xs) ys := by simp [numsE]
theorem numsE_mid {n N : Nat} {s : ES} (h : Mid s N) (ho : 2 ^ n ≤ N) (xs : List Nat) : Mid (numsE n s xs) N ∧ pr s <+: pr (numsE n s xs) := by
  induction xs generalizing s with
  | nil => exact ⟨h, List.prefix_refl _⟩
  | cons x xs ih =>
    have h2 := h.next (o := 0) (n := n) (by omega) x
    have := ih h2
    exact ⟨this.1, (numE_pre h (by omega) x).trans this.2⟩
theorem numsE_len (n : Nat) (s : ES) (xs : List Nat) : (numsE n s xs).bl.length = s.bl.length + n * xs.length := by
  induction xs generalizing s with
  | nil => rfl
  | cons x xs ih =>
    show (numsE n (numE 0 n s x) xs).bl.length = _
    rw [ih, numE_len, List.length_cons, Nat.mul_add]; omega
def e0 (N : Nat) : ES := ⟨[], [], List.replicate N 1024, 1⟩
theorem mid0 (N : Nat) : Mid (e0 N) N := ⟨by simp [e0], by intro z hz; have := (List.mem_replicate.1 hz).2; omega, rfl, rfl⟩
def stD (n : Nat) (s : TS) : Nat → TS
  | 0 => s
  | k + 1 => numD 0 n (stD n s k)
def outD (n : Nat) (s : TS) (k : Nat) : List Int := (List.range k).map fun i => ((stD n s (i + 1)).r : Int) - (2 ^ n : Nat)
theorem outD_succ (n : Nat) (s : TS) (k : Nat) : outD n s (k + 1) = outD n s k ++ [((stD n s (k + 1)).r : Int) - (2 ^ n : Nat)] := by
  unfold outD; rw [List.range_succ, List.map_append]; rfl
theorem outD_len (n : Nat) (s : TS) (k : Nat) : (outD n s k).length = k := by simp [outD]
def t0 (s : List UInt8) (N : Nat) : TS := ⟨fresh s, List.replicate N 1024, 1⟩
theorem dec_sync (n : Nat) (xs : List Nat) (hx : ∀ x ∈ xs, x < 2 ^ n) (S : List UInt8) (hL : undo (fresh S) ((pr (numsE n (e0 (2 ^ n)) xs)).map (·.2)) = (pr (numsE n (e0 (2 ^ n)) xs)).map (·.1)) :
    ∀ k, k ≤ xs.length → (stD n (t0 S (2 ^ n)) k).ch = (numsE n (e0 (2 ^ n)) (xs.take k)).ch ∧ (stD n (t0 S (2 ^ n)) k).d = after (fresh S) (nats (numsE n (e0 (2 ^ n)) (xs.take k)).pl) ∧
      outD n (t0 S (2 ^ n)) k = (xs.take k).map Int.ofNat
  | 0, _ => ⟨rfl, rfl, rfl⟩
  | k + 1, hk => by
    obtain ⟨h1, h2, h3⟩ := dec_sync n xs hx S hL k (by omega)
    have hm := (numsE_mid (n := n) (mid0 (2 ^ n)) (Nat.le_refl _) (xs.take k)).1
    have e1 : xs.take (k + 1) = xs.take k ++ [xs[k]'(by omega)] := List.take_succ_eq_append_getElem (by omega)
    have e2 : numsE n (e0 (2 ^ n)) (xs.take (k + 1)) = numE 0 n (numsE n (e0 (2 ^ n)) (xs.take k)) (xs[k]'(by omega)) := by rw [e1, numsE_snoc]
    have hp : pr (numE 0 n (numsE n (e0 (2 ^ n)) (xs.take k)) (xs[k]'(by omega))) <+: pr (numsE n (e0 (2 ^ n)) xs) := by
      rw [← e2]
      have : numsE n (e0 (2 ^ n)) xs = numsE n (numsE n (e0 (2 ^ n)) (xs.take (k + 1))) (xs.drop (k + 1)) := by rw [← numsE_app, List.take_append_drop]
      rw [this]
      exact (numsE_mid (numsE_mid (n := n) (mid0 (2 ^ n)) (Nat.le_refl _) _).1 (Nat.le_refl _) _).2
    have hs := sync_num (D := fresh S) (t := stD n (t0 S (2 ^ n)) k) (xs[k]'(by omega)) (hx _ (List.getElem_mem _)) h1 h2 hm (o := 0) (by omega) hL hp
    have e3 : stD n (t0 S (2 ^ n)) (k + 1) = numD 0 n (stD n (t0 S (2 ^ n)) k) := rfl
    refine ⟨by rw [e3, e2]; exact hs.1.1, by rw [e3, e2]; exact hs.1.2.2, ?_⟩
    rw [outD_succ, h3, e3, hs.2, e1, List.map_append]
    congr 1
    simp only [List.map_cons, List.map_nil, List.cons.injEq, and_true, Int.ofNat_eq_natCast]
    generalize 2 ^ n = q
    omega
def inB (n : Nat) (l : List Int) : Bool := l.all (fun x => decide (0 ≤ x) && decide (x < ((2 ^ n : Nat) : Int)))
def encB (l : List Int) (n : Int) : List UInt8 × Int :=
  if n < 1 ∨ 9 < n then ([], 1) else if inB n.toNat l = false then ([], 2) else (told (pr (numsE n.toNat (e0 (2 ^ n.toNat)) (nats l))), 0)
def decB (s : List UInt8) (many n : Int) : List Int × Int :=
  if n < 1 ∨ 9 < n ∨ many < 0 ∨ 1048576 < many then ([], 1) else (outD n.toNat (t0 s (2 ^ n.toNat)) many.toNat, 0)
theorem inB_at {n : Nat} {l : List Int} (h : inB n l = true) : ∀ z ∈ l, 0 ≤ z ∧ z < ((2 ^ n : Nat) : Int) := by
  intro z hz
  have := List.all_eq_true.1 h z hz
  simpa using this
theorem back46 (l : List Int) (n : Nat) (hn : 1 ≤ n) (hn9 : n ≤ 9) (h : inB n l = true) (hl : l.length ≤ 1048576) (r : List UInt8) : ∃ S, encB l n = (S, 0) ∧ decB (S ++ r) l.length n = (l, 0) ∧ S.length ≤ 4 * (9 * l.length) + 4 := by
  have hb := inB_at h
  refine ⟨told (pr (numsE n (e0 (2 ^ n)) (nats l))), ?_, ?_, ?_⟩
  · unfold encB; rw [if_neg (by omega), Int.toNat_natCast, h, if_neg (by decide)]
  · unfold decB
    rw [if_neg (by omega), Int.toNat_natCast, Int.toNat_natCast]
    have hm := (numsE_mid (n := n) (mid0 (2 ^ n)) (Nat.le_refl _) (nats l)).1
    have hlt : ∀ x ∈ pr (numsE n (e0 (2 ^ n)) (nats l)), x.2 < 2048 := prs_lt _ _ hm.2.2.2
    have hbk := back (pr (numsE n (e0 (2 ^ n)) (nats l))) r hlt
    have := (dec_sync n (nats l) (by
      intro x hx
      obtain ⟨z, hz, rfl⟩ := List.mem_map.1 hx
      have := hb z hz; omega) _ hbk l.length (by rw [nats_len]; exact Nat.le_refl _)).2.2
    rw [this, List.take_of_length_le (by rw [nats_len]; exact Nat.le_refl _)]
    congr 1
    unfold nats
    rw [List.map_map]
    refine (List.map_congr_left (g := id) ?_).trans (List.map_id _)
    intro z hz
    have := (hb z hz).1
    simp; omega
  · have hlen := numsE_len n (e0 (2 ^ n)) (nats l)
    have e : (e0 (2 ^ n)).bl.length = 0 := rfl
    rw [e, nats_len] at hlen
    unfold told
    split
    · simp
    · have := run_len 0 top (pr (numsE n (e0 (2 ^ n)) (nats l)))
      have hp : (pr (numsE n (e0 (2 ^ n)) (nats l))).length ≤ (numsE n (e0 (2 ^ n)) (nats l)).bl.length := by unfold pr prs; rw [List.length_zip]; omega
      have h9 : n * l.length ≤ 9 * l.length := Nat.mul_le_mul_right _ hn9
      rw [List.length_append]
      have : (four (run 0 top (pr (numsE n (e0 (2 ^ n)) (nats l)))).2.1).length = 4 := rfl
      omega
end Go.Proofs.Ytkdkedgpchcfpaa
