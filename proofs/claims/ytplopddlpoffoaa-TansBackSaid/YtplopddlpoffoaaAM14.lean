/- Layer 59: what is encoded: mathematics. -/
import Derived.Test.YtplopddlpoffoaaAM10
namespace Go.Proofs.Ytplopddlpoffoaa
set_option linter.unusedVariables false
set_option maxRecDepth 100000
open Bits
def enk (a : Nat) : Nat → Nat → Nat
  | 0, _ => 0
  | f + 1, w => if w < 2 * a then 0 else enk a f (w / 2) + 1
theorem enk_spec (a : Nat) : ∀ (f w : Nat), w < 2 * a * 2 ^ f → w / 2 ^ enk a f w < 2 * a ∧ (∀ j, j < enk a f w → 2 * a ≤ w / 2 ^ j) ∧ enk a f w ≤ f
  | 0, w, h => by simp [enk] at h ⊢; exact h
  | f + 1, w, h => by
    unfold enk
    by_cases h1 : w < 2 * a
    · rw [if_pos h1]; exact ⟨by simpa using h1, fun j hj => by omega, by omega⟩
    · rw [if_neg h1]
      have h2 : w / 2 < 2 * a * 2 ^ f := by
        rw [Nat.div_lt_iff_lt_mul (by decide), Nat.mul_assoc, ← Nat.pow_succ]; exact h
      have ih := enk_spec a f (w / 2) h2
      have hd : ∀ j, w / 2 ^ (j + 1) = w / 2 / 2 ^ j := fun j => by rw [Nat.pow_succ, Nat.mul_comm, Nat.div_div_eq_div_mul]
      refine ⟨by rw [hd]; exact ih.1, fun j hj => ?_, by omega⟩
      cases j with
      | zero => simp; omega
      | succ j => rw [hd]; exact ih.2.1 j (by omega)
theorem enk_mov {m q a w : Nat} (hm : m ≤ 12) (hq : 2 ^ m = q) (ha : 1 ≤ a) (haq : a ≤ q) (hw : q ≤ w) (hw2 : w < 2 * q) : a ≤ w / 2 ^ enk a m w ∧ w / 2 ^ enk a m w < 2 * a ∧ enk a m w ≤ m ∧ movN m (w / 2 ^ enk a m w) = enk a m w := by
  have hs := enk_spec a m w (by rw [hq]; calc w < 2 * q := hw2
                                  _ = 2 * 1 * q := by omega
                                  _ ≤ 2 * a * q := Nat.mul_le_mul_right _ (by omega))
  obtain ⟨K, hK⟩ : ∃ K, enk a m w = K := ⟨_, rfl⟩
  rw [hK] at hs ⊢
  have hpos : ∀ k, 0 < 2 ^ k := fun k => Nat.pow_pos (by decide)
  have h1 : a ≤ w / 2 ^ K := by
    cases K with
    | zero => simp; omega
    | succ k =>
      have := hs.2.1 k (by omega)
      rw [Nat.pow_succ, ← Nat.div_div_eq_div_mul]
      omega
  refine ⟨h1, hs.1, hs.2.2, ?_⟩
  obtain ⟨y, hy⟩ : ∃ y, w / 2 ^ K = y := ⟨_, rfl⟩
  rw [hy] at h1 hs ⊢
  have hle : y * 2 ^ K ≤ w := by rw [← hy]; exact Nat.div_mul_le_self w (2 ^ K)
  have hge : q ≤ y * 2 ^ K := by
    have e : q = 2 ^ (m - K) * 2 ^ K := by rw [← hq, ← Nat.pow_add]; congr 1; omega
    rw [e]
    apply Nat.mul_le_mul_right
    rw [← hy, Nat.le_div_iff_mul_le (hpos K), ← e]
    exact hw
  have hy2 : y < 2 * q := by
    have : y * 1 ≤ y * 2 ^ K := Nat.mul_le_mul_left _ (hpos K)
    omega
  have hf := mov_facts hm hq (by omega) hy2
  rcases Nat.lt_trichotomy (movN m y) K with h | h | h
  · exfalso
    have h3 : y * 2 ^ movN m y * 2 ≤ y * 2 ^ K := by
      rw [Nat.mul_assoc, ← Nat.pow_succ]
      exact Nat.mul_le_mul_left _ (Nat.pow_le_pow_right (by decide) h)
    have := hf.2.1
    omega
  · exact h
  · exfalso
    have := hf.2.2.2.1 K h
    omega
def stsTo (L : List Int) (s : Int) : Nat → List Int
  | 0 => []
  | k + 1 => if L.getD k 0 = s then stsTo L s k ++ [(k : Int)] else stsTo L s k
theorem stsTo_len (L : List Int) (s : Int) (k : Nat) : (stsTo L s k).length = befTo L s k := by
  induction k with
  | zero => rfl
  | succ k ih => simp only [stsTo, befTo]; split <;> simp [ih]
theorem stsTo_at (L : List Int) (s : Int) (k : Nat) : ∀ j, j < (stsTo L s k).length → ∃ x : Nat, x < k ∧ (stsTo L s k).getD j 0 = x ∧ L.getD x 0 = s ∧ befTo L s x = j := by
  induction k with
  | zero => intro j hj; simp [stsTo] at hj
  | succ k ih =>
    intro j hj
    simp only [stsTo] at hj ⊢
    by_cases h : L.getD k 0 = s
    · rw [if_pos h] at hj ⊢
      by_cases hjl : j < (stsTo L s k).length
      · obtain ⟨x, h1, h2, h3, h4⟩ := ih j hjl
        refine ⟨x, by omega, ?_, h3, h4⟩
        rw [List.getD_eq_getElem?_getD, List.getElem?_append_left hjl, ← List.getD_eq_getElem?_getD]
        exact h2
      · have hje : j = (stsTo L s k).length := by simp at hj; omega
        refine ⟨k, by omega, ?_, h, by rw [hje, stsTo_len]⟩
        rw [List.getD_eq_getElem?_getD, hje, List.getElem?_append_right (Nat.le_refl _), Nat.sub_self]
        rfl
    · rw [if_neg h] at hj ⊢
      obtain ⟨x, h1, h2, h3, h4⟩ := ih j hj
      exact ⟨x, by omega, h2, h3, h4⟩
theorem stsTo_mem (L : List Int) (s : Int) (k x : Nat) (hx : x < k) (h : L.getD x 0 = s) : (x : Int) ∈ stsTo L s k := by
  induction k with
  | zero => omega
  | succ k ih =>
    simp only [stsTo]
    by_cases e : x = k
    · subst e; rw [if_pos h]; simp
    · have := ih (by omega)
      split
      · exact List.mem_append_left _ this
      · exact this
theorem stsTo_many {l : List Int} {q : Nat} (hS : Sp l q) (i : Nat) (hi : i < l.length) : l.getD i 0 ≤ ((stsTo (sprL l q) i q).length : Int) := by
  obtain ⟨xs, h1, h2, h3⟩ := hS.cnt i hi
  have h4 := nodup_sub59 xs ((stsTo (sprL l q) i q).map Int.toNat) h1 (fun x hx => by
    obtain ⟨h5, h6⟩ := h3 x hx
    exact List.mem_map.2 ⟨(x : Int), stsTo_mem _ _ _ _ h5 h6, by simp⟩)
  rw [List.length_map] at h4
  omega
def aS (l : List Int) (s : Int) : Nat := (l.getD s.toNat 0).toNat
def encL (L l : List Int) (m q : Nat) : List Int → Nat × List (Nat × Nat)
  | [] => (0, [])
  | s :: r => (((stsTo L s q).getD (((encL L l m q r).1 + q) / 2 ^ enk (aS l s) m ((encL L l m q r).1 + q) - aS l s) 0).toNat, ((encL L l m q r).1 % 2 ^ enk (aS l s) m ((encL L l m q r).1 + q), enk (aS l s) m ((encL L l m q r).1 + q)) :: (encL L l m q r).2)
def goodS (l : List Int) (s : Int) : Prop := 0 ≤ s ∧ s < l.length ∧ l.getD s.toNat 0 ≠ 0
def bitsP (ps : List (Nat × Nat)) : List Bool := ps.flatMap fun p => bitsOf p.1 p.2
/-- One step: the state ahead of another one. -/
theorem enc_step {l : List Int} {m q : Nat} (hS : Sp l q) (hf : ∀ i, i < l.length → 0 ≤ l.getD i 0 ∧ l.getD i 0 ≤ (q : Int)) (hm : m ≤ 12) (hq : 2 ^ m = q) {x : Nat} (hx : x < q) {s : Int} (hs : goodS l s) :
    ∃ K y z : Nat, enk (aS l s) m (x + q) = K ∧ (x + q) / 2 ^ K = y ∧ K ≤ m ∧ aS l s ≤ y ∧ y - aS l s < (stsTo (sprL l q) s q).length ∧ (stsTo (sprL l q) s q).getD (y - aS l s) 0 = z ∧ z < q ∧ (sprL l q).getD z 0 = s ∧ (numL (sprL l q) l z).toNat = y ∧ movN m y = K ∧ y * 2 ^ K + x % 2 ^ K - q = x := by
  obtain ⟨h1, h2, h3⟩ := hs
  obtain ⟨i, rfl⟩ : ∃ i : Nat, s = i := ⟨s.toNat, by omega⟩
  rw [Int.toNat_natCast] at h3
  have hi : i < l.length := by omega
  have hfi := hf i hi
  have ha : aS l (i : Int) = (l.getD i 0).toNat := by unfold aS; rw [Int.toNat_natCast]
  have hek := enk_mov (a := aS l i) (w := x + q) hm hq (by rw [ha]; omega) (by rw [ha]; omega) (by omega) (by omega)
  have hmany := stsTo_many hS i hi
  obtain ⟨K, hK⟩ : ∃ K, enk (aS l (i : Int)) m (x + q) = K := ⟨_, rfl⟩
  rw [hK] at hek
  obtain ⟨y, hy⟩ : ∃ y, (x + q) / 2 ^ K = y := ⟨_, rfl⟩
  rw [hy] at hek
  have hj : y - aS l i < (stsTo (sprL l q) i q).length := by rw [ha] at hek ⊢; omega
  obtain ⟨z, hz1, hz2, hz3, hz4⟩ := stsTo_at _ _ _ _ hj
  refine ⟨K, y, z, hK, hy, hek.2.2.1, hek.1, hj, hz2, hz1, hz3, ?_, hek.2.2.2, ?_⟩
  · unfold numL
    rw [hz3, Int.toNat_natCast, hz4]
    rw [ha] at hek ⊢
    omega
  · have hd := Nat.div_add_mod (x + q) (2 ^ K)
    have hmod : (x + q) % 2 ^ K = x % 2 ^ K := by
      have e : q = 2 ^ (m - K) * 2 ^ K := by rw [← hq, ← Nat.pow_add]; congr 1; omega
      rw [e, Nat.add_mul_mod_self_right]
    rw [hy, hmod, Nat.mul_comm] at hd
    omega
theorem encL_lt {l : List Int} {m q : Nat} (hS : Sp l q) (hf : ∀ i, i < l.length → 0 ≤ l.getD i 0 ∧ l.getD i 0 ≤ (q : Int)) (hm : m ≤ 12) (hq : 2 ^ m = q) (hq0 : 0 < q) : ∀ ss : List Int, (∀ s ∈ ss, goodS l s) → (encL (sprL l q) l m q ss).1 < q
  | [], _ => hq0
  | s :: r, h => by
    have ih := encL_lt hS hf hm hq hq0 r (fun x hx => h x (by simp [hx]))
    obtain ⟨K, y, z, h1, h2, -, -, -, h6, h7, -⟩ := enc_step hS hf hm hq ih (h s (by simp))
    simp only [encL, h1, h2, h6, Int.toNat_natCast]
    exact h7
theorem enc_dec {l : List Int} {m q : Nat} (hS : Sp l q) (hf : ∀ i, i < l.length → 0 ≤ l.getD i 0 ∧ l.getD i 0 ≤ (q : Int)) (hm : m ≤ 12) (hq : 2 ^ m = q) (hq0 : 0 < q) (bits pad : List Bool) : ∀ (ss : List Int) (t : Nat) (acc : List Int), (∀ s ∈ ss, goodS l s) → bits.drop t = bitsP (encL (sprL l q) l m q ss).2 ++ pad → t ≤ bits.length →
    decS (fun x => (sprL l q).getD x 0) (fun x => (numL (sprL l q) l x).toNat) m q bits ss.length t (encL (sprL l q) l m q ss).1 acc = some (acc ++ ss, t + (bitsP (encL (sprL l q) l m q ss).2).length, 0)
  | [], t, acc, _, _, _ => by simp [decS, encL, bitsP]
  | s :: r, t, acc, hg, hd, ht => by
    have hr : ∀ s ∈ r, goodS l s := fun x hx => hg x (by simp [hx])
    have hlt := encL_lt hS hf hm hq hq0 r hr
    obtain ⟨K, y, z, h1, h2, h3, h4, h5, h6, h7, h8, h9, h10, h11⟩ := enc_step hS hf hm hq hlt (hg s (by simp))
    have ih := enc_dec hS hf hm hq hq0 bits pad r (t + K) (acc ++ [s]) hr
    simp only [encL, h1, h2, h6, Int.toNat_natCast] at hd ⊢
    obtain ⟨X, hX⟩ : ∃ X, (encL (sprL l q) l m q r).1 = X := ⟨_, rfl⟩
    obtain ⟨PS, hPS⟩ : ∃ PS, (encL (sprL l q) l m q r).2 = PS := ⟨_, rfl⟩
    rw [hX] at hd h11 ih hlt
    rw [hPS] at hd ih
    rw [hX, hPS]
    have hbp : bitsP ((X % 2 ^ K, K) :: PS) = bitsOf (X % 2 ^ K) K ++ bitsP PS := by simp [bitsP]
    rw [hbp] at hd ⊢
    have hlen : (bits.drop t).length = K + ((bitsP PS).length + pad.length) := by rw [hd]; simp [bitsOf_length]
    rw [List.length_drop] at hlen
    simp only [List.length_cons, decS, h8, h9, h10]
    rw [if_neg (by omega)]
    have hpk : peek (bits.drop t) K = X % 2 ^ K := by
      rw [hd]
      unfold peek
      rw [List.append_assoc, List.take_left' (bitsOf_length _ _), wordOf_bitsOf, Nat.mod_mod]
    rw [hpk, h11, ih (by
      rw [← List.drop_drop, hd, List.append_assoc, List.drop_left' (bitsOf_length _ _)]) (by omega)]
    simp [bitsOf_length]
    omega
theorem encV {l : List Int} {m q : Nat} (hS : Sp l q) (hf : ∀ i, i < l.length → 0 ≤ l.getD i 0 ∧ l.getD i 0 ≤ (q : Int)) (hm : m ≤ 12) (hq : 2 ^ m = q) (hq0 : 0 < q) (ss : List Int) (hg : ∀ s ∈ ss, goodS l s) (pad : List Bool) (hp : pad.length < 8) (hp2 : pad.all (fun b => !b) = true) :
    decV l m q (bitsOf (encL (sprL l q) l m q ss).1 m ++ (bitsP (encL (sprL l q) l m q ss).2 ++ pad)) ss.length = (ss, 0) := by
  have hlt := encL_lt hS hf hm hq hq0 ss hg
  unfold decV
  rw [if_neg (by simp [bitsOf_length])]
  have hpk : peek (bitsOf (encL (sprL l q) l m q ss).1 m ++ (bitsP (encL (sprL l q) l m q ss).2 ++ pad)) m = (encL (sprL l q) l m q ss).1 := by
    unfold peek
    rw [List.take_left' (bitsOf_length _ _), wordOf_bitsOf, hq, Nat.mod_eq_of_lt hlt]
  rw [hpk, enc_dec hS hf hm hq hq0 _ pad ss m [] hg (by rw [List.drop_left' (bitsOf_length _ _)]) (by simp [bitsOf_length])]
  simp only [decF]
  rw [if_pos]
  · simp
  · refine ⟨by trivial, ?_⟩
    rw [← List.drop_drop, List.drop_left' (bitsOf_length _ _), List.drop_left]
    unfold okL
    rw [hp2, Bool.and_true]
    simpa using hp
end Go.Proofs.Ytplopddlpoffoaa
