/- Layer 19: by the first byte (mathematics). -/
import Derived.Test.YtpkidedepcnoaaaU4
namespace Go.Proofs.Ytpkidedepcnoaaa
open Go.ChangeShapes Go.WideShapes Go.ChangeAt Go.RowKit
set_option linter.unusedVariables false
set_option linter.unusedSimpArgs false
set_option maxRecDepth 100000
/-- How many numbers below b occur. -/
def usd (f : Nat → Nat) : Nat → Nat
  | 0 => 0
  | b + 1 => usd f b + if 0 < f b then 1 else 0
theorem usd_mono (f : Nat → Nat) (b : Nat) : ∀ d, usd f b ≤ usd f (b + d)
  | 0 => Nat.le_refl _
  | d + 1 => by have := usd_mono f b d; rw [← Nat.add_assoc, usd]; omega
theorem usd_le (f : Nat → Nat) : ∀ b, usd f b ≤ b
  | 0 => Nat.le_refl _
  | b + 1 => by have := usd_le f b; rw [usd]; split <;> omega
theorem usd_none (f : Nat → Nat) (b : Nat) : ∀ d, (∀ x, b ≤ x → x < b + d → f x = 0) → usd f (b + d) = usd f b
  | 0, _ => rfl
  | d + 1, h => by
    have ih := usd_none f b d (fun x h1 h2 => h x h1 (by omega))
    rw [← Nat.add_assoc, usd, ih, h (b + d) (by omega) (by omega)]; simp
def byteAt (L : List UInt8) (i : Nat) : Nat := (L.getD i 0).toNat
theorem byteAt_lt (L : List UInt8) (i : Nat) : byteAt L i < 256 := (L.getD i 0).toNat_lt
theorem sam_pos (rk : Nat → Nat) (l : List Nat) (r : Nat) : 0 < sam rk l r ↔ ∃ x ∈ l, rk x = r := by
  unfold sam
  rw [List.countP_pos_iff]
  simp
abbrev occ (L : List UInt8) : Nat → Nat := sam (byteAt L) (List.range L.length)
theorem occ_in (L : List UInt8) (i : Nat) (hi : i < L.length) : 0 < occ L (byteAt L i) := (sam_pos _ _ _).2 ⟨i, List.mem_range.2 hi, rfl⟩
theorem occ_pos (L : List UInt8) (b : Nat) (h : 0 < occ L b) : ∃ i, i < L.length ∧ byteAt L i = b := by
  obtain ⟨i, hi, e⟩ := (sam_pos _ _ _).1 h
  exact ⟨i, List.mem_range.1 hi, e⟩
theorem key_byte (L : List UInt8) (i : Nat) (hi : i < L.length) : key L i 1 = byteAt L i + 1 := by rw [key_one, dg_in L i hi]; rfl
theorem first_rkd {L : List UInt8} {m : Nat} {cnt a rank : List Nat} (h : Laid (byteAt L) (List.range L.length) m L.length cnt a) (hr : rank.length = L.length) (hx : ∀ i, i < L.length → rank.getD i 0 = usd (occ L) (byteAt L i)) : Rkd L 1 a rank := by
  have h' : Laid (byteAt L) (List.range L.length) m (List.range L.length).length cnt a := by rw [List.length_range]; exact h
  have hs := h'.sorted (Q := fun p q => p < q) List.pairwise_lt_range
  have hlt : ∀ x ∈ a, x < L.length := fun x hx => List.mem_range.1 (h'.mem x hx)
  have hal : a.length = L.length := by have := h.ol; rwa [List.length_range] at this
  have hnd : a.Nodup := hs.imp (fun h e => by
    rcases h with h | h
    · rw [e] at h; exact Nat.lt_irrefl _ h
    · rw [e] at h; exact Nat.lt_irrefl _ h.2)
  have hle : ∀ i j, i < j → j < a.length → byteAt L (a.getD i 0) ≤ byteAt L (a.getD j 0) := fun i j hij hj => by
    rcases pw_getD hs i j hij hj with h | h
    · exact Nat.le_of_lt h
    · omega
  have hall := (pig L.length a hnd hlt).2 hal
  have up : ∀ b c, b < c → 0 < occ L b → usd (occ L) b < usd (occ L) c := fun b c hbc hb => by
    have h1 := usd_mono (occ L) (b + 1) (c - (b + 1))
    rw [show b + 1 + (c - (b + 1)) = c by omega, usd, if_pos hb] at h1
    omega
  have dn : ∀ b c, b ≤ c → usd (occ L) b ≤ usd (occ L) c := fun b c hbc => by
    have h1 := usd_mono (occ L) b (c - b)
    rwa [show b + (c - b) = c by omega] at h1
  refine ⟨hal, hlt, hnd, pw_of_getD (fun i j hij hj => ?_), hr, fun i j hi hj => ?_, fun h0 => ?_, fun j hj => ?_⟩
  · have li := hlt _ (getD_mem a i (by omega))
    have lj := hlt _ (getD_mem a j hj)
    rw [key_byte L _ li, key_byte L _ lj]
    have := hle i j hij hj
    omega
  · rw [hx i hi, hx j hj, key_byte L i hi, key_byte L j hj]
    constructor
    · intro h1
      apply Classical.byContradiction
      intro h2
      have := dn (byteAt L j) (byteAt L i) (by omega)
      omega
    · intro h1
      exact up _ _ (by omega) (occ_in L i hi)
  · have l0 := hlt _ (getD_mem a 0 (by omega))
    rw [hx _ l0]
    have := usd_none (occ L) 0 (byteAt L (a.getD 0 0)) (fun x _ hx2 => by
      apply Classical.byContradiction
      intro hne
      obtain ⟨i, hi, e⟩ := occ_pos L x (by omega)
      obtain ⟨y, hy, ey⟩ := List.getElem_of_mem (hall i hi)
      have gy : a.getD y 0 = i := by rw [List.getD_eq_getElem?_getD, List.getElem?_eq_getElem hy, Option.getD_some, ey]
      by_cases hy0 : y = 0
      · subst hy0; rw [gy] at hx2; omega
      · have := hle 0 y (by omega) hy
        rw [gy] at this; omega)
    rw [Nat.zero_add] at this
    rw [this]; rfl
  · have l0 := hlt _ (getD_mem a j (by omega))
    have l1 := hlt _ (getD_mem a (j + 1) (by omega))
    rw [hx _ l0, hx _ l1]
    have hb := hle j (j + 1) (Nat.lt_succ_self _) (by omega)
    obtain ⟨b, hbb⟩ : ∃ b, byteAt L (a.getD j 0) = b := ⟨_, rfl⟩
    obtain ⟨c, hcc⟩ : ∃ c, byteAt L (a.getD (j + 1) 0) = c := ⟨_, rfl⟩
    rw [hbb, hcc] at hb ⊢
    by_cases e : b = c
    · subst e; omega
    · have := usd_none (occ L) (b + 1) (c - (b + 1)) (fun x hx1 hx2 => by
        apply Classical.byContradiction
        intro hne
        obtain ⟨i, hi, ei⟩ := occ_pos L x (by omega)
        obtain ⟨y, hy, ey⟩ := List.getElem_of_mem (hall i hi)
        have gy : a.getD y 0 = i := by rw [List.getD_eq_getElem?_getD, List.getElem?_eq_getElem hy, Option.getD_some, ey]
        rcases Nat.lt_trichotomy y j with f | f | f
        · have := hle y j f (by omega); rw [gy] at this; omega
        · subst f; rw [gy] at hbb; omega
        · by_cases f2 : y = j + 1
          · subst f2; rw [gy] at hcc; omega
          · have := hle (j + 1) y (by omega) hy; rw [gy] at this; omega)
      rw [show b + 1 + (c - (b + 1)) = c by omega] at this
      rw [this, usd]
      split <;> omega
/-- How often each byte is met, one place on; and how many are less. -/
def bys (L : List UInt8) : List Nat := (List.range L.length).map (byteAt L)
theorem bys_len (L : List UInt8) : (bys L).length = L.length := by simp [bys]
theorem bys_getD (L : List UInt8) (i : Nat) (hi : i < L.length) : (bys L).getD i 0 = byteAt L i := by simp [bys, List.getD_eq_getElem?_getD, hi]
theorem C1.bytes {L : List UInt8} {c : List Nat} (h : C1 (bys L) c 257 L.length) : C2 (byteAt L) (List.range L.length) c 257 1 := by
  have := C1.done (rank := bys L) (pl := List.range L.length) (by rw [bys_len]; exact h) List.nodup_range (fun x hx => by rw [bys_len]; exact List.mem_range.1 hx) (by rw [bys_len, List.length_range])
  obtain ⟨h1, h2, h3⟩ := this
  have e : ∀ x ∈ List.range L.length, (bys L).getD x 0 = byteAt L x := fun x hx => bys_getD L x (List.mem_range.1 hx)
  refine ⟨h1, fun q hq hm => ?_, fun q hq hm => ?_⟩
  · rw [h2 q hq hm]
    unfold bel
    exact List.countP_congr (fun x hx => by simp only [e x hx])
  · rw [h3 q hq hm]
    unfold sam
    exact List.countP_congr (fun x hx => by simp only [e x hx])
end Go.Proofs.Ytpkidedepcnoaaa
