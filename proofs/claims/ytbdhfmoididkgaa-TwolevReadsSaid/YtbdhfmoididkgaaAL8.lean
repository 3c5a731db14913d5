/- Layer 11: (*Table).add, whichever way; New. -/
import Derived.Test.YtbdhfmoididkgaaAL7
import Derived.Test.YtbdhfmoididkgaaKs
import Derived.Test.YtbdhfmoididkgaaCe
namespace Go.Proofs.Ytbdhfmoididkgaa
open Go.ChangeShapes Go.WideShapes Go.ChangeAt Go.RowKit Go.Lib
set_option linter.unusedVariables false
set_option linter.unusedSimpArgs false
set_option maxRecDepth 100000
open Two KraftMath CanonMath TurnMath Bits
theorem nodup_le : ∀ (n : Nat) (l : List Nat), l.Nodup → (∀ x ∈ l, x < n) → l.length ≤ n
  | 0, l, _, h => by
    cases l with
    | nil => simp
    | cons x l => have := h x (by simp); omega
  | n + 1, l, hn, h => by
    have h1 := nodup_le n (l.erase n) (hn.erase n) (fun x hx => by
      have h2 := h x (List.mem_of_mem_erase hx)
      have h3 : x ≠ n := fun e => by subst e; exact (List.Nodup.mem_erase_iff hn).1 hx |>.1 rfl
      omega)
    have h4 : l.length ≤ (l.erase n).length + 1 := by
      rw [List.length_erase]
      split <;> omega
    omega
theorem own_slice4 {B : Nat} {w : World} {ao : Option Addr} {N C : Nat} {l : List Ent} (h : OwnT B w (.slice ao N C) l) : N = l.length ∧ N ≤ C ∧ (l.length ≠ 0 → ∃ g, ao = some ⟨g, 0, none⟩) := by
  rcases h.2 with ⟨h0, h1⟩ | ⟨g, cap, cur, h0, -, -, h1, -⟩
  · injection h0 with e1 e2 e3
    exact ⟨by omega, by omega, fun h => by omega⟩
  · injection h0 with e1 e2 e3
    exact ⟨by omega, by omega, fun _ => ⟨g, e1⟩⟩
/-- A code is added: whichever way. -/
theorem tAddK (w : World) (B gt gs R root L k : Nat) (ao : Option Addr) (N C : Nat) (l : List Int) (short long : List Ent) (hs : List Nat) (h : IsT2 w B gt gs R root L (.slice ao N C) short long) (hR : 2 ^ root = R) (hL15 : L ≤ 15) (hr : 1 ≤ root) (hrL : root ≤ L) (hB : B ≤ w.heap.size) (hgt : B ≤ gt) (hgs : B ≤ gs)
    (t : Two l L root k short long hs) (hc : check l 16 = 0) (hall : ∀ s, s < l.length → len l s ≤ L) (hk : k < l.length) (h0 : len l k ≠ 0) :
    Calls Try.prog 17 #[.pointer (some ⟨gt, 0, none⟩), .int .i64 (TT l k), .agg #[.int .i32 k, .int .i16 (len l k), .bool false, .int .i32 0]] w fun e w' => e = .returned (.tuple #[]) ∧ (∃ ao' N' C' short' long' hs', IsT2 w' B gt gs R root L (.slice ao' N' C') short' long' ∧ Two l L root (k + 1) short' long' hs') ∧ Below B w w' := by
  have hkL := hall k hk
  have hTlt := turn_lt (code l k) (len l k)
  have hR15 : R ≤ 32768 := by rw [← hR]; exact Nat.le_trans (Nat.pow_le_pow_right (by decide) (show root ≤ 15 by omega)) (by decide)
  have hRp : 0 < R := by rw [← hR]; exact Nat.pow_pos (by decide)
  have hbw : ∀ {w'} {S : Nat → Prop}, (∀ j, S j → B ≤ j) → Keeps S w w' → Below B w w' := fun hS hk => hk.below (fun q hq => ⟨by omega, fun e => by have := hS q e; omega⟩)
  by_cases hn : len l k ≤ root
  · refine (tAddShort w B gt gs R root L (TT l k) (len l k) k (.slice ao N C) short long h hR15 hn (by omega) hTlt).mono ?_
    rintro e w' ⟨rfl, h1, h2⟩
    exact ⟨rfl, ⟨ao, N, C, _, long, hs, h1, two_short t hc hall hk h0 hn hrL⟩, hbw (S := fun j => j = gs) (fun j e => by have : j = gs := e; omega) h2⟩
  · have hd : len l k = root + (len l k - root) := by omega
    have hH : TT l k % R < R := Nat.mod_lt _ hRp
    have hls : short.length = R := by rw [t.ls, hR]
    have hrow : ∀ j, (Value.slice ao N C).ownBlock = some j → B ≤ j := fun j e => (World.ownsRow.lt h.rl j e).1
    by_cases hm : TT l k % R ∈ hs
    · obtain ⟨i, hi, e2⟩ := List.mem_iff_getElem.1 hm
      have hf := t.fr i hi
      have hpos : 0 < 2 ^ (L - root) := Nat.pow_pos (by decide)
      have hle : (i + 1) * 2 ^ (L - root) ≤ hs.length * 2 ^ (L - root) := Nat.mul_le_mul_right _ hi
      rw [Nat.add_mul, Nat.one_mul] at hle
      have hll := t.ll
      have hmany : hs.length ≤ 2 ^ root := nodup_le _ _ t.nd t.lt
      have hP : 2 ^ root * 2 ^ (L - root) = 2 ^ L := by rw [← Nat.pow_add]; congr 1; omega
      have hP2 : 2 ^ L ≤ 2 ^ 15 := Nat.pow_le_pow_right (by decide) hL15
      have hmm : hs.length * 2 ^ (L - root) ≤ 2 ^ root * 2 ^ (L - root) := Nat.mul_le_mul_right _ hmany
      obtain ⟨o1, o2, o3⟩ := own_slice4 h.rl
      obtain ⟨gl, rfl⟩ := o3 (by omega)
      rw [e2] at hf
      have hfar : short[TT l k % R]? = some (0, 0, true, ((i * 2 ^ (L - root) : Nat) : Int)) := by
        rw [List.getD_eq_getElem?_getD, List.getElem?_eq_getElem (by rw [hls]; exact hH)] at hf
        rw [List.getElem?_eq_getElem (by rw [hls]; exact hH)]
        exact congrArg some hf
      refine (tAddFar w B gt gs gl R root L (L - root) (2 ^ (L - root)) (TT l k) (len l k) k (TT l k % R) (i * 2 ^ (L - root)) N C (len l k - root) short long h hR rfl (by omega) hL15 hr hd (by omega) (by omega) hTlt rfl hfar (by omega) (by omega) o1 o2).mono ?_
      rintro e w' ⟨rfl, h1, h2⟩
      refine ⟨rfl, ⟨some ⟨gl, 0, none⟩, N, C, short, _, hs, h1, ?_⟩, hbw (S := fun j => j = gl) (fun j e => by
        have e : j = gl := e
        exact hrow j (by rw [e]; rfl)) h2⟩
      have := two_far t hc hall hk (by omega) hrL i hi (by rw [e2, hR])
      rw [hR] at this
      exact this
    · obtain ⟨o1, o2, o3⟩ := own_slice4 h.rl
      have hmany : hs.length ≤ 2 ^ root := nodup_le _ _ t.nd t.lt
      have hP : 2 ^ root * 2 ^ (L - root) = 2 ^ L := by rw [← Nat.pow_add]; congr 1; omega
      have hP2 : 2 ^ L ≤ 2 ^ 15 := Nat.pow_le_pow_right (by decide) hL15
      have hmm : hs.length * 2 ^ (L - root) ≤ 2 ^ root * 2 ^ (L - root) := Nat.mul_le_mul_right _ hmany
      have hll := t.ll
      have hnf := t.nf (TT l k % R) (by rw [hR]; exact hH) hm
      obtain ⟨P, hP3⟩ : ∃ P, short[TT l k % R]? = some P := ⟨_, List.getElem?_eq_getElem (by rw [hls]; exact hH)⟩
      rw [List.getD_eq_getElem?_getD, hP3] at hnf
      refine (tAddOpen w B gt gs R root L (L - root) (2 ^ (L - root)) (TT l k) (len l k) k (TT l k % R) N C (len l k - root) ao P short long h hR rfl (by omega) hL15 hr hd (by omega) (by omega) hTlt rfl hP3 hnf o1 (by omega) hB).mono ?_
      rintro e w' ⟨rfl, ⟨g2, cap, h1, -⟩, h2⟩
      have t2 := two_open t hc hall (Nat.le_of_lt hk) hrL k hk (by omega) (by rw [hR]; exact hm)
      have t3 := two_far t2 hc hall hk (by omega) hrL hs.length (by simp) (by simp)
      rw [hR, ← hll, ← o1] at t3
      refine ⟨rfl, ⟨some ⟨g2, 0, none⟩, _, cap, _, _, _, h1, t3⟩, hbw (S := fun j => j = gt ∨ j = gs ∨ (Value.slice ao N C).ownBlock = some j) (fun j e => ?_) h2⟩
      rcases e with e | e | e
      · omega
      · omega
      · exact hrow j e
end Go.Proofs.Ytbdhfmoididkgaa
