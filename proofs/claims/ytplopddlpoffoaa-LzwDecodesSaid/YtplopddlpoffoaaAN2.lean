/- Layer 60: what is encoded, what is decoded, and that it comes back: mathematics. -/
import Derived.Test.YtplopddlpoffoaaAN1
import Derived.Test.YtplopddlpoffoaaD4
import Derived.Lib.BitFns
import Derived.Lib.ItoaNum
namespace Go.Proofs.Ytplopddlpoffoaa
set_option linter.unusedVariables false
set_option maxRecDepth 100000
open Bits
theorem blen (n : Nat) (h0 : 1 ≤ n) (h : n ≤ 4294967295) : ∃ k, Lib.bitLen n = k + 1 ∧ k ≤ 31 ∧ 2 ^ k ≤ n ∧ n < 2 ^ (k + 1) := by
  have hb := Lib.bitLenAux_bounds 64 n (by omega) (by omega)
  have hl := Lib.bitLen_le n 32 (by decide) (by omega)
  unfold Lib.bitLen at hl ⊢
  refine ⟨Lib.bitLenAux 64 n - 1, by omega, by omega, hb.2.1, ?_⟩
  have e : Lib.bitLenAux 64 n - 1 + 1 = Lib.bitLenAux 64 n := by omega
  rw [e]; exact hb.2.2
/-- How many bits a number has. -/
def widN (rows : Nat) : Nat := max 9 (Lib.bitLen (rows - 1))
theorem widN_facts {rows : Nat} (h : 256 ≤ rows) (h2 : rows ≤ 65536) : 9 ≤ widN rows ∧ widN rows ≤ 16 ∧ rows ≤ 2 ^ widN rows ∧ ∀ k, 9 ≤ k → k < widN rows → 2 ^ k ≤ rows - 1 := by
  obtain ⟨k, hk, hk1, hlo, hhi⟩ := blen (rows - 1) (by omega) (by omega)
  have h16 : k < 16 := by
    refine Nat.lt_of_not_le fun hc => ?_
    have : 2 ^ 16 ≤ 2 ^ k := Nat.pow_le_pow_right (by decide) hc
    omega
  unfold widN
  rw [hk]
  refine ⟨by omega, by omega, ?_, fun j h9 hj => ?_⟩
  · have : 2 ^ (k + 1) ≤ 2 ^ max 9 (k + 1) := Nat.pow_le_pow_right (by decide) (by omega)
    omega
  · have : 2 ^ j ≤ 2 ^ k := Nat.pow_le_pow_right (by decide) (by omega)
    omega
def nextZ (l : List Row8) (s : Row8) (n m : Nat) : List Row8 := if n < s.length ∧ l.length < 2 ^ m then l ++ [s.take (n + 1)] else l
/-- The numbers, each with its bits. -/
def encZ (m : Nat) : Nat → List Row8 → Row8 → List (Nat × Nat)
  | 0, _, _ => []
  | f + 1, l, s => if s = [] then [] else
    (lng l s, widN l.length) :: encZ m f (nextZ l s (l.getD (lng l s) []).length m) (s.drop (l.getD (lng l s) []).length)
def okZ (r : List Bool) : Bool := decide (r.length < 8) && r.all (fun b => !b)
def rowsZ (l : List Row8) (last : Row8) (m : Nat) : Nat := if last ≠ [] ∧ l.length < 2 ^ m then l.length + 1 else l.length
def nowZ (l : List Row8) (last : Row8) (x : Nat) : Row8 := if x < l.length then l.getD x [] else last ++ last.take 1
def moreZ (l : List Row8) (last now : Row8) (rows : Nat) : List Row8 := if l.length < rows then l ++ [last ++ now.take 1] else l
/-- The text, or the error. -/
def decZ (R : List Bool) (many m : Nat) : Nat → List Row8 → Row8 → Row8 → Nat → Row8 × Int
  | 0, _, _, out, t => if okZ (R.drop t) = true then (out, 0) else ([], 4)
  | f + 1, l, last, out, t => if out.length < many then
      if (takeS R t (widN (rowsZ l last m) : Nat)).2.2 ≠ 0 then ([], (takeS R t (widN (rowsZ l last m) : Nat)).2.2)
      else if rowsZ l last m ≤ (takeS R t (widN (rowsZ l last m) : Nat)).2.1 then ([], 4)
      else if many - out.length < (nowZ l last (takeS R t (widN (rowsZ l last m) : Nat)).2.1).length then ([], 4)
      else decZ R many m f (moreZ l last (nowZ l last (takeS R t (widN (rowsZ l last m) : Nat)).2.1) (rowsZ l last m)) (nowZ l last (takeS R t (widN (rowsZ l last m) : Nat)).2.1) (out ++ nowZ l last (takeS R t (widN (rowsZ l last m) : Nat)).2.1) (takeS R t (widN (rowsZ l last m) : Nat)).1
    else if okZ (R.drop t) = true then (out, 0) else ([], 4)
def bitsZ (ps : List (Nat × Nat)) : List Bool := ps.flatMap fun p => bitsOf p.1 p.2
theorem Dic.next {l : List Row8} (h : Dic l) {s r : Row8} (m : Nat) (hr : l[lng l s]? = some r) (hrs : r <+: s) (hmax : ∀ q, q ∈ l → q <+: s → q.length ≤ r.length) (hl : l.length ≤ 2 ^ m) : Dic (nextZ l s r.length m) ∧ (nextZ l s r.length m).length ≤ 2 ^ m ∧ l.length ≤ (nextZ l s r.length m).length := by
  unfold nextZ
  by_cases hc : r.length < s.length ∧ l.length < 2 ^ m
  · rw [if_pos hc]
    obtain ⟨hc, hc2⟩ := hc
    refine ⟨?_, by simp; omega, by simp⟩
    have e : s.take (r.length + 1) = r ++ [s[r.length]] := by
      rw [List.take_succ_eq_append_getElem hc, ← List.prefix_iff_eq_take.1 hrs]
    rw [e]
    refine h.add hr fun hm => ?_
    have := hmax _ hm (by rw [← e]; exact List.take_prefix _ _)
    simp at this
    exact absurd this (by omega)
  · rw [if_neg hc]
    exact ⟨h, hl, Nat.le_refl _⟩
/-- What the decoder has when the encoder has l and s is left. -/
def Sync (m : Nat) (le ld : List Row8) (last s : Row8) : Prop :=
  (last = [] ∧ le = ld) ∨ (last ≠ [] ∧ ((∃ b s', s = b :: s' ∧ le = ld ++ [last ++ [b]] ∧ ld.length < 2 ^ m) ∨ (le = ld ∧ 2 ^ m ≤ ld.length)))
theorem sync_rows {m : Nat} {le ld : List Row8} {last s : Row8} (h : Sync m le ld last s) : rowsZ ld last m = le.length := by
  unfold rowsZ
  rcases h with ⟨rfl, rfl⟩ | ⟨h0, ⟨b, s', -, rfl, h3⟩ | ⟨rfl, h3⟩⟩
  · rw [if_neg (fun e => e.1 rfl)]
  · rw [if_pos ⟨h0, h3⟩]; simp
  · rw [if_neg (fun e => by omega)]
theorem sync_step {m : Nat} {le ld : List Row8} {last s r : Row8} {x : Nat} (h : Sync m le ld last s) (hr : le[x]? = some r) (hne : r ≠ []) (hrs : r <+: s) : nowZ ld last x = r ∧ moreZ ld last r le.length = le := by
  unfold nowZ moreZ
  rcases h with ⟨rfl, rfl⟩ | ⟨h0, ⟨b, s', rfl, rfl, h3⟩ | ⟨rfl, h3⟩⟩
  · rw [if_pos (List.getElem?_eq_some_iff.1 hr).1, if_neg (Nat.lt_irrefl _)]
    exact ⟨by rw [List.getD_eq_getElem?_getD, hr]; rfl, rfl⟩
  · obtain ⟨c, r', rfl⟩ : ∃ c r', r = c :: r' := by cases r with | nil => exact absurd rfl hne | cons c r' => exact ⟨c, r', rfl⟩
    obtain ⟨rfl, -⟩ := List.cons_prefix_cons.1 hrs
    refine ⟨?_, ?_⟩
    · by_cases hx : x < ld.length
      · rw [if_pos hx]
        rw [List.getElem?_append_left hx] at hr
        rw [List.getD_eq_getElem?_getD, hr]; rfl
      · rw [if_neg hx]
        have hxx : x = ld.length := by
          have := (List.getElem?_eq_some_iff.1 hr).1
          simp at this; omega
        subst hxx
        rw [List.getElem?_append_right (Nat.le_refl _), Nat.sub_self] at hr
        simp at hr
        obtain ⟨d, t, rfl⟩ : ∃ d t, last = d :: t := by cases last with | nil => exact absurd rfl h0 | cons d t => exact ⟨d, t, rfl⟩
        simp at hr
        obtain ⟨rfl, rfl⟩ := hr
        simp
    · rw [if_pos (by simp)]; simp
  · rw [if_pos (List.getElem?_eq_some_iff.1 hr).1, if_neg (Nat.lt_irrefl _)]
    exact ⟨by rw [List.getD_eq_getElem?_getD, hr]; rfl, rfl⟩
theorem take_in (R : List Bool) (t n : Nat) (A B : List Bool) (h : R.drop t = A ++ B) (hA : A.length = n) (hn : n ≤ 56) (h1 : 1 ≤ n) : takeS R t (n : Nat) = (t + n, wordOf A, 0) := by
  have hl : t + n ≤ R.length := by
    have := congrArg List.length h
    simp only [List.length_drop, List.length_append] at this
    omega
  unfold takeS
  rw [if_neg (by omega), Int.toNat_natCast]
  rw [if_neg (by omega)]
  unfold peek
  rw [h, ← hA, List.take_left]
theorem enc_dec60 {m : Nat} (h9 : 9 ≤ m) (h16 : m ≤ 16) (R pad : List Bool) (hpad : okZ pad = true) (S : Row8) (htl : R.length ≤ 1000000) : ∀ (f : Nat) (s le ld : List Row8) (last out : Row8) (t g : Nat) (rest : Row8), rest.length ≤ f → rest.length ≤ g → Dic le → le.length ≤ 2 ^ m → (rest ≠ [] → Sync m le ld last rest) → S = out ++ rest → t ≤ R.length → R.drop t = bitsZ (encZ m f le rest) ++ pad →
    decZ R S.length m g ld last out t = (S, 0) := by
  intro f
  induction f with
  | zero =>
    intro s le ld last out t g rest hf hg hd hl hsy hS ht hR
    have hr0 : rest = [] := List.length_eq_zero_iff.1 (by omega)
    subst hr0
    rw [List.append_nil] at hS
    subst hS
    have hR2 : R.drop t = pad := by rw [hR]; rfl
    cases g with
    | zero => unfold decZ; rw [hR2, if_pos hpad]
    | succ g => unfold decZ; rw [if_neg (Nat.lt_irrefl _), hR2, if_pos hpad]
  | succ f ih =>
    intro s le ld last out t g rest hf hg hd hl hsy hS ht hR
    by_cases hr0 : rest = []
    · subst hr0
      rw [List.append_nil] at hS
      subst hS
      have hR2 : R.drop t = pad := by rw [hR]; simp [encZ, bitsZ]
      cases g with
      | zero => unfold decZ; rw [hR2, if_pos hpad]
      | succ g => unfold decZ; rw [if_neg (Nat.lt_irrefl _), hR2, if_pos hpad]
    · have hsy := hsy hr0
      have hlen0 : 0 < rest.length := List.length_pos_iff.2 hr0
      obtain ⟨g, rfl⟩ : ∃ g', g = g' + 1 := ⟨g - 1, by omega⟩
      obtain ⟨r, h1, h2, h3⟩ := hd.lng_spec hr0
      have hne : r ≠ [] := hd.ne r (List.mem_of_getElem? h1)
      have hrl : 0 < r.length := List.length_pos_iff.2 hne
      have hrle := h2.length_le
      have hgd : le.getD (lng le rest) [] = r := by rw [List.getD_eq_getElem?_getD, h1]; rfl
      have hlt : lng le rest < le.length := (List.getElem?_eq_some_iff.1 h1).1
      have h65 : le.length ≤ 65536 := Nat.le_trans hl (by have : 2 ^ m ≤ 2 ^ 16 := Nat.pow_le_pow_right (by decide) h16
                                                          omega)
      have hw := widN_facts hd.len h65
      have hN := hd.next m h1 h2 h3 hl
      unfold encZ at hR
      rw [if_neg hr0, hgd] at hR
      have hR1 : R.drop t = bitsOf (lng le rest) (widN le.length) ++ (bitsZ (encZ m f (nextZ le rest r.length m) (rest.drop r.length)) ++ pad) := by
        rw [hR]; simp [bitsZ]
      have hT := take_in R t (widN le.length) _ _ hR1 (bitsOf_length _ _) (by omega) (by omega)
      rw [wordOf_bitsOf, Nat.mod_eq_of_lt (by omega)] at hT
      have hrows := sync_rows hsy
      have hst := sync_step hsy h1 hne h2
      unfold decZ
      have hSl : S.length = out.length + rest.length := by rw [hS]; simp
      rw [if_pos (by omega)]
      rw [hrows, hT]
      simp only []
      rw [if_neg (by simp), if_neg (by omega), hst.1, hst.2, if_neg (by omega)]
      have ht2 : t + widN le.length ≤ R.length := by
        have := congrArg List.length hR1
        simp only [List.length_drop, List.length_append, bitsOf_length] at this
        omega
      refine ih [] (nextZ le rest r.length m) le r (out ++ r) (t + widN le.length) g (rest.drop r.length) (by rw [List.length_drop]; omega) (by rw [List.length_drop]; omega) hN.1 hN.2.1 (fun hne2 => ?_) ?_ ht2 ?_
      · have hlt2 : r.length < rest.length := by
          refine Nat.lt_of_not_le fun hc => hne2 ?_
          exact List.drop_eq_nil_of_le hc
        unfold Sync nextZ
        refine Or.inr ⟨hne, ?_⟩
        by_cases hc : le.length < 2 ^ m
        · rw [if_pos ⟨hlt2, hc⟩]
          refine Or.inl ⟨rest[r.length], rest.drop (r.length + 1), ?_, ?_, hc⟩
          · exact List.drop_eq_getElem_cons hlt2
          · rw [List.take_succ_eq_append_getElem hlt2, ← List.prefix_iff_eq_take.1 h2]
        · rw [if_neg (fun e => hc e.2)]
          exact Or.inr ⟨rfl, by omega⟩
      · rw [hS, List.append_assoc]
        congr 1
        conv => lhs; rw [← List.take_append_drop r.length rest]
        rw [← List.prefix_iff_eq_take.1 h2]
      · rw [← List.drop_drop, hR1, List.drop_left' (bitsOf_length _ _)]
/-- The bytes of a text. -/
def enc60 (s : Row8) (m : Nat) : List UInt8 := pack (bitsZ (encZ m s.length freshR s))
theorem back60 {m : Nat} (h9 : 9 ≤ m) (h16 : m ≤ 16) (s : Row8) (h : (spread (enc60 s m)).length ≤ 1000000) (g : Nat) (hg : s.length ≤ g) : decZ (spread (enc60 s m)) s.length m g freshR [] [] 0 = (s, 0) := by
  obtain ⟨k, hk, h1, -⟩ := spread_pack (bitsZ (encZ m s.length freshR s))
  have h2 : 256 ≤ 2 ^ m := by
    have : 2 ^ 9 ≤ 2 ^ m := Nat.pow_le_pow_right (by decide) h9
    omega
  refine enc_dec60 h9 h16 _ (List.replicate k false) (by unfold okZ; simp [hk]) s h s.length [] freshR freshR [] [] 0 g s (Nat.le_refl _) hg dic_fresh (by rw [fresh_len]; exact h2) (fun _ => Or.inl ⟨rfl, rfl⟩) rfl (Nat.zero_le _) ?_
  rw [List.drop_zero]; exact h1
theorem encZ_widths {m : Nat} (h16 : m ≤ 16) : ∀ (f : Nat) (l : List Row8) (s : Row8), Dic l → l.length ≤ 2 ^ m → (encZ m f l s).length ≤ s.length ∧ ∀ p ∈ encZ m f l s, p.2 ≤ 16
  | 0, l, s, hd, hl => by simp [encZ]
  | f + 1, l, s, hd, hl => by
    unfold encZ
    by_cases hs : s = []
    · rw [if_pos hs]; simp
    · rw [if_neg hs]
      obtain ⟨r, h1, h2, h3⟩ := hd.lng_spec hs
      have hgd : l.getD (lng l s) [] = r := by rw [List.getD_eq_getElem?_getD, h1]; rfl
      have hrl : 0 < r.length := List.length_pos_iff.2 (hd.ne r (List.mem_of_getElem? h1))
      have hrle := h2.length_le
      have hN := hd.next m h1 h2 h3 hl
      have ih := encZ_widths h16 f (nextZ l s r.length m) (s.drop r.length) hN.1 hN.2.1
      rw [hgd]
      refine ⟨?_, fun p hp => ?_⟩
      · simp only [List.length_cons]
        have := ih.1
        rw [List.length_drop] at this
        omega
      · rcases List.mem_cons.1 hp with rfl | hp
        · exact (widN_facts hd.len (Nat.le_trans hl (by have : 2 ^ m ≤ 2 ^ 16 := Nat.pow_le_pow_right (by decide) h16
                                                        omega))).2.1
        · exact ih.2 p hp
end Go.Proofs.Ytplopddlpoffoaa
