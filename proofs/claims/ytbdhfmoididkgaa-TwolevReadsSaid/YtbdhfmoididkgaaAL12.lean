/- Layer 11: how many heads there are: as the order of symbols meets them. -/
import Derived.Test.YtbdhfmoididkgaaAL1
import Derived.Test.YtbdhfmoididkgaaE4
namespace Go.Proofs.Ytbdhfmoididkgaa.Two
set_option linter.unusedVariables false
set_option maxRecDepth 100000
open KraftMath CanonMath TurnMath Bits
theorem nodup_sub : ∀ (a b : List Nat), a.Nodup → (∀ x ∈ a, x ∈ b) → a.length ≤ b.length
  | [], b, _, _ => by simp
  | x :: a, b, hn, h => by
    have hn2 := List.nodup_cons.1 hn
    have h1 := nodup_sub a (b.erase x) hn2.2 (fun y hy => by
      refine (List.mem_erase_of_ne (fun e => ?_)).2 (h y (by simp [hy]))
      subst e; exact hn2.1 hy)
    have h2 := List.length_erase_of_mem (h x (by simp))
    have h3 := List.length_pos_of_mem (h x (by simp))
    simp only [List.length_cons]; omega
def head (l : List Int) (root s : Nat) : Nat := code l s / 2 ^ (len l s - root)
theorem head_turn (c n root : Nat) (h : root ≤ n) : turn c n % 2 ^ root = turn (c / 2 ^ (n - root)) root := by
  apply Nat.eq_of_testBit_eq
  intro i
  rw [Nat.testBit_mod_two_pow, turn_bit, turn_bit, Nat.testBit_div_two_pow]
  by_cases hi : i < root
  · have e : root - 1 - i + (n - root) = n - 1 - i := by omega
    simp [hi, e, show i < n by omega]
  · simp [hi]
theorem head_mono (l : List Int) (root s t : Nat) (hr : root < len l s) (h1 : len l s ≤ len l t) (h2 : code l t = (code l s + 1) * 2 ^ (len l t - len l s)) : head l root s ≤ head l root t := by
  obtain ⟨d, hd⟩ : ∃ d, len l t - len l s = d := ⟨_, rfl⟩
  have e0 : len l t - root = (len l s - root) + d := by omega
  unfold head
  rw [hd] at h2
  rw [h2, e0, Nat.pow_add, Nat.mul_div_mul_right _ _ (Nat.pow_pos (by decide))]
  exact Nat.div_le_div_right (Nat.le_succ _)
def lastI (x : List Nat) : Int := match x.getLast? with
  | some y => (y : Int)
  | none => -1
def metH (l : List Int) (root : Nat) : Nat → List Nat
  | 0 => []
  | i + 1 => let s := (ord l).getD i 0
    if len l s ≤ root then metH l root i else if (head l root s : Int) = lastI (metH l root i) then metH l root i else metH l root i ++ [head l root s]
theorem seen_len (l : List Int) (root i : Nat) : (metH l root i).length ≤ i := by
  induction i with
  | zero => simp [metH]
  | succ i ih =>
    simp only [metH]
    split
    · omega
    · split
      · omega
      · simp; omega
theorem le_last : ∀ (x : List Nat) (m : Nat), x.Pairwise (· < ·) → x.getLast? = some m → ∀ y ∈ x, y ≤ m
  | [], m, _, h, y, hy => by simp at hy
  | [a], m, _, h, y, hy => by simp at h hy; omega
  | a :: b :: x, m, hp, h, y, hy => by
    have hp2 := List.pairwise_cons.1 hp
    have h2 : (b :: x).getLast? = some m := by simpa using h
    have ih := le_last (b :: x) m hp2.2 h2
    rcases List.mem_cons.1 hy with e | e
    · subst e
      have h3 := hp2.1 b (by simp)
      have h4 := ih b (by simp)
      omega
    · exact ih y e
structure Inv (l : List Int) (root i : Nat) (x : List Nat) : Prop where
  up : x.Pairwise (· < ·)
  frm : ∀ y ∈ x, ∃ s, s < l.length ∧ root < len l s ∧ y = head l root s
  all : ∀ j, j < i → ∀ s, (ord l)[j]? = some s → root < len l s → head l root s ∈ x
  zero : i = 0 → x = []
  low : ∀ s, 0 < i → (ord l)[i - 1]? = some s → len l s ≤ root → x = []
  top : ∀ s, 0 < i → (ord l)[i - 1]? = some s → root < len l s → x.getLast? = some (head l root s)
set_option maxHeartbeats 1000000 in
theorem inv_step (l : List Int) (root i : Nat) (hi : i + 1 ≤ (ord l).length) (ih : Inv l root i (metH l root i)) : Inv l root (i + 1) (metH l root (i + 1)) := by
    obtain ⟨O, hO⟩ : ∃ O, ord l = O := ⟨_, rfl⟩
    obtain ⟨t, ht⟩ : ∃ t, (ord l)[i]? = some t := ⟨_, List.getElem?_eq_getElem (by omega)⟩
    have hd : (ord l).getD i 0 = t := by rw [List.getD_eq_getElem?_getD, ht]; rfl
    obtain ⟨p1, p2, p3, p4, -⟩ := pos_of_get l i t ht
    have huniq : ∀ s, (ord l)[i + 1 - 1]? = some s → s = t := fun s hs => by
      rw [show i + 1 - 1 = i from rfl, ht] at hs; exact (Option.some.inj hs).symm
    have hprev : ∀ s, 0 < i → (ord l)[i - 1]? = some s → len l s ≤ len l t ∧ code l t = (code l s + 1) * 2 ^ (len l t - len l s) := fun s h0 hs => by
      have := code_next l (i - 1) s t hs (by rw [show i - 1 + 1 = i by omega]; exact ht)
      exact this
    unfold metH
    simp only [hd]
    by_cases h1 : len l t ≤ root
    · rw [if_pos h1]
      have hnil : metH l root i = [] := by
        rcases Nat.eq_zero_or_pos i with h0 | h0
        · exact ih.zero h0
        · obtain ⟨s, hs⟩ : ∃ s, (ord l)[i - 1]? = some s := ⟨_, List.getElem?_eq_getElem (by omega)⟩
          exact ih.low s h0 hs (by have := (hprev s h0 hs).1; omega)
      refine ⟨ih.up, ih.frm, fun j hj s hs hr => ?_, fun h => by omega, fun s _ hs _ => hnil, fun s _ hs hr => ?_⟩
      · by_cases e : j = i
        · subst e
          rw [ht] at hs; injection hs with e; subst e; omega
        · exact ih.all j (by omega) s hs hr
      · rw [huniq s hs] at hr; omega
    · rw [if_neg h1]
      have hle : ∀ y ∈ metH l root i, y ≤ head l root t := by
        rcases Nat.eq_zero_or_pos i with h0 | h0
        · rw [ih.zero h0]; simp
        · obtain ⟨s, hs⟩ : ∃ s, (ord l)[i - 1]? = some s := ⟨_, List.getElem?_eq_getElem (by omega)⟩
          by_cases hr : root < len l s
          · obtain ⟨q1, q2⟩ := hprev s h0 hs
            intro y hy
            have hm := le_last _ _ ih.up (ih.top s h0 hs hr) y hy
            refine Nat.le_trans hm ?_
            exact head_mono l root s t hr q1 q2
          · rw [ih.low s h0 hs (by omega)]; simp
      by_cases h2 : (head l root t : Int) = lastI (metH l root i)
      · rw [if_pos h2]
        have htop : (metH l root i).getLast? = some (head l root t) := by
          unfold lastI at h2
          cases hl : (metH l root i).getLast? with
          | none => rw [hl] at h2; simp only at h2; omega
          | some y => rw [hl] at h2; simp only at h2; congr 1; omega
        refine ⟨ih.up, ih.frm, fun j hj s hs hr => ?_, fun h => by omega, fun s _ hs hr => ?_, fun s _ hs hr => ?_⟩
        · by_cases e : j = i
          · subst e
            rw [ht] at hs; injection hs with e; subst e
            exact List.mem_of_getLast? htop
          · exact ih.all j (by omega) s hs hr
        · rw [huniq s hs] at hr; omega
        · rw [huniq s hs]; exact htop
      · rw [if_neg h2]
        have hlt : ∀ y ∈ metH l root i, y < head l root t := fun y hy => by
          have h3 := hle y hy
          rcases Nat.lt_or_ge y (head l root t) with h | h
          · exact h
          · exfalso
            apply h2
            have e : y = head l root t := by omega
            cases hl : (metH l root i).getLast? with
            | none =>
              rw [List.getLast?_eq_none_iff] at hl
              rw [hl] at hy; simp at hy
            | some m =>
              have h4 := le_last _ _ ih.up hl y hy
              have h5 := hle m (List.mem_of_getLast? hl)
              unfold lastI
              rw [hl]
              simp only
              omega
        refine ⟨List.pairwise_append.2 ⟨ih.up, by simp, fun a ha b hb => ?_⟩, fun y hy => ?_, fun j hj s hs hr => ?_, fun h => by omega, fun s _ hs hr => ?_, fun s _ hs hr => ?_⟩
        · obtain rfl : b = head l root t := by simpa using hb
          exact hlt a ha
        · rcases List.mem_append.1 hy with hy | hy
          · exact ih.frm y hy
          · exact ⟨t, p1, by omega, by simpa using hy⟩
        · by_cases e : j = i
          · subst e
            rw [ht] at hs; injection hs with e; subst e; simp
          · exact List.mem_append_left _ (ih.all j (by omega) s hs hr)
        · rw [huniq s hs] at hr; omega
        · rw [huniq s hs]; simp
theorem inv_seen (l : List Int) (root : Nat) (i : Nat) (hi : i ≤ (ord l).length) : Inv l root i (metH l root i) := by
  induction i with
  | zero => exact ⟨by simp [metH], by simp [metH], fun j hj => by omega, fun _ => rfl, fun s h => by omega, fun s h => by omega⟩
  | succ i ih => exact inv_step l root i hi (ih (by omega))
theorem seen_heads {l : List Int} {L root : Nat} {short long : List Ent} {hs : List Nat} (t : Two l L root l.length short long hs) (h : check l 16 = 0) : (metH l root (ord l).length).length = hs.length := by
  have iv := inv_seen l root (ord l).length (Nat.le_refl _)
  have hinj : ∀ s, s < l.length → root < len l s → head l root s < 2 ^ root := fun s h1 h2 => by
    have := ok_c h h1
    show code l s / 2 ^ (len l s - root) < 2 ^ root
    rw [Nat.div_lt_iff_lt_mul (Nat.pow_pos (by decide)), ← Nat.pow_add, show root + (len l s - root) = len l s by omega]
    exact this
  have htt : ∀ s, root < len l s → TT l s % 2 ^ root = turn (head l root s) root := fun s h1 => head_turn _ _ _ (by omega)
  have hnd : (metH l root (ord l).length).Nodup := iv.up.imp (fun h => Nat.ne_of_lt h)
  apply Nat.le_antisymm
  · have h1 := nodup_sub ((metH l root (ord l).length).map (turn · root)) hs ?_ ?_
    · simpa using h1
    · rw [List.Nodup, List.pairwise_map]
      refine List.Pairwise.imp_of_mem (fun {a b} ha hb hab => ?_) hnd
      obtain ⟨s, s1, s2, rfl⟩ := iv.frm a ha
      obtain ⟨u, u1, u2, rfl⟩ := iv.frm b hb
      intro e
      apply hab
      rw [← turn_turn _ root (hinj s s1 s2), e, turn_turn _ root (hinj u u1 u2)]
    · intro x hx
      obtain ⟨y, hy, rfl⟩ := List.mem_map.1 hx
      obtain ⟨s, s1, s2, rfl⟩ := iv.frm y hy
      rw [← htt s s2]
      exact t.hd1 s s1 s2
  · have h1 := nodup_sub hs ((metH l root (ord l).length).map (turn · root)) t.nd ?_
    · simpa using h1
    · intro x hx
      obtain ⟨s, s1, s2, s3⟩ := t.hd2 x hx
      refine List.mem_map.2 ⟨head l root s, ?_, by rw [← s3, htt s s2]⟩
      have hb := ok_b h s s1
      have hm := (mem_ord l s).2 ⟨s1, by omega, hb.2, by unfold len at s2; omega⟩
      obtain ⟨j, hj, e⟩ := List.mem_iff_getElem.1 hm
      exact iv.all j hj s (by rw [List.getElem?_eq_getElem hj, e]) s2
end Go.Proofs.Ytbdhfmoididkgaa.Two
