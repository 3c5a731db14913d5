/- Layer 11: the mathematics of codes by two tables: what is looked up is what one table says. -/
import Derived.Test.YtbdhfmoididkgaaJ2
namespace Go.Proofs.Ytbdhfmoididkgaa.Two
set_option linter.unusedVariables false
set_option maxRecDepth 100000
open KraftMath CanonMath TurnMath Bits
/-- An entry: symbol, bits, far, from. -/
abbrev Ent := Int × Int × Bool × Int
def z0 : Ent := (0, 0, false, 0)
def look (short long : List Ent) (root w : Nat) : Int × Int :=
  let e := short.getD (w % 2 ^ root) z0
  let f := if e.2.2.1 = true then long.getD (e.2.2.2.toNat + w / 2 ^ root) z0 else e
  (f.1, f.2.1)
abbrev TT (l : List Int) (s : Nat) : Nat := turn (code l s) (len l s)
def fillE (tab : List Ent) (T q : Nat) (e : Ent) : List Ent := (List.range tab.length).map fun v => if v % q = T then e else tab.getD v z0
def segF (tab : List Ent) (base sz T q : Nat) (e : Ent) : List Ent := (List.range tab.length).map fun v => if base ≤ v ∧ v < base + sz ∧ (v - base) % q = T then e else tab.getD v z0
theorem fillE_len (tab : List Ent) (T q : Nat) (e : Ent) : (fillE tab T q e).length = tab.length := by simp [fillE]
theorem segF_len (tab : List Ent) (b sz T q : Nat) (e : Ent) : (segF tab b sz T q e).length = tab.length := by simp [segF]
theorem fillE_get (tab : List Ent) (T q : Nat) (e : Ent) (v : Nat) (h : v < tab.length) : (fillE tab T q e).getD v z0 = if v % q = T then e else tab.getD v z0 := by
  simp [fillE, List.getD_eq_getElem?_getD, h]
theorem segF_get (tab : List Ent) (b sz T q : Nat) (e : Ent) (v : Nat) (h : v < tab.length) : (segF tab b sz T q e).getD v z0 = if b ≤ v ∧ v < b + sz ∧ (v - b) % q = T then e else tab.getD v z0 := by
  simp [segF, List.getD_eq_getElem?_getD, h]
/-- No code begins another one. -/
theorem pf {l : List Int} (h : check l 16 = 0) {L s k : Nat} (hs : s < l.length) (hk : k < l.length) (hs0 : len l s ≠ 0) (hk0 : len l k ≠ 0) (hsL : len l s ≤ L) (hkL : len l k ≤ L) (hne : s ≠ k) (hle : len l k ≤ len l s) : TT l s % 2 ^ len l k ≠ TT l k := by
  intro e
  have h1 : Hit l (bitsOf (TT l s) L) s := (hitAt_iff hs).1 (by rw [hitAt_mod hsL, Nat.mod_eq_of_lt (turn_lt _ _)]; simp [hs0])
  have h2 : Hit l (bitsOf (TT l s) L) k := (hitAt_iff hk).1 (by rw [hitAt_mod hkL, e]; simp [hk0])
  exact hne (hit_one h h1 h2)
theorem seg_in (j SZ x : Nat) (hx : x < SZ) : j * SZ ≤ j * SZ + x ∧ j * SZ + x < j * SZ + SZ := ⟨by omega, by omega⟩
theorem seg_out (i j SZ x : Nat) (hx : x < SZ) (h : j ≠ i) : ¬ (i * SZ ≤ j * SZ + x ∧ j * SZ + x < i * SZ + SZ) := by
  rintro ⟨a, b⟩
  rcases Nat.lt_or_gt_of_ne h with hl | hg
  · have : (j + 1) * SZ ≤ i * SZ := Nat.mul_le_mul_right _ hl
    rw [Nat.add_mul, Nat.one_mul] at this
    omega
  · have : (i + 1) * SZ ≤ j * SZ := Nat.mul_le_mul_right _ hg
    rw [Nat.add_mul, Nat.one_mul] at this
    omega
structure Two (l : List Int) (L root k : Nat) (short long : List Ent) (hs : List Nat) : Prop where
  ls : short.length = 2 ^ root
  ll : long.length = hs.length * 2 ^ (L - root)
  nd : hs.Nodup
  lt : ∀ h ∈ hs, h < 2 ^ root
  nf : ∀ h, h < 2 ^ root → ¬ h ∈ hs → (short.getD h z0).2.2.1 = false
  fr : ∀ i (hi : i < hs.length), short.getD hs[i] z0 = (0, 0, true, ((i * 2 ^ (L - root) : Nat) : Int))
  lk : ∀ w, w < 2 ^ L → look short long root w = (((entK l L k w).1 : Int), ((entK l L k w).2 : Int))
  hd1 : ∀ s, s < k → root < len l s → TT l s % 2 ^ root ∈ hs
  hd2 : ∀ h ∈ hs, ∃ s, s < l.length ∧ root < len l s ∧ TT l s % 2 ^ root = h
section
variable {l : List Int} {L root k : Nat} {short long : List Ent} {hs : List Nat}
theorem two_zero (hr : root ≤ L) : Two l L root 0 (List.replicate (2 ^ root) z0) [] [] where
  ls := by simp
  ll := by simp
  nd := by simp
  lt := by simp
  nf := fun h hh _ => by simp [List.getD_eq_getElem?_getD, hh, z0]
  fr := fun i hi => by simp at hi
  lk := fun w hw => by
    have : w % 2 ^ root < 2 ^ root := Nat.mod_lt _ (Nat.pow_pos (by decide))
    simp [look, List.getD_eq_getElem?_getD, this, z0, entK]
  hd1 := fun s hs _ => by omega
  hd2 := by simp
theorem ent_step (h : check l 16 = 0) (hk : k < l.length) (hL : len l k ≤ L) (w : Nat) : entK l L (k + 1) w = if len l k ≠ 0 ∧ w % 2 ^ len l k = TT l k then (k, len l k) else entK l L k w := by
  rw [entK_succ h hk, hitAt_mod hL]
  by_cases h1 : len l k ≠ 0 <;> by_cases h2 : w % 2 ^ len l k = TT l k <;> simp [h1, h2]
theorem two_skip (t : Two l L root k short long hs) (h : check l 16 = 0) (hk : k < l.length) (h0 : len l k = 0) : Two l L root (k + 1) short long hs where
  ls := t.ls
  ll := t.ll
  nd := t.nd
  lt := t.lt
  nf := t.nf
  fr := t.fr
  lk := fun w hw => by rw [ent_step h hk (by omega), if_neg (by omega)]; exact t.lk w hw
  hd1 := fun s hs hr => by
    by_cases e : s = k
    · subst e; omega
    · exact t.hd1 s (by omega) hr
  hd2 := t.hd2
theorem mod_mod {w a b : Nat} (h : b ≤ a) : w % 2 ^ a % 2 ^ b = w % 2 ^ b := Nat.mod_mod_of_dvd w (Nat.pow_dvd_pow 2 h)
/-- A code that the first table has room for. -/
theorem two_short (t : Two l L root k short long hs) (h : check l 16 = 0) (hall : ∀ s, s < l.length → len l s ≤ L) (hk : k < l.length) (h0 : len l k ≠ 0) (hn : len l k ≤ root) (hr : root ≤ L) :
    Two l L root (k + 1) (fillE short (TT l k) (2 ^ len l k) ((k : Int), (len l k : Int), false, 0)) long hs := by
  have hno : ∀ hh ∈ hs, hh % 2 ^ len l k ≠ TT l k := fun hh hm e => by
    obtain ⟨s, s1, s2, s3⟩ := t.hd2 hh hm
    refine pf h s1 hk (by omega) h0 (hall s s1) (hall k hk) (by intro e2; subst e2; omega) (by omega) ?_
    rw [← mod_mod hn, s3]; exact e
  have hR : 0 < 2 ^ root := Nat.pow_pos (by decide)
  refine ⟨by rw [fillE_len]; exact t.ls, t.ll, t.nd, t.lt, fun hh h1 h2 => ?_, fun i hi => ?_, fun w hw => ?_, fun s hs hr => ?_, t.hd2⟩
  · rw [fillE_get _ _ _ _ _ (by rw [t.ls]; exact h1)]
    split
    · rfl
    · exact t.nf hh h1 h2
  · have hm := List.getElem_mem hi
    rw [fillE_get _ _ _ _ _ (by rw [t.ls]; exact t.lt _ hm), if_neg (hno _ hm)]
    exact t.fr i hi
  · have hwr : w % 2 ^ root < 2 ^ root := Nat.mod_lt _ hR
    have hold := t.lk w hw
    unfold look at hold ⊢
    rw [ent_step h hk (hall k hk), fillE_get _ _ _ _ _ (by rw [t.ls]; exact hwr), mod_mod hn]
    by_cases e : w % 2 ^ len l k = TT l k
    · rw [if_pos e, if_pos ⟨h0, e⟩]; rfl
    · rw [if_neg e, if_neg (fun hh => e hh.2)]; exact hold
  · by_cases e : s = k
    · subst e; omega
    · exact t.hd1 s (by omega) hr
/-- A head is opened. -/
theorem two_open (t : Two l L root k short long hs) (h : check l 16 = 0) (hall : ∀ s, s < l.length → len l s ≤ L) (hkl : k ≤ l.length) (hr : root ≤ L) (s : Nat) (hsl : s < l.length) (hsr : root < len l s) (hnew : ¬ TT l s % 2 ^ root ∈ hs) :
    Two l L root k (short.set (TT l s % 2 ^ root) (0, 0, true, (long.length : Int))) (long ++ List.replicate (2 ^ (L - root)) z0) (hs ++ [TT l s % 2 ^ root]) := by
  have hR : 0 < 2 ^ root := Nat.pow_pos (by decide)
  have hlt : TT l s % 2 ^ root < 2 ^ root := Nat.mod_lt _ hR
  obtain ⟨H, hH⟩ : ∃ H, TT l s % 2 ^ root = H := ⟨_, rfl⟩
  rw [hH] at hlt hnew ⊢
  have hset : ∀ v, (short.set H (0, 0, true, (long.length : Int))).getD v z0 = if H = v then (0, 0, true, (long.length : Int)) else short.getD v z0 := fun v => by
    rw [List.getD_eq_getElem?_getD, List.getElem?_set, List.getD_eq_getElem?_getD]
    by_cases e : H = v
    · rw [if_pos e, if_pos (by rw [t.ls]; exact hlt), if_pos e]; rfl
    · rw [if_neg e, if_neg e]
  have hP : 2 ^ L = 2 ^ (L - root) * 2 ^ root := by rw [← Nat.pow_add]; congr 1; omega
  refine ⟨by rw [List.length_set]; exact t.ls, by rw [List.length_append, List.length_append, t.ll, List.length_replicate, List.length_singleton, Nat.add_mul, Nat.one_mul], ?_, fun x hx => ?_, fun x h1 h2 => ?_, fun i hi => ?_, fun w hw => ?_, fun s' hs' hr' => List.mem_append_left _ (t.hd1 s' hs' hr'), fun x hx => ?_⟩
  · exact List.nodup_append.2 ⟨t.nd, by simp, fun a ha b hb => by
      obtain rfl : b = H := by simpa using hb
      intro e; subst e; exact hnew ha⟩
  · rcases List.mem_append.1 hx with hx | hx
    · exact t.lt x hx
    · obtain rfl : x = H := by simpa using hx
      exact hlt
  · rw [hset]
    have : ¬ H = x := fun e => h2 (by rw [← e]; simp)
    rw [if_neg this]
    exact t.nf x h1 (fun hm => h2 (List.mem_append_left _ hm))
  · rw [hset]
    by_cases e : i < hs.length
    · rw [List.getElem_append_left e]
      have : ¬ H = hs[i] := fun e2 => hnew (by rw [e2]; exact List.getElem_mem e)
      rw [if_neg this]; exact t.fr i e
    · have ei : i = hs.length := by simp at hi; omega
      subst ei
      rw [List.getElem_append_right (Nat.le_refl _)]
      simp [t.ll]
  · have hwr : w % 2 ^ root < 2 ^ root := Nat.mod_lt _ hR
    have hold := t.lk w hw
    have hwd : w / 2 ^ root < 2 ^ (L - root) := by
      rw [Nat.div_lt_iff_lt_mul hR, ← hP]; exact hw
    unfold look at hold ⊢
    rw [hset]
    by_cases e : H = w % 2 ^ root
    · have hz : entK l L k w = (0, 0) := by
        unfold entK
        cases hf : (List.range k).find? (hitAt l (bitsOf w L)) with
        | none => rfl
        | some q =>
          have h1 := List.find?_some hf
          have h2 := List.mem_range.1 (List.mem_of_find?_eq_some hf)
          have hql : q < l.length := by omega
          rw [hitAt_mod (hall q hql)] at h1
          simp only [Bool.and_eq_true, decide_eq_true_eq] at h1
          by_cases hq : root < len l q
          · exfalso
            apply hnew
            have := t.hd1 q h2 hq
            have e3 : w % 2 ^ len l q % 2 ^ root = w % 2 ^ root := mod_mod (by omega)
            rw [h1.2, ← e] at e3
            rw [← e3]; exact this
          · exfalso
            refine pf h hsl hql (by omega) h1.1 (hall s hsl) (hall q hql) (by intro e2; subst e2; omega) (by omega) ?_
            rw [← mod_mod (show len l q ≤ root by omega), hH, e, mod_mod (by omega)]
            exact h1.2
      rw [if_pos e, hz]
      simp only [if_true]
      rw [List.getD_eq_getElem?_getD, List.getElem?_append_right (by simp)]
      simp [hwd, z0]
    · rw [if_neg e]
      by_cases hm : w % 2 ^ root ∈ hs
      · obtain ⟨i, hi, e2⟩ := List.mem_iff_getElem.1 hm
        have hf := t.fr i hi
        rw [e2] at hf
        rw [hf] at hold ⊢
        simp only [if_true] at hold ⊢
        have hb : i * 2 ^ (L - root) + w / 2 ^ root < long.length := by
          rw [t.ll]
          calc _ < i * 2 ^ (L - root) + 2 ^ (L - root) := by omega
            _ = (i + 1) * 2 ^ (L - root) := by rw [Nat.add_mul, Nat.one_mul]
            _ ≤ _ := Nat.mul_le_mul_right _ hi
        rw [Int.toNat_natCast] at hold ⊢
        rw [List.getD_eq_getElem?_getD, List.getElem?_append_left hb, ← List.getD_eq_getElem?_getD]
        exact hold
      · have := t.nf _ hwr hm
        simp only [this, Bool.false_eq_true, if_false] at hold ⊢
        exact hold
  · rcases List.mem_append.1 hx with hx | hx
    · exact t.hd2 x hx
    · obtain rfl : x = H := by simpa using hx
      exact ⟨s, hsl, hsr, hH⟩
theorem split_mod (w a b : Nat) (h : a ≤ b) : w % 2 ^ b = w % 2 ^ a + 2 ^ a * (w / 2 ^ a % 2 ^ (b - a)) := by
  have e : 2 ^ b = 2 ^ a * 2 ^ (b - a) := by rw [← Nat.pow_add]; congr 1; omega
  rw [e, Nat.mod_mul]
/-- A code whose head is far. -/
theorem two_far (t : Two l L root k short long hs) (h : check l 16 = 0) (hall : ∀ s, s < l.length → len l s ≤ L) (hk : k < l.length) (hn : root < len l k) (hr : root ≤ L) (i : Nat) (hi : i < hs.length) (hh : hs[i] = TT l k % 2 ^ root) :
    Two l L root (k + 1) short (segF long (i * 2 ^ (L - root)) (2 ^ (L - root)) (TT l k / 2 ^ root) (2 ^ (len l k - root)) ((k : Int), (len l k : Int), false, 0)) hs := by
  have hR : 0 < 2 ^ root := Nat.pow_pos (by decide)
  have hP : 2 ^ L = 2 ^ (L - root) * 2 ^ root := by rw [← Nat.pow_add]; congr 1; omega
  have hTl : TT l k < 2 ^ len l k := turn_lt _ _
  refine ⟨t.ls, by rw [segF_len]; exact t.ll, t.nd, t.lt, t.nf, t.fr, fun w hw => ?_, fun s hs' hr' => ?_, t.hd2⟩
  · have hwr : w % 2 ^ root < 2 ^ root := Nat.mod_lt _ hR
    have hwd : w / 2 ^ root < 2 ^ (L - root) := by rw [Nat.div_lt_iff_lt_mul hR, ← hP]; exact hw
    have hold := t.lk w hw
    have hmod : w % 2 ^ len l k = TT l k ↔ w % 2 ^ root = TT l k % 2 ^ root ∧ w / 2 ^ root % 2 ^ (len l k - root) = TT l k / 2 ^ root := by
      have e1 := split_mod w root (len l k) (by omega)
      have e2 := Nat.mod_add_div (TT l k) (2 ^ root)
      constructor
      · intro e
        rw [e] at e1
        have m1 : w % 2 ^ root = TT l k % 2 ^ root := by rw [← e, mod_mod (by omega)]
        refine ⟨m1, ?_⟩
        have : 2 ^ root * (w / 2 ^ root % 2 ^ (len l k - root)) = 2 ^ root * (TT l k / 2 ^ root) := by omega
        exact Nat.eq_of_mul_eq_mul_left hR this
      · rintro ⟨m1, m2⟩
        rw [e1, m1, m2]; exact e2
    unfold look at hold ⊢
    rw [ent_step h hk (hall k hk)]
    by_cases hm : w % 2 ^ root ∈ hs
    · obtain ⟨j, hj, e2⟩ := List.mem_iff_getElem.1 hm
      have hf := t.fr j hj
      rw [e2] at hf
      rw [hf] at hold ⊢
      simp only [if_true] at hold ⊢
      rw [Int.toNat_natCast] at hold ⊢
      have hb : j * 2 ^ (L - root) + w / 2 ^ root < long.length := by
        rw [t.ll]
        calc _ < j * 2 ^ (L - root) + 2 ^ (L - root) := by omega
          _ = (j + 1) * 2 ^ (L - root) := by rw [Nat.add_mul, Nat.one_mul]
          _ ≤ _ := Nat.mul_le_mul_right _ hj
      rw [segF_get _ _ _ _ _ _ _ hb]
      by_cases hji : j = i
      · subst hji
        rw [hh] at e2
        by_cases e : w / 2 ^ root % 2 ^ (len l k - root) = TT l k / 2 ^ root
        · rw [if_pos ⟨(seg_in j _ _ hwd).1, (seg_in j _ _ hwd).2, by rw [Nat.add_sub_cancel_left]; exact e⟩, if_pos ⟨by omega, hmod.2 ⟨e2.symm, e⟩⟩]
        · rw [if_neg (fun hx => e (by rw [Nat.add_sub_cancel_left] at hx; exact hx.2.2)), if_neg (fun hx => e (hmod.1 hx.2).2)]
          exact hold
      · have hne : ¬ w % 2 ^ root = TT l k % 2 ^ root := fun e => hji ((List.getElem_inj t.nd).1 (by rw [e2, hh, e]))
        rw [if_neg (fun hx => ?_), if_neg (fun hx => hne (hmod.1 hx.2).1)]
        · exact hold
        · exact seg_out i j _ _ hwd hji ⟨hx.1, hx.2.1⟩
    · have hnf := t.nf _ hwr hm
      have hne : ¬ (len l k ≠ 0 ∧ w % 2 ^ len l k = TT l k) := fun hx => hm (by rw [(hmod.1 hx.2).1, ← hh]; exact List.getElem_mem hi)
      simp only [hnf, Bool.false_eq_true, if_false] at hold ⊢
      rw [if_neg hne]
      exact hold
  · by_cases e : s = k
    · subst e; rw [← hh]; exact List.getElem_mem hi
    · exact t.hd1 s (by omega) hr'
end
end Go.Proofs.Ytbdhfmoididkgaa.Two
