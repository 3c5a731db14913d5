import Derived.Test.YtipcdkemokkdfaaGreatK25
import Derived.Test.YtipcdkemokkdfaaGreatK16
import Derived.Test.YtipcdkemokkdfaaGreatK08
import Derived.Lib.AppendZerosOnto
import Derived.StillTailTactics
/- Layer 11: the mathematics of codes by two tables: what is looked up is what one table says. -/
namespace Go.Proofs.YtipcdkemokkdfaaGreat.Two
set_option linter.unusedVariables false
set_option maxRecDepth 100000
open KraftMath CanonMath TurnMath Bits
/-- An entry: symbol, bits, far, from. -/
abbrev Ent := Int × Int × Bool × Int
def z0 : Ent := (0, 0, false, 0)
def look (short long : List Ent) (root w : Nat) : Int × Int :=
  let e := short.getD (w % 2 ^ root) z0
  let f := if e.2.2.1 = true then long.getD (e.2.2.2.toNat + w / 2 ^ root) z0 else e
  (f.1, f.2.1)
abbrev TT (l : List Int) (s : Nat) : Nat := turn (code l s) (len l s)
def fillE (tab : List Ent) (T q : Nat) (e : Ent) : List Ent := (List.range tab.length).map fun v => if v % q = T then e else tab.getD v z0
def segF (tab : List Ent) (base sz T q : Nat) (e : Ent) : List Ent := (List.range tab.length).map fun v => if base ≤ v ∧ v < base + sz ∧ (v - base) % q = T then e else tab.getD v z0
theorem fillE_len (tab : List Ent) (T q : Nat) (e : Ent) : (fillE tab T q e).length = tab.length := by simp [fillE]
theorem segF_len (tab : List Ent) (b sz T q : Nat) (e : Ent) : (segF tab b sz T q e).length = tab.length := by simp [segF]
theorem fillE_get (tab : List Ent) (T q : Nat) (e : Ent) (v : Nat) (h : v < tab.length) : (fillE tab T q e).getD v z0 = if v % q = T then e else tab.getD v z0 := by
  simp [fillE, List.getD_eq_getElem?_getD, h]
theorem segF_get (tab : List Ent) (b sz T q : Nat) (e : Ent) (v : Nat) (h : v < tab.length) : (segF tab b sz T q e).getD v z0 = if b ≤ v ∧ v < b + sz ∧ (v - b) % q = T then e else tab.getD v z0 := by
  simp [segF, List.getD_eq_getElem?_getD, h]
/-- No code begins another one. -/
theorem pf {l : List Int} (h : check l 16 = 0) {L s k : Nat} (hs : s < l.length) (hk : k < l.length) (hs0 : len l s ≠ 0) (hk0 : len l k ≠ 0) (hsL : len l s ≤ L) (hkL : len l k ≤ L) (hne : s ≠ k) (hle : len l k ≤ len l s) : TT l s % 2 ^ len l k ≠ TT l k := by
  intro e
  have h1 : Hit l (bitsOf (TT l s) L) s := (hitAt_iff hs).1 (by rw [hitAt_mod hsL, Nat.mod_eq_of_lt (turn_lt _ _)]; simp [hs0])
  have h2 : Hit l (bitsOf (TT l s) L) k := (hitAt_iff hk).1 (by rw [hitAt_mod hkL, e]; simp [hk0])
  exact hne (hit_one h h1 h2)
theorem seg_in (j SZ x : Nat) (hx : x < SZ) : j * SZ ≤ j * SZ + x ∧ j * SZ + x < j * SZ + SZ := ⟨by omega, by omega⟩
theorem seg_out (i j SZ x : Nat) (hx : x < SZ) (h : j ≠ i) : ¬ (i * SZ ≤ j * SZ + x ∧ j * SZ + x < i * SZ + SZ) := by
  rintro ⟨a, b⟩
  rcases Nat.lt_or_gt_of_ne h with hl | hg
  · have : (j + 1) * SZ ≤ i * SZ := Nat.mul_le_mul_right _ hl
    rw [Nat.add_mul, Nat.one_mul] at this
    omega
  · have : (i + 1) * SZ ≤ j * SZ := Nat.mul_le_mul_right _ hg
    rw [Nat.add_mul, Nat.one_mul] at this
    omega
structure Two (l : List Int) (L root k : Nat) (short long : List Ent) (hs : List Nat) : Prop where
  ls : short.length = 2 ^ root
  ll : long.length = hs.length * 2 ^ (L - root)
  nd : hs.Nodup
  lt : ∀ h ∈ hs, h < 2 ^ root
  nf : ∀ h, h < 2 ^ root → ¬ h ∈ hs → (short.getD h z0).2.2.1 = false
  fr : ∀ i (hi : i < hs.length), short.getD hs[i] z0 = (0, 0, true, ((i * 2 ^ (L - root) : Nat) : Int))
  lk : ∀ w, w < 2 ^ L → look short long root w = (((entK l L k w).1 : Int), ((entK l L k w).2 : Int))
  hd1 : ∀ s, s < k → root < len l s → TT l s % 2 ^ root ∈ hs
  hd2 : ∀ h ∈ hs, ∃ s, s < l.length ∧ root < len l s ∧ TT l s % 2 ^ root = h
section
variable {l : List Int} {L root k : Nat} {short long : List Ent} {hs : List Nat}
theorem two_zero (hr : root ≤ L) : Two l L root 0 (List.replicate (2 ^ root) z0) [] [] where
  ls := by simp
  ll := by simp
  nd := by simp
  lt := by simp
  nf := fun h hh _ => by simp [List.getD_eq_getElem?_getD, hh, z0]
  fr := fun i hi => by simp at hi
  lk := fun w hw => by
    have : w % 2 ^ root < 2 ^ root := Nat.mod_lt _ (Nat.pow_pos (by decide))
    simp [look, List.getD_eq_getElem?_getD, this, z0, entK]
  hd1 := fun s hs _ => by omega
  hd2 := by simp
theorem ent_step (h : check l 16 = 0) (hk : k < l.length) (hL : len l k ≤ L) (w : Nat) : entK l L (k + 1) w = if len l k ≠ 0 ∧ w % 2 ^ len l k = TT l k then (k, len l k) else entK l L k w := by
  rw [entK_succ h hk, hitAt_mod hL]
  by_cases h1 : len l k ≠ 0 <;> by_cases h2 : w % 2 ^ len l k = TT l k <;> simp [h1, h2]
theorem two_skip (t : Two l L root k short long hs) (h : check l 16 = 0) (hk : k < l.length) (h0 : len l k = 0) : Two l L root (k + 1) short long hs where
  ls := t.ls
  ll := t.ll
  nd := t.nd
  lt := t.lt
  nf := t.nf
  fr := t.fr
  lk := fun w hw => by rw [ent_step h hk (by omega), if_neg (by omega)]; exact t.lk w hw
  hd1 := fun s hs hr => by
    by_cases e : s = k
    · subst e; omega
    · exact t.hd1 s (by omega) hr
  hd2 := t.hd2
theorem mod_mod {w a b : Nat} (h : b ≤ a) : w % 2 ^ a % 2 ^ b = w % 2 ^ b := Nat.mod_mod_of_dvd w (Nat.pow_dvd_pow 2 h)
/-- A code that the first table has room for. -/
theorem two_short (t : Two l L root k short long hs) (h : check l 16 = 0) (hall : ∀ s, s < l.length → len l s ≤ L) (hk : k < l.length) (h0 : len l k ≠ 0) (hn : len l k ≤ root) (hr : root ≤ L) :
    Two l L root (k + 1) (fillE short (TT l k) (2 ^ len l k) ((k : Int), (len l k : Int), false, 0)) long hs := by
  have hno : ∀ hh ∈ hs, hh % 2 ^ len l k ≠ TT l k := fun hh hm e => by
    obtain ⟨s, s1, s2, s3⟩ := t.hd2 hh hm
    refine pf h s1 hk (by omega) h0 (hall s s1) (hall k hk) (by intro e2; subst e2; omega) (by omega) ?_
    rw [← mod_mod hn, s3]; exact e
  have hR : 0 < 2 ^ root := Nat.pow_pos (by decide)
  refine ⟨by rw [fillE_len]; exact t.ls, t.ll, t.nd, t.lt, fun hh h1 h2 => ?_, fun i hi => ?_, fun w hw => ?_, fun s hs hr => ?_, t.hd2⟩
  · rw [fillE_get _ _ _ _ _ (by rw [t.ls]; exact h1)]
    split
    · rfl
    · exact t.nf hh h1 h2
  · have hm := List.getElem_mem hi
    rw [fillE_get _ _ _ _ _ (by rw [t.ls]; exact t.lt _ hm), if_neg (hno _ hm)]
    exact t.fr i hi
  · have hwr : w % 2 ^ root < 2 ^ root := Nat.mod_lt _ hR
    have hold := t.lk w hw
    unfold look at hold ⊢
    rw [ent_step h hk (hall k hk), fillE_get _ _ _ _ _ (by rw [t.ls]; exact hwr), mod_mod hn]
    by_cases e : w % 2 ^ len l k = TT l k
    · rw [if_pos e, if_pos ⟨h0, e⟩]; rfl
    · rw [if_neg e, if_neg (fun hh => e hh.2)]; exact hold
  · by_cases e : s = k
    · subst e; omega
    · exact t.hd1 s (by omega) hr
/-- A head is opened. -/
theorem two_open (t : Two l L root k short long hs) (h : check l 16 = 0) (hall : ∀ s, s < l.length → len l s ≤ L) (hkl : k ≤ l.length) (hr : root ≤ L) (s : Nat) (hsl : s < l.length) (hsr : root < len l s) (hnew : ¬ TT l s % 2 ^ root ∈ hs) :
    Two l L root k (short.set (TT l s % 2 ^ root) (0, 0, true, (long.length : Int))) (long ++ List.replicate (2 ^ (L - root)) z0) (hs ++ [TT l s % 2 ^ root]) := by
  have hR : 0 < 2 ^ root := Nat.pow_pos (by decide)
  have hlt : TT l s % 2 ^ root < 2 ^ root := Nat.mod_lt _ hR
  obtain ⟨H, hH⟩ : ∃ H, TT l s % 2 ^ root = H := ⟨_, rfl⟩
  rw [hH] at hlt hnew ⊢
  have hset : ∀ v, (short.set H (0, 0, true, (long.length : Int))).getD v z0 = if H = v then (0, 0, true, (long.length : Int)) else short.getD v z0 := fun v => by
    rw [List.getD_eq_getElem?_getD, List.getElem?_set, List.getD_eq_getElem?_getD]
    by_cases e : H = v
    · rw [if_pos e, if_pos (by rw [t.ls]; exact hlt), if_pos e]; rfl
    · rw [if_neg e, if_neg e]
  have hP : 2 ^ L = 2 ^ (L - root) * 2 ^ root := by rw [← Nat.pow_add]; congr 1; omega
  refine ⟨by rw [List.length_set]; exact t.ls, by rw [List.length_append, List.length_append, t.ll, List.length_replicate, List.length_singleton, Nat.add_mul, Nat.one_mul], ?_, fun x hx => ?_, fun x h1 h2 => ?_, fun i hi => ?_, fun w hw => ?_, fun s' hs' hr' => List.mem_append_left _ (t.hd1 s' hs' hr'), fun x hx => ?_⟩
  · exact List.nodup_append.2 ⟨t.nd, by simp, fun a ha b hb => by
      obtain rfl : b = H := by simpa using hb
      intro e; subst e; exact hnew ha⟩
  · rcases List.mem_append.1 hx with hx | hx
    · exact t.lt x hx
    · obtain rfl : x = H := by simpa using hx
      exact hlt
  · rw [hset]
    have : ¬ H = x := fun e => h2 (by rw [← e]; simp)
    rw [if_neg this]
    exact t.nf x h1 (fun hm => h2 (List.mem_append_left _ hm))
  · rw [hset]
    by_cases e : i < hs.length
    · rw [List.getElem_append_left e]
      have : ¬ H = hs[i] := fun e2 => hnew (by rw [e2]; exact List.getElem_mem e)
      rw [if_neg this]; exact t.fr i e
    · have ei : i = hs.length := by simp at hi; omega
      subst ei
      rw [List.getElem_append_right (Nat.le_refl _)]
      simp [t.ll]
  · have hwr : w % 2 ^ root < 2 ^ root := Nat.mod_lt _ hR
    have hold := t.lk w hw
    have hwd : w / 2 ^ root < 2 ^ (L - root) := by
      rw [Nat.div_lt_iff_lt_mul hR, ← hP]; exact hw
    unfold look at hold ⊢
    rw [hset]
    by_cases e : H = w % 2 ^ root
    · have hz : entK l L k w = (0, 0) := by
        unfold entK
        cases hf : (List.range k).find? (hitAt l (bitsOf w L)) with
        | none => rfl
        | some q =>
          have h1 := List.find?_some hf
          have h2 := List.mem_range.1 (List.mem_of_find?_eq_some hf)
          have hql : q < l.length := by omega
          rw [hitAt_mod (hall q hql)] at h1
          simp only [Bool.and_eq_true, decide_eq_true_eq] at h1
          by_cases hq : root < len l q
          · exfalso
            apply hnew
            have := t.hd1 q h2 hq
            have e3 : w % 2 ^ len l q % 2 ^ root = w % 2 ^ root := mod_mod (by omega)
            rw [h1.2, ← e] at e3
            rw [← e3]; exact this
          · exfalso
            refine pf h hsl hql (by omega) h1.1 (hall s hsl) (hall q hql) (by intro e2; subst e2; omega) (by omega) ?_
            rw [← mod_mod (show len l q ≤ root by omega), hH, e, mod_mod (by omega)]
            exact h1.2
      rw [if_pos e, hz]
      simp only [if_true]
      rw [List.getD_eq_getElem?_getD, List.getElem?_append_right (by simp)]
      simp [hwd, z0]
    · rw [if_neg e]
      by_cases hm : w % 2 ^ root ∈ hs
      · obtain ⟨i, hi, e2⟩ := List.mem_iff_getElem.1 hm
        have hf := t.fr i hi
        rw [e2] at hf
        rw [hf] at hold ⊢
        simp only [if_true] at hold ⊢
        have hb : i * 2 ^ (L - root) + w / 2 ^ root < long.length := by
          rw [t.ll]
          calc _ < i * 2 ^ (L - root) + 2 ^ (L - root) := by omega
            _ = (i + 1) * 2 ^ (L - root) := by rw [Nat.add_mul, Nat.one_mul]
            _ ≤ _ := Nat.mul_le_mul_right _ hi
        rw [Int.toNat_natCast] at hold ⊢
        rw [List.getD_eq_getElem?_getD, List.getElem?_append_left hb, ← List.getD_eq_getElem?_getD]
        exact hold
      · have := t.nf _ hwr hm
        simp only [this, Bool.false_eq_true, if_false] at hold ⊢
        exact hold
  · rcases List.mem_append.1 hx with hx | hx
    · exact t.hd2 x hx
    · obtain rfl : x = H := by simpa using hx
      exact ⟨s, hsl, hsr, hH⟩
theorem split_mod (w a b : Nat) (h : a ≤ b) : w % 2 ^ b = w % 2 ^ a + 2 ^ a * (w / 2 ^ a % 2 ^ (b - a)) := by
  have e : 2 ^ b = 2 ^ a * 2 ^ (b - a) := by rw [← Nat.pow_add]; congr 1; omega
  rw [e, Nat.mod_mul]
/-- A code whose head is far. -/
theorem two_far (t : Two l L root k short long hs) (h : check l 16 = 0) (hall : ∀ s, s < l.length → len l s ≤ L) (hk : k < l.length) (hn : root < len l k) (hr : root ≤ L) (i : Nat) (hi : i < hs.length) (hh : hs[i] = TT l k % 2 ^ root) :
    Two l L root (k + 1) short (segF long (i * 2 ^ (L - root)) (2 ^ (L - root)) (TT l k / 2 ^ root) (2 ^ (len l k - root)) ((k : Int), (len l k : Int), false, 0)) hs := by
  have hR : 0 < 2 ^ root := Nat.pow_pos (by decide)
  have hP : 2 ^ L = 2 ^ (L - root) * 2 ^ root := by rw [← Nat.pow_add]; congr 1; omega
  have hTl : TT l k < 2 ^ len l k := turn_lt _ _
  refine ⟨t.ls, by rw [segF_len]; exact t.ll, t.nd, t.lt, t.nf, t.fr, fun w hw => ?_, fun s hs' hr' => ?_, t.hd2⟩
  · have hwr : w % 2 ^ root < 2 ^ root := Nat.mod_lt _ hR
    have hwd : w / 2 ^ root < 2 ^ (L - root) := by rw [Nat.div_lt_iff_lt_mul hR, ← hP]; exact hw
    have hold := t.lk w hw
    have hmod : w % 2 ^ len l k = TT l k ↔ w % 2 ^ root = TT l k % 2 ^ root ∧ w / 2 ^ root % 2 ^ (len l k - root) = TT l k / 2 ^ root := by
      have e1 := split_mod w root (len l k) (by omega)
      have e2 := Nat.mod_add_div (TT l k) (2 ^ root)
      constructor
      · intro e
        rw [e] at e1
        have m1 : w % 2 ^ root = TT l k % 2 ^ root := by rw [← e, mod_mod (by omega)]
        refine ⟨m1, ?_⟩
        have : 2 ^ root * (w / 2 ^ root % 2 ^ (len l k - root)) = 2 ^ root * (TT l k / 2 ^ root) := by omega
        exact Nat.eq_of_mul_eq_mul_left hR this
      · rintro ⟨m1, m2⟩
        rw [e1, m1, m2]; exact e2
    unfold look at hold ⊢
    rw [ent_step h hk (hall k hk)]
    by_cases hm : w % 2 ^ root ∈ hs
    · obtain ⟨j, hj, e2⟩ := List.mem_iff_getElem.1 hm
      have hf := t.fr j hj
      rw [e2] at hf
      rw [hf] at hold ⊢
      simp only [if_true] at hold ⊢
      rw [Int.toNat_natCast] at hold ⊢
      have hb : j * 2 ^ (L - root) + w / 2 ^ root < long.length := by
        rw [t.ll]
        calc _ < j * 2 ^ (L - root) + 2 ^ (L - root) := by omega
          _ = (j + 1) * 2 ^ (L - root) := by rw [Nat.add_mul, Nat.one_mul]
          _ ≤ _ := Nat.mul_le_mul_right _ hj
      rw [segF_get _ _ _ _ _ _ _ hb]
      by_cases hji : j = i
      · subst hji
        rw [hh] at e2
        by_cases e : w / 2 ^ root % 2 ^ (len l k - root) = TT l k / 2 ^ root
        · rw [if_pos ⟨(seg_in j _ _ hwd).1, (seg_in j _ _ hwd).2, by rw [Nat.add_sub_cancel_left]; exact e⟩, if_pos ⟨by omega, hmod.2 ⟨e2.symm, e⟩⟩]
        · rw [if_neg (fun hx => e (by rw [Nat.add_sub_cancel_left] at hx; exact hx.2.2)), if_neg (fun hx => e (hmod.1 hx.2).2)]
          exact hold
      · have hne : ¬ w % 2 ^ root = TT l k % 2 ^ root := fun e => hji ((List.getElem_inj t.nd).1 (by rw [e2, hh, e]))
        rw [if_neg (fun hx => ?_), if_neg (fun hx => hne (hmod.1 hx.2).1)]
        · exact hold
        · exact seg_out i j _ _ hwd hji ⟨hx.1, hx.2.1⟩
    · have hnf := t.nf _ hwr hm
      have hne : ¬ (len l k ≠ 0 ∧ w % 2 ^ len l k = TT l k) := fun hx => hm (by rw [(hmod.1 hx.2).1, ← hh]; exact List.getElem_mem hi)
      simp only [hnf, Bool.false_eq_true, if_false] at hold ⊢
      rw [if_neg hne]
      exact hold
  · by_cases e : s = k
    · subst e; rw [← hh]; exact List.getElem_mem hi
    · exact t.hd1 s (by omega) hr'
end
end Go.Proofs.YtipcdkemokkdfaaGreat.Two

/- Layer 11: fill of a part of a table: rows of places of four cells. -/
namespace Go.Proofs.YtipcdkemokkdfaaGreat
open Go.ChangeShapes Go.WideShapes Go.ChangeAt Go.RowKit
set_option linter.unusedVariables false
set_option linter.unusedSimpArgs false
set_option maxRecDepth 100000
open Two
theorem four_of {α : Type} {f : α → List Value} (hf : Flat f 4) (y : α) : ∃ a b c d, f y = [a, b, c, d] := by
  have := (hf y).1
  match hq : f y, this with
  | [a, b, c, d], _ => exact ⟨a, b, c, d, rfl⟩
theorem flat_set4 {α : Type} {f : α → List Value} (hf : Flat f 4) (x : α) (a b c d : Value) (hx : f x = [a, b, c, d]) : ∀ (l : List α) (i : Nat), i < l.length → (l.set i x).flatMap f = ((((l.flatMap f).set (i * 4) a).set (i * 4 + 1) b).set (i * 4 + 2) c).set (i * 4 + 3) d
  | [], _, h => by simp at h
  | y :: l, 0, _ => by
    obtain ⟨y1, y2, y3, y4, hy⟩ := four_of hf y
    simp [List.flatMap_cons, hx, hy]
  | y :: l, i + 1, h => by
    obtain ⟨y1, y2, y3, y4, hy⟩ := four_of hf y
    have ih := flat_set4 hf x a b c d hx l i (by simpa using h)
    rw [List.set_cons_succ, List.flatMap_cons, List.flatMap_cons, ih, hy]
    rw [show (i + 1) * 4 = i * 4 + 1 + 1 + 1 + 1 by omega, show i * 4 + 1 + 1 + 1 + 1 + 1 = (i * 4 + 1) + 1 + 1 + 1 + 1 by omega, show i * 4 + 1 + 1 + 1 + 1 + 2 = (i * 4 + 2) + 1 + 1 + 1 + 1 by omega, show i * 4 + 1 + 1 + 1 + 1 + 3 = (i * 4 + 3) + 1 + 1 + 1 + 1 by omega]
    simp
theorem OwnS.set4 {α : Type} {f : α → List Value} {E B g n cap : Nat} {w : World} {l : List α} (hf : Flat f 4) (h : OwnS f E 4 B w (.slice (some ⟨g, 0, none⟩) n cap) l) (i : Nat) (x : α) (a b c d : Value) (hx : f x = [a, b, c, d]) (hi : i < l.length) :
    OwnS f E 4 B ((((w.setCell ⟨g, i * 4, none⟩ a).setCell ⟨g, i * 4 + 1, none⟩ b).setCell ⟨g, i * 4 + 2, none⟩ c).setCell ⟨g, i * 4 + 3, none⟩ d) (.slice (some ⟨g, 0, none⟩) n cap) (l.set i x) := by
  have hn : n = l.length := by
    rcases h.2 with ⟨h0, -⟩ | ⟨g', cap', cur', h0, -⟩ <;> simp at h0; omega
  subst hn
  have h1 := (World.ownsRow.stored h (i * 4) a).1
  have h2 := (World.ownsRow.stored h1 (i * 4 + 1) b).1
  have h3 := (World.ownsRow.stored h2 (i * 4 + 2) c).1
  have h4 := (World.ownsRow.stored h3 (i * 4 + 3) d).1
  unfold OwnS
  rw [List.length_set, flat_set4 hf x a b c d hx l i hi]
  exact h4
def fT (p : Ent) : List Value := [.int .i32 p.1, .int .i16 p.2.1, .bool p.2.2.1, .int .i32 p.2.2.2]
theorem flatT : Flat fT 4 := fun x => ⟨rfl, by intro u hu; simp [fT] at hu; rcases hu with rfl | rfl | rfl | rfl <;> rfl⟩
abbrev OwnT (B : Nat) (w : World) (v : Value) (l : List Ent) : Prop := OwnS fT 168 4 B w v l
theorem info_tent : (Tryz.prog.info? 168).map (fun i => (i.zero, i.size, i.bytes)) = some (some (.agg #[.int .i32 0, .int .i16 0, .bool false, .int .i32 0]), 4, 12) := by kernel_rfl
def segTo (tab : List Ent) (b N T q i : Nat) (e : Ent) : List Ent := (List.range tab.length).map fun v => if b ≤ v ∧ v < b + N ∧ v < b + i ∧ (v - b) % q = T then e else tab.getD v z0
theorem segTo_len (tab : List Ent) (b N T q i : Nat) (e : Ent) : (segTo tab b N T q i e).length = tab.length := by simp [segTo]
theorem segTo_start (tab : List Ent) (b N T q : Nat) (e : Ent) (hT : T < q) : segTo tab b N T q T e = tab := by
  apply List.ext_getElem (segTo_len _ _ _ _ _ _ _)
  intro v h1 h2
  have hn : ¬ (b ≤ v ∧ v < b + N ∧ v < b + T ∧ (v - b) % q = T) := fun ⟨x, _, y, z⟩ => by
    rw [Nat.mod_eq_of_lt (by omega)] at z; omega
  simp only [segTo, List.getElem_map, List.getElem_range, if_neg hn]
  simp [List.getD_eq_getElem?_getD, h2]
theorem segTo_step (tab : List Ent) (b N T q i : Nat) (e : Ent) (hq : 0 < q) (hi : i % q = T) (hlt : i < N) (hb : b + N ≤ tab.length) : (segTo tab b N T q i e).set (b + i) e = segTo tab b N T q (i + q) e := by
  apply List.ext_getElem (by rw [List.length_set, segTo_len, segTo_len])
  intro v h1 h2
  rw [List.getElem_set]
  simp only [segTo, List.getElem_map, List.getElem_range]
  by_cases e1 : b + i = v
  · subst e1
    rw [if_pos rfl, if_pos ⟨by omega, by omega, by omega, by rw [Nat.add_sub_cancel_left]; exact hi⟩]
  · rw [if_neg e1]
    by_cases c1 : b ≤ v ∧ v < b + N ∧ v < b + i ∧ (v - b) % q = T
    · rw [if_pos c1, if_pos ⟨c1.1, c1.2.1, by omega, c1.2.2.2⟩]
    · rw [if_neg c1, if_neg]
      rintro ⟨x, y, z, u⟩
      apply c1
      refine ⟨x, y, ?_, u⟩
      apply Classical.byContradiction
      intro hge
      obtain ⟨d, hd⟩ : ∃ d, v - b = i + d := ⟨v - b - i, by omega⟩
      have hd1 : d < q := by omega
      have hd0 : 0 < d := by omega
      rw [hd, Nat.add_mod, hi, Nat.mod_eq_of_lt hd1] at u
      have hT : T < q := by rw [← hi]; exact Nat.mod_lt _ hq
      by_cases hs : T + d < q
      · rw [Nat.mod_eq_of_lt hs] at u; omega
      · rw [Nat.mod_eq_sub_mod (by omega), Nat.mod_eq_of_lt (by omega)] at u; omega
theorem segTo_end (tab : List Ent) (b N T q i : Nat) (e : Ent) (h : N ≤ i) : segTo tab b N T q i e = segF tab b N T q e := by
  unfold segTo segF
  apply List.map_congr_left
  intro v _
  congr 1
  apply propext
  exact ⟨fun ⟨x, y, _, z⟩ => ⟨x, y, z⟩, fun ⟨x, y, z⟩ => ⟨x, y, by omega, z⟩⟩
theorem segF_fill (tab : List Ent) (T q : Nat) (e : Ent) : segF tab 0 tab.length T q e = fillE tab T q e := by
  unfold segF fillE
  apply List.map_congr_left
  intro v hv
  have := List.mem_range.1 hv
  congr 1
  apply propext
  exact ⟨fun ⟨_, _, z⟩ => by simpa using z, fun z => ⟨by omega, by omega, by simpa using z⟩⟩
end Go.Proofs.YtipcdkemokkdfaaGreat

/- Layer 11: fill of a part of a table: its contract. -/
namespace Go.Proofs.YtipcdkemokkdfaaGreat
open Go.ChangeShapes Go.WideShapes Go.ChangeAt Go.RowKit
set_option linter.unusedVariables false
set_option linter.unusedSimpArgs false
set_option maxRecDepth 100000
open Two
set_option maxHeartbeats 4000000 in
theorem tFill (w : World) (B g b o N c T n L C : Nat) (E : Ent) (tab : List Ent) (h : OwnT B w (.slice (some ⟨g, 0, none⟩) L C) tab) (ho : o = b * 4) (hb : b + N ≤ tab.length) (hN : N ≤ 32768) (hn : n ≤ 15) (hT : T < 2 ^ n) :
    Calls Tryz.prog 113 #[.slice (some ⟨g, o, none⟩) N c, .int .i64 T, .int .i64 n, .agg #[.int .i32 E.1, .int .i16 E.2.1, .bool E.2.2.1, .int .i32 E.2.2.2]] w fun e w' => e = .returned (.tuple #[]) ∧ OwnT B w' (.slice (some ⟨g, 0, none⟩) L C) (segF tab b N T (2 ^ n) E) ∧ Keeps (fun j => j = g) w w' := by
  subst ho
  have hq0 : 0 < 2 ^ n := Nat.pow_pos (by decide)
  have hq1 : 2 ^ n ≤ 2 ^ 15 := Nat.pow_le_pow_right (by decide) hn
  have hW : wrap64 ((2 : Int) ^ n) = ((2 ^ n : Nat) : Int) := by
    have e1 : (2 : Int) ^ n = ((2 ^ n : Nat) : Int) := by simp
    rw [e1]; unfold wrap64; generalize 2 ^ n = q at *; omega
  obtain ⟨q, hq⟩ : ∃ q, 2 ^ n = q := ⟨_, rfl⟩
  rw [hq] at hq0 hq1 hW hT
  have HQ := Lib.hid hq
  obtain ⟨E1, E2, E3, E4⟩ := E
  have HST := Lib.hid (fun i hi hlt => segTo_step tab b N T q i ((E1, E2, E3, E4) : Ent) hq0 hi hlt hb)
  have HS0 := Lib.hid (segTo_start tab b N T q ((E1, E2, E3, E4) : Ent) hT)
  have HFL := Lib.hid (fun i => segTo_len tab b N T q i ((E1, E2, E3, E4) : Ent))
  have HSE := Lib.hid (fun i => segTo_end tab b N T q i ((E1, E2, E3, E4) : Ent))
  have HLT := Lib.hid hb
  have HT0 := Lib.hid h
  clear hq h hb
  go_enter Tryz.func113, Tryz.ntmps113
  go_wp2_with fail
  obtain ⟨W, hWW⟩ : ∃ W, w.alloc (.cells #[.int .i32 E1, .int .i16 E2, .bool E3, .int .i32 E4] 168) = W := ⟨_, rfl⟩
  obtain ⟨gb, hgb⟩ : ∃ gb, w.heap.size = gb := ⟨_, rfl⟩
  have hbox : W.heap[gb]? = some (.cells #[.int .i32 E1, .int .i16 E2, .bool E3, .int .i32 E4] 168 (0, 0)) := by rw [← hWW, ← hgb]; exact heap_alloc_new _ _
  have HT1 := Lib.hid (show OwnT B W (.slice (some ⟨g, 0, none⟩) L C) tab by rw [← hWW]; exact HT0.out.alloc _)
  have HK1 := Lib.hid (show Keeps (fun j => j = g) w W by rw [← hWW]; exact (Keeps.refl _ w).alloc _)
  have hge : g < gb := by rw [← hgb]; exact (World.ownsRow.lt HT0.out g rfl).2
  rw [hWW, hgb]
  clear hWW hgb HT0
  have HBX := Lib.hid hbox
  clear hbox
  go_loopw [8] (fun iv wr => ∃ i : Nat, iv = .int .i64 i ∧ i % q = T ∧ i ≤ N + q ∧ Hid (OwnT B wr (.slice (some ⟨g, 0, none⟩) L C) (segTo tab b N T q i (E1, E2, E3, E4))) ∧ Hid (wr.heap[gb]? = some (.cells #[.int .i32 E1, .int .i16 E2, .bool E3, .int .i32 E4] 168 (0, 0))) ∧ Hid (Keeps (fun j => j = g) w wr)) (fun iv _ => (N + q + 1 - (intOf iv).toNat))
  case atStart => exact ⟨T, rfl, Nat.mod_eq_of_lt hT, by omega, Lib.hid (by rw [HS0.out]; exact HT1.out), HBX, HK1⟩
  case round =>
    obtain ⟨i, rfl, him, hiN, ht, hbx, hk⟩ := hrel
    by_cases hlt : i < N
    · have b0 : wr.cell? ⟨gb, 0, none⟩ = some (.int .i32 E1) := cell_lit hbx.out 0 _ rfl
      have b1 : wr.cell? ⟨gb, 1, none⟩ = some (.int .i16 E2) := cell_lit hbx.out 1 _ rfl
      have b2 : wr.cell? ⟨gb, 2, none⟩ = some (.bool E3) := cell_lit hbx.out 2 _ rfl
      have b3 : wr.cell? ⟨gb, 3, none⟩ = some (.int .i32 E4) := cell_lit hbx.out 3 _ rfl
      have hi0 : (0 : Int) ≤ (i : Int) := by omega
      have hi1 : (i : Int) < (N : Int) := by omega
      have hbl : b + i < tab.length := by have := HLT.out; omega
      obtain ⟨P, hP⟩ : ∃ P : Ent, (segTo tab b N T q i (E1, E2, E3, E4))[b + i]? = some P := ⟨_, List.getElem?_eq_getElem (by rw [HFL.out]; exact hbl)⟩
      have hoi : (b + i) * 4 = b * 4 + i * 4 := Nat.add_mul b i 4
      have c0 := OwnS.cell flatT ht.out (b + i) 0 P hP (by decide)
      have c1 := OwnS.cell flatT ht.out (b + i) 1 P hP (by decide)
      have c2 := OwnS.cell flatT ht.out (b + i) 2 P hP (by decide)
      have c3 := OwnS.cell flatT ht.out (b + i) 3 P hP (by decide)
      simp only [fT, List.getElem?_cons_zero, List.getElem?_cons_succ, Nat.add_zero, hoi] at c0 c1 c2 c3
      have f0 := ht.out.free (b * 4 + i * 4)
      have f1 := ht.out.free (b * 4 + i * 4 + 1)
      have f2 := ht.out.free (b * 4 + i * 4 + 2)
      have f3 := ht.out.free (b * 4 + i * 4 + 3)
      have hne2 : gb ≠ g := by omega
      have HT2 := Lib.hid (show OwnT B ((((wr.setCell ⟨g, b * 4 + i * 4, none⟩ (.int .i32 E1)).setCell ⟨g, b * 4 + i * 4 + 1, none⟩ (.int .i16 E2)).setCell ⟨g, b * 4 + i * 4 + 2, none⟩ (.bool E3)).setCell ⟨g, b * 4 + i * 4 + 3, none⟩ (.int .i32 E4)) (.slice (some ⟨g, 0, none⟩) L C) (segTo tab b N T q (i + q) (E1, E2, E3, E4)) by
        rw [← HST.out i him hlt, ← hoi]
        exact OwnS.set4 flatT (show OwnT B wr _ _ from ht.out) (b + i) (E1, E2, E3, E4) _ _ _ _ rfl (by rw [HFL.out]; exact hbl))
      have HB2 := Lib.hid (show ((((wr.setCell ⟨g, b * 4 + i * 4, none⟩ (.int .i32 E1)).setCell ⟨g, b * 4 + i * 4 + 1, none⟩ (.int .i16 E2)).setCell ⟨g, b * 4 + i * 4 + 2, none⟩ (.bool E3)).setCell ⟨g, b * 4 + i * 4 + 3, none⟩ (.int .i32 E4)).heap[gb]? = _ from ((((Below.heap_setCell _ _ _ _ hne2).trans (Below.heap_setCell _ _ _ _ hne2)).trans (Below.heap_setCell _ _ _ _ hne2)).trans (Below.heap_setCell _ _ _ _ hne2)).trans hbx.out)
      have HK2 := Lib.hid ((((hk.out.setCell (p := ⟨g, b * 4 + i * 4, none⟩) (.inr rfl) (.int .i32 E1)).setCell (p := ⟨g, b * 4 + i * 4 + 1, none⟩) (.inr rfl) (.int .i16 E2)).setCell (p := ⟨g, b * 4 + i * 4 + 2, none⟩) (.inr rfl) (.bool E3)).setCell (p := ⟨g, b * 4 + i * 4 + 3, none⟩) (.inr rfl) (.int .i32 E4))
      have HOI := Lib.hid hoi
      have HBL := Lib.hid hbl
      clear hoi hbl hP
      go_wp2_with fail
      clear c0 c1 c2 c3 f0 f1 f2 f3 b0 b1 b2 b3
      go_roundw
      case rel => exact ⟨i + q, by go_num, by rw [Nat.add_mod_right]; exact him, by omega, HT2, HB2, HK2⟩
      case measure => simp [intOf]; omega
    · have hNi : N ≤ i := by omega
      go_wp2_with fail
      go_end0
      exact ⟨rfl, by rw [HQ.out, ← HSE.out i hNi]; exact ht.out, hk.out⟩
end Go.Proofs.YtipcdkemokkdfaaGreat

/- Layer 11: append(s, make([]T, k)...) on a row of the call's own. -/
namespace Go.Proofs.YtipcdkemokkdfaaGreat
open Go.ChangeShapes Go.WideShapes Go.ChangeAt Go.RowKit Go.Lib
set_option linter.unusedVariables false
set_option linter.unusedSimpArgs false
set_option maxRecDepth 100000
/-- There is room. -/
theorem run_append_room_zeros {P : Program} (w : World) (t tn ty e : TypeId) (i : TypeInfo) (z : Value) (kq kn : IntKind) (ht : P.underlying t = some (.slice e)) (htn : P.underlying tn = some (.int kn)) (hi : P.info? e = some i) (hz : i.zero = some z)
    (g sLen sCap : Nat) (cur : Array Value) (hg : w.heap[g]? = some (.cells cur e (0, 0))) (k : Nat) (h0 : 0 < k) (hs : 0 < i.size) (h63 : (k : Int) ≤ 9223372036854775807) (h48 : k * i.bytes ≤ 281474976710656)
    (h1 : ∀ u ∈ (Builtin.zeroCells z.cells k).toList, u.oneCell' = true) (hroom : sLen + k ≤ sCap) (hfit : sLen * i.size + (Builtin.zeroCells z.cells k).toList.length ≤ cur.size) :
    (Builtin.append_ #[t, tn] ty #[.slice (some ⟨g, 0, none⟩) sLen sCap, .int kq k]).run P w =
      .ok (.slice (some ⟨g, 0, none⟩) (sLen + k) sCap) (w.setRow g (cur.toList.take (sLen * i.size) ++ (Builtin.zeroCells z.cells k).toList ++ cur.toList.drop (sLen * i.size + (Builtin.zeroCells z.cells k).toList.length)).toArray) := by
  have hst := run_storeCells_at P g (sLen * i.size) e (Builtin.zeroCells z.cells k).toList 0 cur w hg (by simpa using hfit) h1
  simp only [Nat.add_zero] at hst
  obtain ⟨Z, hZ⟩ : ∃ Z, Builtin.zeroCells z.cells k = Z := ⟨_, rfl⟩
  rw [hZ] at hst ⊢
  have hw : IntKind.i64.wrap (k : Int) = k := by rw [IntKind.wrap_i64]; omega
  have hk : k ≠ 0 := by omega
  have h48i : ¬ (281474976710656 < (k : Int) * (i.bytes : Int)) := by
    rw [← Int.natCast_mul]
    omega
  have hneg : ¬ ((k : Int) < 0) := by omega
  have hns : ¬ (k * i.size = 0) := Nat.mul_ne_zero hk (by omega)
  simp [Builtin.append_, run_underlying ht, run_underlying htn, sizeOf, typeInfo, zeroValue, hi, hz, hZ, asInt, asIntOf, hw, hroom, hneg, hns, h48i, Addr.add_lit, hst]
/-- The whole law: and where the new row lies. -/
theorem run_append_make {P : Program} (w : World) (base : Nat) (t tn ty e : TypeId) (i : TypeInfo) (z : Value) (size bytes : Nat) (kq kn : IntKind) (ht : P.underlying t = some (.slice e)) (htn : P.underlying tn = some (.int kn)) (hi : P.info? e = some i) (hz : i.zero = some z)
    (hsize : i.size = size) (hby : i.bytes = bytes) (hzs : z.cells.size = size) (hsz : 0 < size)
    (v : Value) (n : Nat) (xs : List Value) (hown : w.ownsRow base e size v n xs) (m : Nat) (news : List Value) (hnews : (Builtin.zeroCells z.cells m).toList = news) (h1 : ∀ u ∈ news, u.oneCell' = true)
    (h63 : n + m ≤ maxLen) (hbytes : (n + m) * bytes ≤ 140737488355328) (hbase : base ≤ w.heap.size) (hm : 0 < m) :
    ∃ k cap w', (Builtin.append_ #[t, tn] ty #[v, .int kq m]).run P w = .ok (.slice (some ⟨k, 0, none⟩) (n + m) cap) w' ∧ w'.ownsRow base e size (.slice (some ⟨k, 0, none⟩) (n + m) cap) (n + m) (xs ++ news) ∧ w.grownBy w' v.ownBlock ∧ (v.ownBlock = some k ∨ k = w.heap.size) := by
  subst hsize
  subst hby
  have hsmall : n + m ≤ 9223372036854775807 := by simp only [maxLen] at h63; omega
  have hl : news.length = m * i.size := by rw [← hnews, Array.length_toList, size_zeroCells, hzs]
  have hne : news.toArray = Builtin.zeroCells z.cells m := by rw [← hnews]
  have hlen : (xs ++ news).length = (n + m) * i.size := by rw [List.length_append, hown.1, hl, Nat.add_mul]
  have hmb : m * i.bytes ≤ (n + m) * i.bytes := Nat.mul_le_mul_right _ (by omega)
  have grown : ∀ (old : Nat), old < n + m → ∀ (row : Option Nat),
      (w.drew.alloc (.cells (xs.toArray ++ news.toArray ++ Builtin.zeroCells z.cells (grownCap w (n + m) old e - (n + m))) e)).ownsRow base e i.size
        (.slice (some ⟨w.heap.size, 0, none⟩) (n + m) (grownCap w (n + m) old e)) (n + m) (xs ++ news) ∧
      w.grownBy (w.drew.alloc (.cells (xs.toArray ++ news.toArray ++ Builtin.zeroCells z.cells (grownCap w (n + m) old e - (n + m))) e)) row := by
    intro old ho row
    have hge := grownCap_ge w (n + m) old e
    have hcm : grownCap w (n + m) old e ≤ maxLen := grownCap_le_maxLen w (n + m) old e h63
    refine ⟨⟨hlen, .inr ⟨w.heap.size, _, _, rfl, hbase, heap_alloc_new w.drew _, hge, hcm, ?_, ?_⟩⟩, ⟨rfl, rfl, rfl, by simp, fun k hk _ => Below.heap_alloc w.drew _ k hk⟩⟩
    · simp only [Array.size_append, List.size_toArray, size_zeroCells, hzs, hown.1, hl, ← Nat.add_mul]
      congr 1
      omega
    · simp only [Array.toList_append, List.append_assoc]
      rw [← List.append_assoc, ← hlen]
      exact List.take_left
  rcases hown.2 with ⟨rfl, rfl⟩ | ⟨g, cap, cur, rfl, hbg, hg, hnc, hcm, hcs, htake⟩
  · have hx : xs = [] := List.eq_nil_of_length_eq_zero (by simpa using hown.1)
    subst hx
    have hr := run_append_nil_zeros (P := P) w t tn ty e i z kq kn ht htn hi hz m hm hsz (by omega) (by omega)
    have hgr := grown 0 (by omega) (Value.ownBlock (.slice none 0 0))
    simp only [Nat.zero_add, List.nil_append, Array.empty_append, hne] at hgr ⊢
    exact ⟨_, _, _, hr, hgr.1, hgr.2, .inr rfl⟩
  · by_cases hroom : n + m ≤ cap
    · have hfit : n * i.size + news.length ≤ cur.size := by rw [hl, hcs, ← Nat.add_mul]; exact Nat.mul_le_mul_right _ hroom
      have hr := run_append_room_zeros (P := P) w t tn ty e i z kq kn ht htn hi hz g n cap cur hg m hm hsz (by omega) (by omega) (by rw [hnews]; exact h1) hroom (by rw [hnews]; exact hfit)
      rw [hnews] at hr
      refine ⟨_, _, _, hr, ⟨hlen, .inr ⟨g, cap, _, rfl, hbg, setRow_heap w g cur _ e _ hg, hroom, hcm, ?_, ?_⟩⟩, ⟨rfl, rfl, rfl, by simp, fun k _ hk => setRow_other w g k _ (fun e => hk (by simp [Value.ownBlock, e]))⟩, .inl (by simp [Value.ownBlock])⟩
      · simp only [List.size_toArray, List.length_append, List.length_take, List.length_drop, Array.length_toList]
        omega
      · rw [htake, ← hlen]
        exact List.take_left
    · have holds : ∀ j u, xs[j]? = some u → w.cell? ((⟨g, 0, none⟩ : Addr).add j) = some u := hown.cells (g := g) rfl
      have hf := run_firstCells_some (P := P) w.drew i.size n ⟨g, 0, none⟩ n cap xs hown.1 holds
      have hr := run_append_grow_zeros (P := P) w t tn ty e i z kq kn ht htn hi hz (some ⟨g, 0, none⟩) n cap xs hf m hm hsz (by omega) (by omega) (by omega) (growslice_fits (by omega) hbytes)
      have hgr := grown cap (by omega) (Value.ownBlock (.slice (some ⟨g, 0, none⟩) n cap))
      rw [hne] at hgr
      exact ⟨_, _, _, hr, hgr.1, hgr.2, .inr rfl⟩
/-- A row of places, and zeros behind it. -/
theorem zeros_flat {α : Type} {f : α → List Value} {sz : Nat} (hf : Flat f sz) (hsz : 0 < sz) (x0 : α) (z : Value) (hx0 : z.cells = (f x0).toArray) (m : Nat) : (Builtin.zeroCells z.cells m).toList = (List.replicate m x0).flatMap f := by
  have hlen : (f x0).length = sz := (hf x0).1
  rw [hx0]
  apply List.ext_getElem?
  intro j
  by_cases hj : j < m * sz
  · have hq : j / sz < m := Nat.div_lt_of_lt_mul (by rw [Nat.mul_comm]; exact hj)
    have hr : j % sz < sz := Nat.mod_lt _ hsz
    have hd : j / sz * sz + j % sz = j := by rw [Nat.mul_comm]; exact Nat.div_add_mod j sz
    have := flat_get hf (List.replicate m x0) (j / sz) (j % sz) x0 (by simp [hq]) hr
    rw [hd] at this
    rw [this]
    simp [Builtin.zeroCells, hj, hlen, hr]
  · rw [List.getElem?_eq_none (by rw [Array.length_toList, size_zeroCells]; simp [hlen]; omega), List.getElem?_eq_none (by rw [flat_len hf]; simp; omega)]
end Go.Proofs.YtipcdkemokkdfaaGreat

/- Layer 11: (*Table).add of a code that the first table has room for. -/
namespace Go.Proofs.YtipcdkemokkdfaaGreat
open Go.ChangeShapes Go.WideShapes Go.ChangeAt Go.RowKit Go.Lib
set_option linter.unusedVariables false
set_option linter.unusedSimpArgs false
set_option maxRecDepth 100000
open Two
structure IsT2 (w : World) (B gt gs R root L : Nat) (vl : Value) (short long : List Ent) : Prop where
  tb : w.heap[gt]? = some (.cells #[.slice (some ⟨gs, 0, none⟩) R R, .int .i64 root, vl, .int .i64 L] 164 (0, 0))
  rs : OwnT B w (.slice (some ⟨gs, 0, none⟩) R R) short
  rl : OwnT B w vl long
  sl : vl.ownBlock ≠ some gs
theorem IsT2.ne {w : World} {B gt gs R root L : Nat} {vl : Value} {short long : List Ent} (h : IsT2 w B gt gs R root L vl short long) : gt ≠ gs := by
  intro e
  subst e
  exact own_ne h.rs h.tb (by decide) rfl
theorem IsT2.len {w : World} {B gt gs R root L : Nat} {vl : Value} {short long : List Ent} (h : IsT2 w B gt gs R root L vl short long) : short.length = R := by
  rcases h.rs.2 with ⟨h0, -⟩ | ⟨g', cap', cur', h0, -⟩ <;> simp at h0; omega
theorem IsT2.kept {w w' : World} {B gt gs R root L : Nat} {vl : Value} {short long : List Ent} (h : IsT2 w B gt gs R root L vl short long) (hb : Below w.heap.size w w') : IsT2 w' B gt gs R root L vl short long :=
  ⟨(hb.block _ (block_lt h.tb)).trans h.tb, OwnS.kept h.rs hb, OwnS.kept h.rl hb, h.sl⟩
theorem step_make {P : Program} {α : Type} {f : α → List Value} {E ST TN sz bytes B : Nat} {z : Value} (hE : (P.info? E).map (fun i => (i.zero, i.size, i.bytes)) = some (some z, sz, bytes)) (hby : bytes ≤ 64) (hST : P.underlying ST = some (.slice E)) (kq kn : IntKind) (hTN : P.underlying TN = some (.int kn)) (x0 : α) (hx0 : z.cells = (f x0).toArray) (hf : Flat f sz) (hsz : 0 < sz)
    {w : World} {ops : Array Oper} {o : Oper} {a : Act} {K : Act → World → Prop} {Q : Exit → Act → World → Prop} {F : Prop} (hgd : o.guard = none) (s x : Operand) (ho : o.op = .call { callee := .builtin .append, args := #[s, x], argTypes := #[ST, TN] })
    (v : Value) (l : List α) (hs : a.eval s = v) (hown : OwnS f E sz B w v l) (m : Nat) (hx : a.eval x = .int kq m) (hm : 0 < m) (hn : l.length + m ≤ 1099511627776) (hB : B ≤ w.heap.size)
    (h : ∀ k cap w', OwnS f E sz B w' (.slice (some ⟨k, 0, none⟩) (l.length + m) cap) (l ++ List.replicate m x0) → w.grownBy w' v.ownBlock → (v.ownBlock = some k ∨ k = w.heap.size) → K (a.put o.dst (.slice (some ⟨k, 0, none⟩) (l.length + m) cap)) w') :
    if Region.wanted o (yielded ops a.tmps) = true then Oper.wp P o a w K Q else F := by
  have hw : Region.wanted o (yielded ops a.tmps) = true := by simp [Region.wanted, hgd]
  rw [if_pos hw]
  obtain ⟨i0, hi, h1, h2, h3⟩ := info_get hE
  have hzs : z.cells.size = sz := by rw [hx0]; simp [(hf x0).1]
  obtain ⟨k, cap, w', hr, h4, h5, h6⟩ := run_append_make (P := P) w B ST TN o.type E i0 z sz bytes kq kn hST hTN hi h1 h2 h3 hzs hsz v l.length (l.flatMap f) hown m _ (zeros_flat hf hsz x0 z hx0 m) (flat_one hf _) (by unfold maxLen; omega)
    (by
      calc (l.length + m) * bytes ≤ 1099511627776 * 64 := Nat.mul_le_mul hn hby
        _ ≤ _ := by decide) hB hm
  refine wp_append_run w s x ST TN ho _ _ hs hx _ _ hr (h k cap w' ?_ h5 h6)
  unfold OwnS
  rw [List.flatMap_append, List.length_append, List.length_replicate]
  exact h4
set_option maxHeartbeats 1600000 in
theorem tAddShort (w : World) (B gt gs R root L T n s : Nat) (vl : Value) (short long : List Ent) (h : IsT2 w B gt gs R root L vl short long) (hR : R ≤ 32768) (hn : n ≤ root) (hr : root ≤ 15) (hT : T < 2 ^ n) :
    Calls Tryz.prog 97 #[.pointer (some ⟨gt, 0, none⟩), .int .i64 T, .agg #[.int .i32 s, .int .i16 n, .bool false, .int .i32 0]] w fun e w' => e = .returned (.tuple #[]) ∧ IsT2 w' B gt gs R root L vl (fillE short T (2 ^ n) ((s : Int), (n : Int), false, 0)) long ∧ Keeps (fun j => j = gs) w w' := by
  have CF := Lib.hid (fun W (hk : Below w.heap.size w W) => tFill W B gs 0 0 R R T n R R ((s : Int), (n : Int), false, 0) short (h.kept hk).rs rfl (by rw [h.len]; omega) hR (by omega) hT)
  have HLR := Lib.hid h.len
  have HT0 := Lib.hid h
  clear h
  have hgt : gt < w.heap.size := block_lt HT0.out.tb
  obtain ⟨gb, hgb⟩ : ∃ gb, w.heap.size = gb := ⟨_, rfl⟩
  obtain ⟨W, hWW⟩ : ∃ W, w.alloc (.cells #[.int .i32 s, .int .i16 n, .bool false, .int .i32 0] 168) = W := ⟨_, rfl⟩
  have hbox : W.heap[gb]? = some (.cells #[.int .i32 s, .int .i16 n, .bool false, .int .i32 0] 168 (0, 0)) := by rw [← hWW, ← hgb]; exact heap_alloc_new _ _
  have htab := heap_old HT0.out.tb (.cells #[.int .i32 s, .int .i16 n, .bool false, .int .i32 0] 168)
  have t1' := cell_lit htab 1 _ rfl
  rw [hWW] at htab
  have HBL := Lib.hid (show Below w.heap.size w W by rw [← hWW]; exact (Below.refl _ _).alloc (Nat.le_refl _) _)
  have HK1 := Lib.hid (show Keeps (fun j => j = gs) w W by rw [← hWW]; exact (Keeps.refl _ w).alloc _)
  have b0 : W.cell? ⟨gb, 0, none⟩ = some (.int .i32 s) := cell_lit hbox 0 _ rfl
  have b1 : W.cell? ⟨gb, 1, none⟩ = some (.int .i16 n) := cell_lit hbox 1 _ rfl
  have b2 : W.cell? ⟨gb, 2, none⟩ = some (.bool false) := cell_lit hbox 2 _ rfl
  have b3 : W.cell? ⟨gb, 3, none⟩ = some (.int .i32 0) := cell_lit hbox 3 _ rfl
  have t0 : W.cell? ⟨gt, 0, none⟩ = some (.slice (some ⟨gs, 0, none⟩) R R) := cell_lit htab 0 _ rfl
  have t1 : W.cell? ⟨gt, 1, none⟩ = some (.int .i64 root) := cell_lit htab 1 _ rfl
  have CF' := Lib.hid (show Calls Tryz.prog 113 #[.slice (some ⟨gs, 0, none⟩) R R, .int .i64 T, .int .i64 n, .agg #[.int .i32 s, .int .i16 n, .bool false, .int .i32 0]] W.drew _ from CF.out W.drew HBL.out.drew)
  clear hbox htab CF
  go_enter Tryz.func97, Tryz.ntmps97
  go_wp2_with fail
  clear t1'
  try rw [hWW]
  try rw [hgb]
  go_still_tail 8, (by kernel_rfl)
  change wpList _ _ _ _ _ W.drew
  go_wp2_with fail
  refine CF'.out.mono ?_; rintro e w5 ⟨rfl, h5, hk5⟩
  have HT := Lib.hid (show IsT2 w5 B gt gs R root L vl (fillE short T (2 ^ n) ((s : Int), (n : Int), false, 0)) long by
    have hn := HT0.out.ne
    have hkw := HK1.out.drew.trans hk5
    refine ⟨hkw.heap HT0.out.tb hn, ?_, ?_, HT0.out.sl⟩
    · rw [← segF_fill, HLR.out]; exact h5
    · exact hkw.ownsRow HT0.out.rl (fun k hk e => HT0.out.sl (by rw [hk, e])))
  have HK := Lib.hid (HK1.out.drew.trans hk5)
  go_wp2_with fail
  refine bodyPost_ret (results_none rfl _ _ _) rfl ?_
  exact ⟨rfl, HT.out, HK.out⟩
end Go.Proofs.YtipcdkemokkdfaaGreat
