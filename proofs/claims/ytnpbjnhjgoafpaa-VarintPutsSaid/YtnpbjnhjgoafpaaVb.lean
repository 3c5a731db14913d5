/- Layer 3: the plain laws of the numbers' bytes, and the contracts of Read, the program's and the document's. -/
import Derived.Test.YtnpbjnhjgoafpaaVa
import Derived.Scope
import Derived.WalkMore
import Derived.ScopeJumps
import Derived.Lib.Strings
import Derived.Lib.IndexBytes
import Derived.Deep.QuietTactic
import Derived.BigQuiet
namespace Go.Proofs.Ytnpbjnhjgoafpaa
open Go.ChangeShapes Go.WideShapes Go.ChangeAt Go.RowKit
set_option linter.unusedVariables false
set_option maxRecDepth 100000

theorem vbF_eq (n : Nat) : ∀ f, n ≤ f → vbF f n = vb n := by
  induction n using Nat.strongRecOn with
  | ind n ih =>
    intro f hf
    by_cases h : n < 128
    · rw [vbF_last f n h, vb, vbF_last n n h]
    · obtain ⟨g, hg, e⟩ := vbF_more f n (by omega) hf
      obtain ⟨g', hg', e'⟩ := vbF_more n n (by omega) (Nat.le_refl _)
      rw [e, vb, e', ih (n / 128) (by omega) g hg, ih (n / 128) (by omega) g' hg']

theorem vb_lt (n : Nat) (h : n < 128) : vb n = [UInt8.ofNat n] := vbF_last n n h
theorem vb_ge (n : Nat) (h : 128 ≤ n) : vb n = UInt8.ofNat (n % 128 + 128) :: vb (n / 128) := by
  obtain ⟨g, hg, e⟩ := vbF_more n n h (Nat.le_refl _)
  rw [vb, e, vbF_eq _ g hg]

/-- What bytes stand for, the signs left out. -/
def val : List UInt8 → Nat
  | [] => 0
  | b :: l => b.toNat % 128 + 128 * val l

/-- All but the last one bear the sign, the last one doesn't. -/
def signed : List UInt8 → Prop
  | [] => False
  | [b] => b.toNat < 128
  | b :: l => 128 ≤ b.toNat ∧ signed l

theorem vb_of_length (l : List UInt8) (hs : signed l) (hl : (vb (val l)).length = l.length) : vb (val l) = l := by
  induction l with
  | nil => exact absurd hs id
  | cons b l ih =>
    cases l with
    | nil =>
      simp only [signed] at hs
      have e : val [b] = b.toNat := by simp [val]; omega
      rw [e, vb_lt _ hs]; simp
    | cons c l =>
      simp only [signed] at hs
      have hb : b.toNat < 256 := b.toNat_lt
      have hge : 128 ≤ val (b :: c :: l) := by
        by_cases h : val (b :: c :: l) < 128
        · rw [vb_lt _ h] at hl; simp at hl
        · omega
      have e : val (b :: c :: l) = b.toNat % 128 + 128 * val (c :: l) := rfl
      rw [vb_ge _ hge] at hl ⊢
      have e1 : val (b :: c :: l) / 128 = val (c :: l) := by omega
      have e2 : val (b :: c :: l) % 128 + 128 = b.toNat := by omega
      rw [e1] at hl ⊢
      rw [e2, ih hs.2 (by simpa using hl)]; simp

theorem vb_signed (n : Nat) : signed (vb n) ∧ val (vb n) = n := by
  induction n using Nat.strongRecOn with
  | ind n ih =>
    by_cases h : n < 128
    · rw [vb_lt n h]; simp [signed, val, Nat.mod_eq_of_lt (show n < 256 by omega)]; omega
    · rw [vb_ge n (by omega)]
      have hi := ih (n / 128) (by omega)
      have hp := vb_pos (n / 128)
      have e : (UInt8.ofNat (n % 128 + 128)).toNat = n % 128 + 128 := by simp; omega
      refine ⟨?_, ?_⟩
      · cases hv : vb (n / 128) with
        | nil => rw [hv] at hp; simp at hp
        | cons c l => rw [hv] at hi; simp only [signed]; exact ⟨by rw [e]; omega, hi.1⟩
      · simp only [val]; rw [e, hi.2]; omega

theorem vb_len5 (n : Nat) (h : n ≤ 4294967295) : (vb n).length ≤ 5 := by
  by_cases h1 : n < 128
  · rw [vb_lt n h1]; simp
  rw [vb_ge n (by omega)]
  by_cases h2 : n / 128 < 128
  · rw [vb_lt _ h2]; simp
  rw [vb_ge _ (by omega)]
  by_cases h3 : n / 128 / 128 < 128
  · rw [vb_lt _ h3]; simp
  rw [vb_ge _ (by omega)]
  by_cases h4 : n / 128 / 128 / 128 < 128
  · rw [vb_lt _ h4]; simp
  rw [vb_ge _ (by omega), vb_lt _ (by omega)]; simp

/-- What Read tells: the error, the number, how many bytes it has. -/
def rdF : Nat → Nat → Nat → Nat → List UInt8 → Nat × Nat × Nat
  | 0, _, _, _, _ => (4, 0, 0)
  | _ + 1, _, _, _, [] => (3, 0, 0)
  | f + 1, i, p, acc, b :: l =>
    if 128 ≤ b.toNat then rdF f (i + 1) (p * 128) (acc + b.toNat % 128 * p) l
    else if acc + b.toNat % 128 * p ≤ 4294967295 ∧ (vb (acc + b.toNat % 128 * p)).length = i + 1 then (0, acc + b.toNat % 128 * p, i + 1) else (4, 0, 0)
def rd (l : List UInt8) : Nat × Nat × Nat := rdF 5 0 1 0 l


theorem val_append (a l : List UInt8) : val (a ++ l) = val a + 128 ^ a.length * val l := by
  induction a with
  | nil => simp [val]
  | cons b a ih =>
    simp only [List.cons_append, val, List.length_cons, ih, Nat.pow_succ]
    rw [Nat.mul_add, Nat.mul_comm (128 ^ a.length) 128, Nat.mul_assoc]; omega

theorem signed_snoc (pre : List UInt8) (b : UInt8) (hp : ∀ c, c ∈ pre → 128 ≤ c.toNat) (hb : b.toNat < 128) : signed (pre ++ [b]) := by
  induction pre with
  | nil => exact hb
  | cons c pre ih =>
    have h := ih (fun x hx => hp x (List.mem_cons_of_mem _ hx))
    cases hq : pre ++ [b] with
    | nil => simp at hq
    | cons x y => rw [List.cons_append, hq]; rw [hq] at h; exact ⟨hp c List.mem_cons_self, h⟩

theorem rdF_ok (f : Nat) : ∀ (pre l : List UInt8) (n c : Nat), (∀ x, x ∈ pre → 128 ≤ x.toNat) → rdF f pre.length (128 ^ pre.length) (val pre) l = (0, n, c) →
    ∃ m, c = pre.length + m ∧ m ≤ l.length ∧ n ≤ 4294967295 ∧ vb n = pre ++ l.take m := by
  induction f with
  | zero => intro pre l n c _ h; simp [rdF] at h
  | succ f ih =>
    intro pre l n c hp h
    cases l with
    | nil => simp [rdF] at h
    | cons b l =>
      have ev : val (pre ++ [b]) = val pre + b.toNat % 128 * 128 ^ pre.length := by rw [val_append]; simp [val, Nat.mul_comm]
      by_cases hb : 128 ≤ b.toNat
      · simp only [rdF, if_pos hb] at h
        have e : rdF f (pre ++ [b]).length (128 ^ (pre ++ [b]).length) (val (pre ++ [b])) l = (0, n, c) := by
          rw [ev, List.length_append, List.length_singleton, Nat.pow_succ]; exact h
        obtain ⟨m, h1, h2, h3, h4⟩ := ih (pre ++ [b]) l n c (fun x hx => by
          rcases List.mem_append.1 hx with h | h
          · exact hp x h
          · rw [List.mem_singleton.1 h]; exact hb) e
        exact ⟨m + 1, by rw [h1]; simp; omega, by simp; omega, h3, by rw [h4]; simp⟩
      · simp only [rdF, if_neg hb] at h
        rw [← ev] at h
        split at h
        · rename_i hq
          simp only [Prod.mk.injEq] at h
          obtain ⟨-, rfl, rfl⟩ := h
          refine ⟨1, rfl, by simp, hq.1, ?_⟩
          have := vb_of_length (pre ++ [b]) (signed_snoc pre b hp (by omega)) (by rw [hq.2]; simp)
          simpa using this
        · simp at h

theorem rdF_vb (f : Nat) : ∀ (pre l t : List UInt8), signed l → l.length ≤ f → val (pre ++ l) ≤ 4294967295 → vb (val (pre ++ l)) = pre ++ l →
    rdF f pre.length (128 ^ pre.length) (val pre) (l ++ t) = (0, val (pre ++ l), pre.length + l.length) := by
  induction f with
  | zero => intro pre l t hs hl; cases l with | nil => exact absurd hs id | cons b l => simp at hl
  | succ f ih =>
    intro pre l t hs hl hv hc
    cases l with
    | nil => exact absurd hs id
    | cons b l =>
      have ev : val (pre ++ [b]) = val pre + b.toNat % 128 * 128 ^ pre.length := by rw [val_append]; simp [val, Nat.mul_comm]
      cases l with
      | nil =>
        simp only [signed] at hs
        simp only [List.cons_append, List.nil_append, rdF]
        rw [if_neg (by omega), ← ev, if_pos ⟨hv, by rw [hc]; simp⟩]
        simp
      | cons c l =>
        simp only [signed] at hs
        simp only [List.cons_append, rdF]
        rw [if_pos hs.1, ← ev]
        have h := ih (pre ++ [b]) (c :: l) t hs.2 (by simp at hl ⊢; omega) (by simpa using hv) (by simpa using hc)
        simp only [List.length_append, List.length_singleton, Nat.pow_succ, List.append_assoc, List.cons_append, List.nil_append] at h
        rw [h]; simp; omega

theorem rdF_short (l : List UInt8) : ∀ f i p acc, (∀ x, x ∈ l → 128 ≤ x.toNat) → l.length < f → rdF f i p acc l = (3, 0, 0) := by
  induction l with
  | nil => intro f i p acc _ h; cases f with | zero => simp at h | succ f => rfl
  | cons b l ih =>
    intro f i p acc hp h
    cases f with
    | zero => simp at h
    | succ f =>
      simp only [rdF, if_pos (hp b List.mem_cons_self)]
      exact ih f _ _ _ (fun x hx => hp x (List.mem_cons_of_mem _ hx)) (by simp at h; omega)

theorem signed_take (l : List UInt8) : ∀ i, signed l → i < l.length → ∀ x, x ∈ l.take i → 128 ≤ x.toNat := by
  induction l with
  | nil => intro i h; exact absurd h id
  | cons b l ih =>
    intro i hs hi x hx
    cases i with
    | zero => simp at hx
    | succ i =>
      cases l with
      | nil => simp at hi
      | cons c l =>
        simp only [signed] at hs
        rw [List.take_succ_cons, List.mem_cons] at hx
        rcases hx with h | h
        · rw [h]; exact hs.1
        · exact ih i hs.2 (by simpa using hi) x h

theorem rd_vb (n : Nat) (t : List UInt8) (h : n ≤ 4294967295) : rd (vb n ++ t) = (0, n, (vb n).length) := by
  have hv := vb_signed n
  have := rdF_vb 5 [] (vb n) t hv.1 (vb_len5 n h) (by simpa [hv.2] using h) (by simp [hv.2])
  simpa [hv.2, rd, val] using this
theorem rd_short (n i : Nat) (h : n ≤ 4294967295) (hi : i < (vb n).length) : rd ((vb n).take i) = (3, 0, 0) :=
  rdF_short _ 5 0 1 0 (signed_take _ i (vb_signed n).1 hi) (by have := vb_len5 n h; simp; omega)
theorem rd_ok (l : List UInt8) (n c : Nat) (h : rd l = (0, n, c)) : c ≤ l.length ∧ n ≤ 4294967295 ∧ vb n = l.take c := by
  obtain ⟨m, h1, h2, h3, h4⟩ := rdF_ok 5 [] l n c (by simp) (by simpa [val, rd] using h)
  simp at h1; subst h1
  exact ⟨h2, h3, by simpa using h4⟩


def RdRel (s : ByteArray) (w : World) (a' : Act) (w' : World) : Prop :=
  w' = w ∧ ∃ (k acc : Nat) (u7 u8 u9 u10 u11 u12 u13 u14 u15 u16 u17 u18 u19 u20 u21 u22 u23 u24 u25 u26 u27 u28 u29 u30 u31 u32 u33 u34 u35 u36 u37 : Value), a' = { tmps := #[.string s, undef, .int .i64 0, .string ⟨#[]⟩, .int .i64 0, .int .i64 acc, .int .i64 k, u7, u8, u9, u10, u11, u12, u13, u14, u15, u16, u17, u18, u19, u20, u21, u22, u23, u24, u25, u26, u27, u28, u29, u30, u31, u32, u33, u34, u35, u36, u37], defers := [] } ∧ (k ≤ 5 ∧ k ≤ s.size) ∧ acc < 128 ^ k ∧ rdF (5 - k) k (128 ^ k) acc (s.data.toList.drop k) = rd s.data.toList
def RdPost (s : ByteArray) (w : World) (e : Ending) (w' : World) : Prop :=
  (∃ n, w' = w.drewN n) ∧ e = .returned (.tuple #[.int .i64 (rd s.data.toList).2.1, .string (if (rd s.data.toList).1 = 0 then s.extract (rd s.data.toList).2.2 s.size else ⟨#[]⟩), .int .i64 (rd s.data.toList).1])

theorem drop_at (s : ByteArray) (k : Nat) (h : k < s.size) : s.data.toList.drop k = s[k] :: s.data.toList.drop (k + 1) := by
  rw [List.drop_eq_getElem_cons (by simpa using h)]; rfl
theorem drop_out (s : ByteArray) (k : Nat) (h : ¬ k < s.size) : s.data.toList.drop k = [] := List.drop_of_length_le (by simp; omega)

theorem rd_goto (f k p acc : Nat) (s : ByteArray) (h : k < s.size) (hb : 128 ≤ s[k].toNat) : rdF (f + 1) k p acc (s.data.toList.drop k) = rdF f (k + 1) (p * 128) (acc + s[k].toNat % 128 * p) (s.data.toList.drop (k + 1)) := by
  rw [drop_at s k h]; simp only [rdF, if_pos hb]
theorem rd_none (f k p acc : Nat) (s : ByteArray) (h : ¬ k < s.size) : rdF (f + 1) k p acc (s.data.toList.drop k) = (3, 0, 0) := by
  rw [drop_out s k h]; rfl
theorem rd_good (f k p acc : Nat) (s : ByteArray) (h : k < s.size) (hb : ¬ 128 ≤ s[k].toNat) (hq : acc + s[k].toNat % 128 * p ≤ 4294967295 ∧ (vb (acc + s[k].toNat % 128 * p)).length = k + 1) :
    rdF (f + 1) k p acc (s.data.toList.drop k) = (0, acc + s[k].toNat % 128 * p, k + 1) := by
  rw [drop_at s k h]; simp only [rdF, if_neg hb, if_pos hq]
theorem rd_bad (f k p acc : Nat) (s : ByteArray) (h : k < s.size) (hb : ¬ 128 ≤ s[k].toNat) (hq : ¬ (acc + s[k].toNat % 128 * p ≤ 4294967295 ∧ (vb (acc + s[k].toNat % 128 * p)).length = k + 1)) :
    rdF (f + 1) k p acc (s.data.toList.drop k) = (4, 0, 0) := by
  rw [drop_at s k h]; simp only [rdF, if_neg hb, if_neg hq]

theorem rdPost_mk (s : ByteArray) (w w' : World) (e n c : Nat) (v : ByteArray) (n' : Int) (hw : ∃ n, w' = w.drewN n) (h : rd s.data.toList = (e, n, c)) (hv : v = if e = 0 then s.extract c s.size else ⟨#[]⟩) (hn : n' = n) :
    RdPost s w (.returned (.tuple #[.int .i64 n', .string v, .int .i64 e])) w' := ⟨hw, by rw [h, hv, hn]⟩
theorem rdRel_mk (s : ByteArray) (w : World) (k acc : Nat) (n' k' : Int) (u7 u8 u9 u10 u11 u12 u13 u14 u15 u16 u17 u18 u19 u20 u21 u22 u23 u24 u25 u26 u27 u28 u29 u30 u31 u32 u33 u34 u35 u36 u37 : Value) (hn : n' = acc) (hk' : k' = k) (hk : k ≤ 5 ∧ k ≤ s.size) (ha : acc < 128 ^ k) (hr : rdF (5 - k) k (128 ^ k) acc (s.data.toList.drop k) = rd s.data.toList) :
    RdRel s w { tmps := #[.string s, undef, .int .i64 0, .string ⟨#[]⟩, .int .i64 0, .int .i64 n', .int .i64 k', u7, u8, u9, u10, u11, u12, u13, u14, u15, u16, u17, u18, u19, u20, u21, u22, u23, u24, u25, u26, u27, u28, u29, u30, u31, u32, u33, u34, u35, u36, u37], defers := [] } w :=
  ⟨rfl, k, acc, u7, u8, u9, u10, u11, u12, u13, u14, u15, u16, u17, u18, u19, u20, u21, u22, u23, u24, u25, u26, u27, u28, u29, u30, u31, u32, u33, u34, u35, u36, u37, by rw [hn, hk'], hk, ha, hr⟩
theorem rd_start (s : ByteArray) : rdF (4 + 1) 0 (128 ^ 0) 0 (s.data.toList.drop 0) = rd s.data.toList := rfl
theorem rdAct {a b : Int} {p q : Array Value} (h : a = b) : ({ tmps := p ++ #[.int .i64 a] ++ q, defers := [] } : Act) = { tmps := p ++ #[.int .i64 b] ++ q, defers := [] } := by rw [h]
theorem size_int (n : Int) (m c : Nat) (e : n = m) (h : m ≤ 4294967295) (hc : (vb m).length = c) (w : World) :
    Calls Try.prog 36 #[.int .i64 n] w fun e w' => e = .returned (.int .i64 c) ∧ w = w' := by
  subst e; rw [← hc]; exact size_in m h w

set_option maxHeartbeats 1600000 in
theorem read_any (s : ByteArray) (hs : s.size ≤ maxLen) (w : World) :
    Calls Try.prog 38 #[.string s] w (RdPost s w) := by
  unfold maxLen at hs
  have HR := Lib.hid (rd_start s)
  go_enter Try.func38, Try.ntmps38
  go_wp2
  refine wp_scope_jumps 0 (RdRel s w) (fun a' _ => 5 - (intOf (a'.tmps.getD 6 undef)).toNat) rfl ?_ ?_
  · by_cases h0 : 0 < s.size
    · have hb : s[0].toNat < 256 := s[0].toNat_lt
      have h0' : ((0 : Int) == (s.size : Int)) = false := by rw [beq_eq_false_iff_ne]; omega
      by_cases h1 : 128 ≤ s[0].toNat
      · go_wp2
        go_step3
        go_wp2
        go_step3
        simp only [Exit.then, Exit.jump]
        exact ⟨trivial, rdRel_mk s w 1 (0 + s[0].toNat % 128 * 128 ^ 0) _ _ _ _ _ _ _ _ _ _ _ _ _ _ _ _ _ _ _ _ _ _ _ _ _ _ _ _ _ _ _ _ _ (by simp; try omega) (by simp) (by omega) (by omega) ((rd_goto 4 0 (128 ^ 0) 0 s h0 h1).symm.trans HR.out)⟩
      · by_cases hq : (0 + s[0].toNat % 128 * 128 ^ 0) ≤ 4294967295 ∧ (vb (0 + s[0].toNat % 128 * 128 ^ 0)).length = 1
        · have HZ := Lib.hid (show rd s.data.toList = (0, (0 + s[0].toNat % 128 * 128 ^ 0), 1) from HR.out.symm.trans (rd_good 4 0 (128 ^ 0) 0 s h0 h1 hq))
          have HQ := Lib.hid hq; clear hq
          have h2 : (1 : Int) ≤ (s.size : Int) := by omega
          go_wp2
          go_step3
          go_wp2_with fail
          refine (size_int _ (0 + s[0].toNat % 128 * 128 ^ 0) 1 (by first | omega | (simp; omega)) HQ.out.1 HQ.out.2 _).mono ?_; rintro e w' ⟨rfl, rfl⟩
          go_wp2_with fail
          go_quiet (fail)
          go_wp2
          simp only [Exit.jump]
          go_ret3
          refine rdPost_mk s w _ 0 (0 + s[0].toNat % 128 * 128 ^ 0) 1 _ _ ⟨nq, rfl⟩ HZ.out rfl (by simp; try omega)
        · have HZ := Lib.hid (show rd s.data.toList = (4, 0, 0) from HR.out.symm.trans (rd_bad 4 0 (128 ^ 0) 0 s h0 h1 hq))
          by_cases hm : (0 + s[0].toNat % 128 * 128 ^ 0) ≤ 4294967295
          · obtain ⟨c, hc⟩ : ∃ c, (vb (0 + s[0].toNat % 128 * 128 ^ 0)).length = c := ⟨_, rfl⟩
            have hcb : ((c : Int) == 1) = false := by rw [beq_eq_false_iff_ne]; intro h; exact hq ⟨hm, by omega⟩
            have HC := Lib.hid hc; clear hc hq
            go_wp2
            go_step3
            go_wp2_with fail
            refine (size_int _ (0 + s[0].toNat % 128 * 128 ^ 0) c (by first | omega | (simp; omega)) hm HC.out _).mono ?_; rintro e w' ⟨rfl, rfl⟩
            go_wp2
            simp only [Exit.jump]
            go_ret3
            exact rdPost_mk s w w 4 0 0 _ _ ⟨0, rfl⟩ HZ.out rfl rfl
          · exact absurd (show (0 + s[0].toNat % 128 * 128 ^ 0) ≤ 4294967295 by omega) hm
    · have HZ := Lib.hid (show rd s.data.toList = (3, 0, 0) from HR.out.symm.trans (rd_none 4 0 (128 ^ 0) 0 s h0))
      have h0' : ((0 : Int) == (s.size : Int)) = true := by rw [beq_iff_eq]; omega
      go_wp2
      go_step3
      go_wp2
      simp only [Exit.jump]
      go_ret3
      exact rdPost_mk s w w 3 0 0 _ _ ⟨0, rfl⟩ HZ.out rfl rfl
  · clear HR
    rintro a' w' ⟨rfl, k, acc, u7, u8, u9, u10, u11, u12, u13, u14, u15, u16, u17, u18, u19, u20, u21, u22, u23, u24, u25, u26, u27, u28, u29, u30, u31, u32, u33, u34, u35, u36, u37, rfl, ⟨hk, hks⟩, ha, hr⟩
    have HR := Lib.hid hr; clear hr
    rcases (show k = 0 ∨ k = 1 ∨ k = 2 ∨ k = 3 ∨ k = 4 ∨ k = 5 by omega) with rfl | rfl | rfl | rfl | rfl | rfl
    · by_cases h0 : 0 < s.size
      · have hb : s[0].toNat < 256 := s[0].toNat_lt
        have h0' : ((0 : Int) == (s.size : Int)) = false := by rw [beq_eq_false_iff_ne]; omega
        by_cases h1 : 128 ≤ s[0].toNat
        · go_wp2
          go_step3
          simp only [Exit.then, Exit.jump]
          exact ⟨rfl, rdRel_mk s w' 1 (acc + s[0].toNat % 128 * 128 ^ 0) _ _ _ _ _ _ _ _ _ _ _ _ _ _ _ _ _ _ _ _ _ _ _ _ _ _ _ _ _ _ _ _ _ (by simp; try omega) (by simp) (by omega) (by omega) ((rd_goto 4 0 (128 ^ 0) acc s h0 h1).symm.trans HR.out), by simp [intOf]⟩
        · by_cases hq : (acc + s[0].toNat % 128 * 128 ^ 0) ≤ 4294967295 ∧ (vb (acc + s[0].toNat % 128 * 128 ^ 0)).length = 1
          · have HZ := Lib.hid (show rd s.data.toList = (0, (acc + s[0].toNat % 128 * 128 ^ 0), 1) from HR.out.symm.trans (rd_good 4 0 (128 ^ 0) acc s h0 h1 hq))
            have HQ := Lib.hid hq; clear hq
            have h2 : (1 : Int) ≤ (s.size : Int) := by omega
            go_wp2_with fail
            refine (size_int _ (acc + s[0].toNat % 128 * 128 ^ 0) 1 (by first | omega | (simp; omega)) HQ.out.1 HQ.out.2 _).mono ?_; rintro e w' ⟨rfl, rfl⟩
            go_wp2_with fail
            go_quiet (fail)
            go_wp2
            simp only [Exit.jump]
            go_ret3
            refine rdPost_mk s w' _ 0 (acc + s[0].toNat % 128 * 128 ^ 0) 1 _ _ ⟨nq, rfl⟩ HZ.out rfl (by simp; try omega)
          · have HZ := Lib.hid (show rd s.data.toList = (4, 0, 0) from HR.out.symm.trans (rd_bad 4 0 (128 ^ 0) acc s h0 h1 hq))
            by_cases hm : (acc + s[0].toNat % 128 * 128 ^ 0) ≤ 4294967295
            · obtain ⟨c, hc⟩ : ∃ c, (vb (acc + s[0].toNat % 128 * 128 ^ 0)).length = c := ⟨_, rfl⟩
              have hcb : ((c : Int) == 1) = false := by rw [beq_eq_false_iff_ne]; intro h; exact hq ⟨hm, by omega⟩
              have HC := Lib.hid hc; clear hc hq
              go_wp2_with fail
              refine (size_int _ (acc + s[0].toNat % 128 * 128 ^ 0) c (by first | omega | (simp; omega)) hm HC.out _).mono ?_; rintro e w' ⟨rfl, rfl⟩
              go_wp2
              simp only [Exit.jump]
              go_ret3
              exact rdPost_mk s w' w' 4 0 0 _ _ ⟨0, rfl⟩ HZ.out rfl rfl
            · exact absurd (show (acc + s[0].toNat % 128 * 128 ^ 0) ≤ 4294967295 by omega) hm
      · have HZ := Lib.hid (show rd s.data.toList = (3, 0, 0) from HR.out.symm.trans (rd_none 4 0 (128 ^ 0) acc s h0))
        have h0' : ((0 : Int) == (s.size : Int)) = true := by rw [beq_iff_eq]; omega
        go_wp2
        simp only [Exit.jump]
        go_ret3
        exact rdPost_mk s w' w' 3 0 0 _ _ ⟨0, rfl⟩ HZ.out rfl rfl
    · by_cases h0 : 1 < s.size
      · have hb : s[1].toNat < 256 := s[1].toNat_lt
        have h0' : ((1 : Int) == (s.size : Int)) = false := by rw [beq_eq_false_iff_ne]; omega
        by_cases h1 : 128 ≤ s[1].toNat
        · go_wp2
          go_step3
          simp only [Exit.then, Exit.jump]
          exact ⟨rfl, rdRel_mk s w' 2 (acc + s[1].toNat % 128 * 128 ^ 1) _ _ _ _ _ _ _ _ _ _ _ _ _ _ _ _ _ _ _ _ _ _ _ _ _ _ _ _ _ _ _ _ _ (by simp; try omega) (by simp) (by omega) (by omega) ((rd_goto 3 1 (128 ^ 1) acc s h0 h1).symm.trans HR.out), by simp [intOf]⟩
        · by_cases hq : (acc + s[1].toNat % 128 * 128 ^ 1) ≤ 4294967295 ∧ (vb (acc + s[1].toNat % 128 * 128 ^ 1)).length = 2
          · have HZ := Lib.hid (show rd s.data.toList = (0, (acc + s[1].toNat % 128 * 128 ^ 1), 2) from HR.out.symm.trans (rd_good 3 1 (128 ^ 1) acc s h0 h1 hq))
            have HQ := Lib.hid hq; clear hq
            have h2 : (2 : Int) ≤ (s.size : Int) := by omega
            go_wp2_with fail
            refine (size_int _ (acc + s[1].toNat % 128 * 128 ^ 1) 2 (by first | omega | (simp; omega)) HQ.out.1 HQ.out.2 _).mono ?_; rintro e w' ⟨rfl, rfl⟩
            go_wp2_with fail
            go_quiet (fail)
            go_wp2
            simp only [Exit.jump]
            go_ret3
            refine rdPost_mk s w' _ 0 (acc + s[1].toNat % 128 * 128 ^ 1) 2 _ _ ⟨nq, rfl⟩ HZ.out rfl (by simp; try omega)
          · have HZ := Lib.hid (show rd s.data.toList = (4, 0, 0) from HR.out.symm.trans (rd_bad 3 1 (128 ^ 1) acc s h0 h1 hq))
            by_cases hm : (acc + s[1].toNat % 128 * 128 ^ 1) ≤ 4294967295
            · obtain ⟨c, hc⟩ : ∃ c, (vb (acc + s[1].toNat % 128 * 128 ^ 1)).length = c := ⟨_, rfl⟩
              have hcb : ((c : Int) == 2) = false := by rw [beq_eq_false_iff_ne]; intro h; exact hq ⟨hm, by omega⟩
              have HC := Lib.hid hc; clear hc hq
              go_wp2_with fail
              refine (size_int _ (acc + s[1].toNat % 128 * 128 ^ 1) c (by first | omega | (simp; omega)) hm HC.out _).mono ?_; rintro e w' ⟨rfl, rfl⟩
              go_wp2
              simp only [Exit.jump]
              go_ret3
              exact rdPost_mk s w' w' 4 0 0 _ _ ⟨0, rfl⟩ HZ.out rfl rfl
            · exact absurd (show (acc + s[1].toNat % 128 * 128 ^ 1) ≤ 4294967295 by omega) hm
      · have HZ := Lib.hid (show rd s.data.toList = (3, 0, 0) from HR.out.symm.trans (rd_none 3 1 (128 ^ 1) acc s h0))
        have h0' : ((1 : Int) == (s.size : Int)) = true := by rw [beq_iff_eq]; omega
        go_wp2
        simp only [Exit.jump]
        go_ret3
        exact rdPost_mk s w' w' 3 0 0 _ _ ⟨0, rfl⟩ HZ.out rfl rfl
    · by_cases h0 : 2 < s.size
      · have hb : s[2].toNat < 256 := s[2].toNat_lt
        have h0' : ((2 : Int) == (s.size : Int)) = false := by rw [beq_eq_false_iff_ne]; omega
        by_cases h1 : 128 ≤ s[2].toNat
        · go_wp2
          go_step3
          simp only [Exit.then, Exit.jump]
          exact ⟨rfl, rdRel_mk s w' 3 (acc + s[2].toNat % 128 * 128 ^ 2) _ _ _ _ _ _ _ _ _ _ _ _ _ _ _ _ _ _ _ _ _ _ _ _ _ _ _ _ _ _ _ _ _ (by simp; try omega) (by simp) (by omega) (by omega) ((rd_goto 2 2 (128 ^ 2) acc s h0 h1).symm.trans HR.out), by simp [intOf]⟩
        · by_cases hq : (acc + s[2].toNat % 128 * 128 ^ 2) ≤ 4294967295 ∧ (vb (acc + s[2].toNat % 128 * 128 ^ 2)).length = 3
          · have HZ := Lib.hid (show rd s.data.toList = (0, (acc + s[2].toNat % 128 * 128 ^ 2), 3) from HR.out.symm.trans (rd_good 2 2 (128 ^ 2) acc s h0 h1 hq))
            have HQ := Lib.hid hq; clear hq
            have h2 : (3 : Int) ≤ (s.size : Int) := by omega
            go_wp2_with fail
            refine (size_int _ (acc + s[2].toNat % 128 * 128 ^ 2) 3 (by first | omega | (simp; omega)) HQ.out.1 HQ.out.2 _).mono ?_; rintro e w' ⟨rfl, rfl⟩
            go_wp2_with fail
            go_quiet (fail)
            go_wp2
            simp only [Exit.jump]
            go_ret3
            refine rdPost_mk s w' _ 0 (acc + s[2].toNat % 128 * 128 ^ 2) 3 _ _ ⟨nq, rfl⟩ HZ.out rfl (by simp; try omega)
          · have HZ := Lib.hid (show rd s.data.toList = (4, 0, 0) from HR.out.symm.trans (rd_bad 2 2 (128 ^ 2) acc s h0 h1 hq))
            by_cases hm : (acc + s[2].toNat % 128 * 128 ^ 2) ≤ 4294967295
            · obtain ⟨c, hc⟩ : ∃ c, (vb (acc + s[2].toNat % 128 * 128 ^ 2)).length = c := ⟨_, rfl⟩
              have hcb : ((c : Int) == 3) = false := by rw [beq_eq_false_iff_ne]; intro h; exact hq ⟨hm, by omega⟩
              have HC := Lib.hid hc; clear hc hq
              go_wp2_with fail
              refine (size_int _ (acc + s[2].toNat % 128 * 128 ^ 2) c (by first | omega | (simp; omega)) hm HC.out _).mono ?_; rintro e w' ⟨rfl, rfl⟩
              go_wp2
              simp only [Exit.jump]
              go_ret3
              exact rdPost_mk s w' w' 4 0 0 _ _ ⟨0, rfl⟩ HZ.out rfl rfl
            · exact absurd (show (acc + s[2].toNat % 128 * 128 ^ 2) ≤ 4294967295 by omega) hm
      · have HZ := Lib.hid (show rd s.data.toList = (3, 0, 0) from HR.out.symm.trans (rd_none 2 2 (128 ^ 2) acc s h0))
        have h0' : ((2 : Int) == (s.size : Int)) = true := by rw [beq_iff_eq]; omega
        go_wp2
        simp only [Exit.jump]
        go_ret3
        exact rdPost_mk s w' w' 3 0 0 _ _ ⟨0, rfl⟩ HZ.out rfl rfl
    · by_cases h0 : 3 < s.size
      · have hb : s[3].toNat < 256 := s[3].toNat_lt
        have h0' : ((3 : Int) == (s.size : Int)) = false := by rw [beq_eq_false_iff_ne]; omega
        by_cases h1 : 128 ≤ s[3].toNat
        · go_wp2
          go_step3
          simp only [Exit.then, Exit.jump]
          exact ⟨rfl, rdRel_mk s w' 4 (acc + s[3].toNat % 128 * 128 ^ 3) _ _ _ _ _ _ _ _ _ _ _ _ _ _ _ _ _ _ _ _ _ _ _ _ _ _ _ _ _ _ _ _ _ (by simp; try omega) (by simp) (by omega) (by omega) ((rd_goto 1 3 (128 ^ 3) acc s h0 h1).symm.trans HR.out), by simp [intOf]⟩
        · by_cases hq : (acc + s[3].toNat % 128 * 128 ^ 3) ≤ 4294967295 ∧ (vb (acc + s[3].toNat % 128 * 128 ^ 3)).length = 4
          · have HZ := Lib.hid (show rd s.data.toList = (0, (acc + s[3].toNat % 128 * 128 ^ 3), 4) from HR.out.symm.trans (rd_good 1 3 (128 ^ 3) acc s h0 h1 hq))
            have HQ := Lib.hid hq; clear hq
            have h2 : (4 : Int) ≤ (s.size : Int) := by omega
            go_wp2_with fail
            refine (size_int _ (acc + s[3].toNat % 128 * 128 ^ 3) 4 (by first | omega | (simp; omega)) HQ.out.1 HQ.out.2 _).mono ?_; rintro e w' ⟨rfl, rfl⟩
            go_wp2_with fail
            go_quiet (fail)
            go_wp2
            simp only [Exit.jump]
            go_ret3
            refine rdPost_mk s w' _ 0 (acc + s[3].toNat % 128 * 128 ^ 3) 4 _ _ ⟨nq, rfl⟩ HZ.out rfl (by simp; try omega)
          · have HZ := Lib.hid (show rd s.data.toList = (4, 0, 0) from HR.out.symm.trans (rd_bad 1 3 (128 ^ 3) acc s h0 h1 hq))
            by_cases hm : (acc + s[3].toNat % 128 * 128 ^ 3) ≤ 4294967295
            · obtain ⟨c, hc⟩ : ∃ c, (vb (acc + s[3].toNat % 128 * 128 ^ 3)).length = c := ⟨_, rfl⟩
              have hcb : ((c : Int) == 4) = false := by rw [beq_eq_false_iff_ne]; intro h; exact hq ⟨hm, by omega⟩
              have HC := Lib.hid hc; clear hc hq
              go_wp2_with fail
              refine (size_int _ (acc + s[3].toNat % 128 * 128 ^ 3) c (by first | omega | (simp; omega)) hm HC.out _).mono ?_; rintro e w' ⟨rfl, rfl⟩
              go_wp2
              simp only [Exit.jump]
              go_ret3
              exact rdPost_mk s w' w' 4 0 0 _ _ ⟨0, rfl⟩ HZ.out rfl rfl
            · exact absurd (show (acc + s[3].toNat % 128 * 128 ^ 3) ≤ 4294967295 by omega) hm
      · have HZ := Lib.hid (show rd s.data.toList = (3, 0, 0) from HR.out.symm.trans (rd_none 1 3 (128 ^ 3) acc s h0))
        have h0' : ((3 : Int) == (s.size : Int)) = true := by rw [beq_iff_eq]; omega
        go_wp2
        simp only [Exit.jump]
        go_ret3
        exact rdPost_mk s w' w' 3 0 0 _ _ ⟨0, rfl⟩ HZ.out rfl rfl
    · by_cases h0 : 4 < s.size
      · have hb : s[4].toNat < 256 := s[4].toNat_lt
        have h0' : ((4 : Int) == (s.size : Int)) = false := by rw [beq_eq_false_iff_ne]; omega
        by_cases h1 : 128 ≤ s[4].toNat
        · go_wp2
          go_step3
          simp only [Exit.then, Exit.jump]
          exact ⟨rfl, rdRel_mk s w' 5 (acc + s[4].toNat % 128 * 128 ^ 4) _ _ _ _ _ _ _ _ _ _ _ _ _ _ _ _ _ _ _ _ _ _ _ _ _ _ _ _ _ _ _ _ _ (by simp; try omega) (by simp) (by omega) (by omega) ((rd_goto 0 4 (128 ^ 4) acc s h0 h1).symm.trans HR.out), by simp [intOf]⟩
        · by_cases hq : (acc + s[4].toNat % 128 * 128 ^ 4) ≤ 4294967295 ∧ (vb (acc + s[4].toNat % 128 * 128 ^ 4)).length = 5
          · have HZ := Lib.hid (show rd s.data.toList = (0, (acc + s[4].toNat % 128 * 128 ^ 4), 5) from HR.out.symm.trans (rd_good 0 4 (128 ^ 4) acc s h0 h1 hq))
            have HQ := Lib.hid hq; clear hq
            have h2 : (5 : Int) ≤ (s.size : Int) := by omega
            go_wp2_with fail
            refine (size_int _ (acc + s[4].toNat % 128 * 128 ^ 4) 5 (by first | omega | (simp; omega)) HQ.out.1 HQ.out.2 _).mono ?_; rintro e w' ⟨rfl, rfl⟩
            go_wp2_with fail
            go_quiet (fail)
            go_wp2
            simp only [Exit.jump]
            go_ret3
            refine rdPost_mk s w' _ 0 (acc + s[4].toNat % 128 * 128 ^ 4) 5 _ _ ⟨nq, rfl⟩ HZ.out rfl (by simp; try omega)
          · have HZ := Lib.hid (show rd s.data.toList = (4, 0, 0) from HR.out.symm.trans (rd_bad 0 4 (128 ^ 4) acc s h0 h1 hq))
            by_cases hm : (acc + s[4].toNat % 128 * 128 ^ 4) ≤ 4294967295
            · obtain ⟨c, hc⟩ : ∃ c, (vb (acc + s[4].toNat % 128 * 128 ^ 4)).length = c := ⟨_, rfl⟩
              have hcb : ((c : Int) == 5) = false := by rw [beq_eq_false_iff_ne]; intro h; exact hq ⟨hm, by omega⟩
              have HC := Lib.hid hc; clear hc hq
              go_wp2_with fail
              refine (size_int _ (acc + s[4].toNat % 128 * 128 ^ 4) c (by first | omega | (simp; omega)) hm HC.out _).mono ?_; rintro e w' ⟨rfl, rfl⟩
              go_wp2
              simp only [Exit.jump]
              go_ret3
              exact rdPost_mk s w' w' 4 0 0 _ _ ⟨0, rfl⟩ HZ.out rfl rfl
            · clear hq
              go_wp2_with fail
              refine (size_out _ (by omega) _).mono ?_; rintro e w' ⟨rfl, rfl⟩
              go_wp2
              simp only [Exit.jump]
              go_ret3
              exact rdPost_mk s w' w' 4 0 0 _ _ ⟨0, rfl⟩ HZ.out rfl rfl
      · have HZ := Lib.hid (show rd s.data.toList = (3, 0, 0) from HR.out.symm.trans (rd_none 0 4 (128 ^ 4) acc s h0))
        have h0' : ((4 : Int) == (s.size : Int)) = true := by rw [beq_iff_eq]; omega
        go_wp2
        simp only [Exit.jump]
        go_ret3
        exact rdPost_mk s w' w' 3 0 0 _ _ ⟨0, rfl⟩ HZ.out rfl rfl
    · have HZ := Lib.hid (show rd s.data.toList = (4, 0, 0) from HR.out.symm)
      go_wp2
      simp only [Exit.jump]
      go_ret3
      exact rdPost_mk s w' w' 4 0 0 _ _ ⟨0, rfl⟩ HZ.out rfl rfl

end Go.Proofs.Ytnpbjnhjgoafpaa
