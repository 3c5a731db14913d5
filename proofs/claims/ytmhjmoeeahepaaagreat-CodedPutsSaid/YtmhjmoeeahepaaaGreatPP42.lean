import Derived.Test.YtmhjmoeeahepaaaGreatPP41
import Derived.Test.YtmhjmoeeahepaaaGreatPP22
import Derived.Laws.StructEq
/- Layer 27: mathematics: all tokens are read back. -/
namespace Go.Proofs.YtmhjmoeeahepaaaGreat
set_option linter.unusedVariables false
set_option linter.unusedSimpArgs false
set_option maxRecDepth 100000
open Bits hiding packF pack_length
open RunsMath KraftMath CanonMath TurnMath Pm
def sumK (q : List Tk) : Nat := (q.map szN).sum
theorem sumK_cons (t : Tk) (q : List Tk) : sumK (t :: q) = szN t + sumK q := by simp [sumK]
theorem loop_back {l : List Tk} {M D : List Int} (T : Tabs l M D) (hok : ∀ t ∈ l, t.ok) (D' : Option (List Int)) (hD : (∃ t ∈ l, t.k = 1) → D' = some D) (rest : List Bool) (m : Nat) : ∀ (q : List Tk) (A : List Bool) (a : List Tk) (f : Nat), (∀ t ∈ q, t ∈ l) → q.length ≤ f →
    loopR M D' (A ++ (q.flatMap (tokB M D) ++ rest)) f (sumK q + m) A.length a = loopR M D' (A ++ (q.flatMap (tokB M D) ++ rest)) (f - q.length) m (A.length + (q.flatMap (tokB M D)).length) (a ++ q) := by
  intro q
  induction q with
  | nil => intro A a f hq hf; simp [sumK]
  | cons t q ih =>
    intro A a f hq hf
    obtain ⟨f, rfl⟩ : ∃ f', f = f' + 1 := ⟨f - 1, by simp at hf; omega⟩
    have ht : t ∈ l := hq t (by simp)
    obtain ⟨-, hz, -⟩ := sz_ok (hok t ht)
    have hb := tok_back T ht (hok t ht) D' (fun e => hD ⟨t, ht, e⟩) A (q.flatMap (tokB M D) ++ rest)
    rw [List.flatMap_cons, List.append_assoc, sumK_cons]
    have e1 : loopR M D' (A ++ (tokB M D t ++ (q.flatMap (tokB M D) ++ rest))) (f + 1) (szN t + sumK q + m) A.length a = loopR M D' (A ++ (tokB M D t ++ (q.flatMap (tokB M D) ++ rest))) f (sumK q + m) (A.length + (tokB M D t).length) (a ++ [t]) := by
      rw [loopR, if_neg (by omega), hb]
      simp only
      rw [if_neg (by omega), show szN t + sumK q + m - szN t = sumK q + m by omega]
    rw [e1]
    have ih := ih (A ++ tokB M D t) (a ++ [t]) f (fun x hx => hq x (by simp [hx])) (by simp at hf; omega)
    rw [List.append_assoc, List.length_append] at ih
    rw [ih]
    simp only [List.length_append, List.length_cons, List.append_assoc, List.singleton_append]
    rw [show f + 1 - (q.length + 1) = f - q.length by omega, Nat.add_assoc]
theorem loop_cut {l : List Tk} {M D : List Int} (T : Tabs l M D) (hok : ∀ t ∈ l, t.ok) (D' : Option (List Int)) (hD : (∃ t ∈ l, t.k = 1) → D' = some D) : ∀ (q : List Tk) (A : List Bool) (a : List Tk) (f c : Nat), (∀ t ∈ q, t ∈ l) → q.length ≤ f → c < (q.flatMap (tokB M D)).length →
    loopR M D' (A ++ (q.flatMap (tokB M D)).take c) f (sumK q) A.length a = .bad 3 := by
  intro q
  induction q with
  | nil => intro A a f c hq hf hc; simp at hc
  | cons t q ih =>
    intro A a f c hq hf hc
    obtain ⟨f, rfl⟩ : ∃ f', f = f' + 1 := ⟨f - 1, by simp at hf; omega⟩
    have ht : t ∈ l := hq t (by simp)
    obtain ⟨-, hz, -⟩ := sz_ok (hok t ht)
    rw [List.flatMap_cons] at hc ⊢
    rw [List.length_append] at hc
    rw [sumK_cons]
    by_cases hcc : c < (tokB M D t).length
    · rw [take_lo (by omega), loopR, if_neg (by omega), tok_cut T ht (hok t ht) D' (fun e => hD ⟨t, ht, e⟩) A c hcc]
    · rw [take_hi (by omega)]
      have hb := tok_back T ht (hok t ht) D' (fun e => hD ⟨t, ht, e⟩) A ((q.flatMap (tokB M D)).take (c - (tokB M D t).length))
      rw [loopR, if_neg (by omega), hb]
      simp only
      rw [if_neg (by omega), show szN t + sumK q - szN t = sumK q by omega]
      have ih := ih (A ++ tokB M D t) (a ++ [t]) f (c - (tokB M D t).length) (fun x hx => hq x (by simp [hx])) (by simp at hf; omega) (by omega)
      rw [List.append_assoc, List.length_append] at ih
      exact ih
theorem loop_end (M : List Int) (D' : Option (List Int)) (L : List Bool) (f t : Nat) (a : List Tk) (hf : f ≠ 0) : loopR M D' L f 0 t a = endR L t a := by
  obtain ⟨f, rfl⟩ : ∃ f', f = f' + 1 := ⟨f - 1, by omega⟩
  rw [loopR, if_pos rfl]
theorem sum_len (l : List Tk) (hok : ∀ t ∈ l, t.ok) : l.length ≤ sumK l := by
  induction l with
  | nil => simp
  | cons t l ih =>
    have := (sz_ok (hok t (by simp))).2.1
    have := ih (fun x hx => hok x (by simp [hx]))
    rw [sumK_cons, List.length_cons]; omega
end Go.Proofs.YtmhjmoeeahepaaaGreat

/- Layer 27: Tokens of what was written. -/
namespace Go.Proofs.YtmhjmoeeahepaaaGreat
open Go.ChangeShapes Go.WideShapes Go.ChangeAt Go.RowKit
set_option linter.unusedVariables false
set_option linter.unusedSimpArgs false
set_option maxRecDepth 100000
open Bits hiding packF pack_length
open RunsMath KraftMath CanonMath TurnMath Pm
theorem bits_zero : ∀ n, bitsOf 0 n = List.replicate n false
  | 0 => rfl
  | n + 1 => by rw [bitsOf, show 0 / 2 = 0 from rfl, bits_zero n, List.replicate_succ]; rfl
theorem bytesK_spread (l : List Tk) : ∃ k, k < 8 ∧ spread (bytesK l) = bitsK l ++ List.replicate k false := by
  unfold bytesK
  obtain ⟨n, hn⟩ : ∃ n, lack (bitsK l).length = n := ⟨_, rfl⟩
  rw [hn]
  obtain ⟨k, hk, hs, hm⟩ := spread_pack (bitsK l ++ bitsOf 0 n)
  rw [List.length_append, bitsOf_length] at hm
  unfold lack at hn
  have : k = 0 := by omega
  subst this
  exact ⟨n, by omega, by rw [hs, bits_zero, List.replicate_zero, List.append_nil]⟩
theorem drop_all {P X : List Bool} : (P ++ X).drop P.length = X := List.drop_left
/-- A table that was written is read. -/
theorem rdt_ok (g n : Nat) (s : List UInt8) (P rest : List Bool) (l : List Int) (hn : l.length = n) (h0 : l ≠ []) (hl : n ≤ 1024) (hok : okB l = true) (hs : spread s = P ++ (tabB l ++ rest)) :
    Rdt g P.length n s (.good (packL l) (P.length + (tabB l).length)) ∧ (unpack (packL l) n).2 = l := by
  obtain ⟨r, hr⟩ : ∃ r, packL l = r := ⟨_, rfl⟩
  unfold tabB at hs ⊢
  rw [hr] at hs ⊢
  obtain ⟨hR, hun, hsum, hrl, h16⟩ := read_facts h0 (by omega) hok r hr
  rw [hn] at hun hsum hrl
  have hn1 : 1 ≤ n := by rw [← hn]; exact List.length_pos_iff.2 h0
  obtain ⟨a1, a2, a3⟩ := head_at hR P (r.flatMap (runB (ofR r)) ++ rest)
  have e : P ++ (writeB r (ofR r) ++ rest) = P ++ (headB (ofR r) ++ (r.flatMap (runB (ofR r)) ++ rest)) := by unfold writeB; simp only [List.append_assoc]
  rw [e] at hs
  rw [← hs] at a1 a2
  have hlen : (spread s).length = 8 * s.length := spread_length s
  have hl2 := congrArg List.length hs
  simp only [List.length_append] at hl2
  have hrd := rd_runs hR n rest r [] (P ++ headB (ofR r)) 0 (n + 1) rfl (by omega) (by omega) (fun _ => h16)
  have e2 : P ++ headB (ofR r) ++ r.flatMap (runB (ofR r)) ++ rest = spread s := by rw [hs]; simp only [List.append_assoc]
  rw [e2, List.length_append, a3] at hrd
  have hwl : (writeB r (ofR r)).length = 4 + 3 * headN (ofR r) 19 + (r.flatMap (runB (ofR r))).length := by unfold writeB; rw [List.length_append, a3]
  refine ⟨fun W hW => cReadAll W g P.length s hW n hn1 (by omega) _ (fun W' hW' => cRead W' g P.length s hW' n hn1 (by omega) _ a1 (by omega) (ofR r) a2 hR.chk7 _ (by rw [show P.length + 4 + 3 * headN (ofR r) 19 = P.length + (4 + 3 * headN (ofR r) 19) by omega, hrd, hwl]; simp only [Nat.add_assoc]) (fun r' t e _ => by injection e with e _; rw [← e, hun])), by rw [hun]⟩
/-- A table that lacks its end. -/
theorem rdt_cut (g n : Nat) (s : List UInt8) (P : List Bool) (l : List Int) (hn : l.length = n) (h0 : l ≠ []) (hl : n ≤ 1024) (hok : okB l = true) (c : Nat) (hc : c < ((packL l).flatMap (runB (ofR (packL l)))).length) (hs : spread s = P ++ (headB (ofR (packL l)) ++ ((packL l).flatMap (runB (ofR (packL l)))).take c)) :
    Rdt g P.length n s (.bad 3) := by
  obtain ⟨r, hr⟩ : ∃ r, packL l = r := ⟨_, rfl⟩
  rw [hr] at hs hc
  obtain ⟨hR, hun, hsum, hrl, h16⟩ := read_facts h0 (by omega) hok r hr
  rw [hn] at hun hsum hrl
  have hn1 : 1 ≤ n := by rw [← hn]; exact List.length_pos_iff.2 h0
  obtain ⟨a1, a2, a3⟩ := head_at hR P ((r.flatMap (runB (ofR r))).take c)
  rw [← hs] at a1 a2
  have hlen : (spread s).length = 8 * s.length := spread_length s
  have hl2 := congrArg List.length hs
  simp only [List.length_append] at hl2
  have hrd := rd_cut hR n r [] (P ++ headB (ofR r)) 0 (n + 1) c rfl (by omega) (by omega) (fun _ => h16) hc
  have e2 : P ++ headB (ofR r) ++ (r.flatMap (runB (ofR r))).take c = spread s := by rw [hs]; simp only [List.append_assoc]
  rw [e2, List.length_append, a3] at hrd
  exact fun W hW => cReadAll W g P.length s hW n hn1 (by omega) _ (fun W' hW' => cRead W' g P.length s hW' n hn1 (by omega) _ a1 (by omega) (ofR r) a2 hR.chk7 _ (by rw [show P.length + 4 + 3 * headN (ofR r) 19 = P.length + (4 + 3 * headN (ofR r) 19) by omega, hrd]) (fun r' t e _ => by cases e))
/-- What is ahead of the tokens is read, then they. -/
theorem read27W (l : List Tk) (M D : List Int) (T : Tabs l M D) (s : List UInt8) (rest : List Bool) (hs : spread s = headsB (farB l) M D ++ rest) (raw : Nat) (hraw : raw ≤ 65536) (R : FR) (hL : loopR M (if farB l then some D else none) (spread s) (raw + 1) raw (headsB (farB l) M D).length [] = R) (W : World) (g : Nat) (hr : IsReader W g s 0) :
    Calls Tryz.prog 32 #[.pointer (some ⟨g, 0, none⟩), .int .i64 raw] W (EndF R W g) := by
  have hM0 : M ≠ [] := fun e => by have := T.lm; rw [e] at this; simp at this
  have hD0 : D ≠ [] := fun e => by have := T.ld; rw [e] at this; simp at this
  have hlen : (spread s).length = 8 * s.length := spread_length s
  have hl2 := congrArg List.length hs
  unfold headsB at hs hl2 hL
  cases hf : farB l with
  | false =>
    rw [hf] at hs hL hl2
    simp only [Bool.false_eq_true, if_false] at hs hL hl2
    rw [List.append_assoc] at hs
    obtain ⟨C1, hu⟩ := rdt_ok g 401 s [] ([false] ++ rest) M T.lm hM0 (by decide) T.vM (by rw [hs]; rfl)
    rw [List.length_nil, Nat.zero_add] at C1
    simp only [List.length_append, List.length_singleton] at hL hl2
    refine read27Near W g raw s hr _ (tabB M).length M C1 hu T.lm T.okM (by omega) (by rw [hs, List.drop_left]; rfl) hraw R hL
  | true =>
    rw [hf] at hs hL hl2
    simp only [if_true] at hs hL hl2
    obtain ⟨f1, f2⟩ := T.far ((far_iff l).1 hf)
    rw [List.append_assoc] at hs
    obtain ⟨C1, hu⟩ := rdt_ok g 401 s [] (true :: tabB D ++ rest) M T.lm hM0 (by decide) T.vM (by rw [hs]; rfl)
    rw [List.length_nil, Nat.zero_add] at C1
    obtain ⟨C3, hu3⟩ := rdt_ok g 52 s (tabB M ++ [true]) rest D T.ld hD0 (by decide) T.vD (by rw [hs]; simp only [List.append_assoc, List.cons_append, List.nil_append])
    simp only [List.length_append, List.length_singleton] at C3
    simp only [List.length_append, List.length_cons] at hL hl2
    refine read27Far W g raw s hr _ (tabB M).length M C1 hu T.lm T.okM (by omega) (by rw [hs, List.drop_left]; rfl) _ _ D C3 hu3 T.ld f1 hraw R ?_
    rw [show (tabB M).length + 1 + (tabB D).length = (tabB M).length + ((tabB D).length + 1) by omega]
    exact hL
set_option maxHeartbeats 1600000 in
/-- What is written lacks its end. -/
theorem read27Cut (l : List Tk) (M D : List Int) (T : Tabs l M D) (hok : ∀ t ∈ l, t.ok) (h0 : l ≠ []) (s : List UInt8) (c : Nat) (hs : spread s = (codedB l M D).take c) (hc : c < (codedB l M D).length) (hc8 : (codedB l M D).length ≤ c + 8) (hraw : sumK l ≤ 65536) (W : World) (g : Nat) (hr : IsReader W g s 0) :
    Calls Tryz.prog 32 #[.pointer (some ⟨g, 0, none⟩), .int .i64 (sumK l)] W (EndF (.bad 3) W g) := by
  have hM0 : M ≠ [] := fun e => by have := T.lm; rw [e] at this; simp at this
  have hD0 : D ≠ [] := fun e => by have := T.ld; rw [e] at this; simp at this
  have hD' : (∃ t ∈ l, t.k = 1) → (if farB l then some D else none) = some D := fun h => by rw [if_pos ((far_iff l).2 h)]
  unfold codedB at hs hc hc8
  rw [List.length_append] at hc hc8
  by_cases hch : (headsB (farB l) M D).length ≤ c
  · rw [take_hi hch] at hs
    refine read27W l M D T s _ hs (sumK l) hraw _ ?_ W g hr
    rw [hs]
    exact loop_cut T hok _ hD' l _ [] _ _ (fun t h => h) (by have := sum_len l hok; omega) (by omega)
  · have hlen : (spread s).length = 8 * s.length := spread_length s
    rw [take_lo (by omega)] at hs
    have hl2 := congrArg List.length hs
    rw [List.length_take] at hl2
    obtain ⟨t0, ht0⟩ := List.exists_mem_of_ne_nil l h0
    have htb : ∀ t ∈ l, (tokB M D t).length ≤ (l.flatMap (tokB M D)).length := fun t ht => by
      obtain ⟨a, b, e⟩ := List.append_of_mem ht
      rw [e, List.flatMap_append, List.flatMap_cons, List.length_append, List.length_append]; omega
    have ht1 : ∀ t ∈ l, 1 ≤ (tokB M D t).length ∧ (t.k = 1 → 2 ≤ (tokB M D t).length) := fun t ht => by
      have h1 := T.sM t ht
      unfold tokB
      rw [List.length_append, bitsS_len]
      refine ⟨by omega, fun hk => ?_⟩
      have h2 := (T.far ⟨t, ht, hk⟩).2 t ht hk
      rw [if_neg (by omega), if_pos hk, List.length_append, List.length_append, bitsS_len]
      omega
    obtain ⟨rM, hrM⟩ : ∃ r, packL M = r := ⟨_, rfl⟩
    obtain ⟨m1, m2, m3, m4, m5⟩ := read_facts hM0 (by have := T.lm; omega) T.vM rM hrM
    have m8 := runs_8 m1 (by have := T.lm; omega)
    have hMW : tabB M = headB (ofR rM) ++ rM.flatMap (runB (ofR rM)) := by unfold tabB writeB; rw [hrM]
    have hMl := congrArg List.length hMW
    rw [List.length_append] at hMl
    unfold headsB at hs hc hc8 hch hl2
    cases hf : farB l with
    | false =>
      rw [hf] at hs hc hc8 hch hl2
      simp only [Bool.false_eq_true, if_false, List.length_append, List.length_singleton] at hs hc hc8 hch hl2
      have h1 := htb t0 ht0
      have h2 := (ht1 t0 ht0).1
      by_cases hcm : c < (tabB M).length
      · have C := rdt_cut g 401 s [] M T.lm hM0 (by decide) T.vM (c - (headB (ofR rM)).length) (by rw [hrM]; omega) (by
          rw [hs, take_lo (by omega), hMW, take_hi (by omega), hrM]; rfl)
        have := read27No1 W g (sumK l) s hr 3 (by decide) C
        exact this
      · obtain rfl : c = (tabB M).length := by omega
        have hs' : spread s = tabB M ++ [] := by rw [hs, take_lo (Nat.le_refl _), List.take_length, List.append_nil]
        obtain ⟨C1, hu⟩ := rdt_ok g 401 s [] [] M T.lm hM0 (by decide) T.vM (by rw [hs']; rfl)
        rw [List.length_nil, Nat.zero_add] at C1
        exact read27No2 W g (sumK l) s hr _ (tabB M).length M C1 hu T.lm T.okM (by omega)
    | true =>
      rw [hf] at hs hc hc8 hch hl2
      simp only [if_true, List.length_append, List.length_cons] at hs hc hc8 hch hl2
      obtain ⟨t1, ht1', hk1⟩ := (far_iff l).1 hf
      have h1 := htb t1 ht1'
      have h2 := (ht1 t1 ht1').2 hk1
      obtain ⟨rD, hrD⟩ : ∃ r, packL D = r := ⟨_, rfl⟩
      obtain ⟨d1, d2, d3, d4, d5⟩ := read_facts hD0 (by have := T.ld; omega) T.vD rD hrD
      have d8 := runs_8 d1 (by have := T.ld; omega)
      have hDW : tabB D = headB (ofR rD) ++ rD.flatMap (runB (ofR rD)) := by unfold tabB writeB; rw [hrD]
      have hDl := congrArg List.length hDW
      rw [List.length_append] at hDl
      have hsp : spread s = (tabB M ++ [true]) ++ (headB (ofR rD) ++ (rD.flatMap (runB (ofR rD))).take (c - (tabB M).length - 1 - (headB (ofR rD)).length)) := by
        rw [hs, show tabB M ++ true :: tabB D = (tabB M ++ [true]) ++ tabB D by simp, take_hi (by simp; omega), hDW, take_hi (by simp; omega)]
        simp only [List.length_append, List.length_singleton]
        rw [show c - ((tabB M).length + 1) - (headB (ofR rD)).length = c - (tabB M).length - 1 - (headB (ofR rD)).length by omega]
      have C3 := rdt_cut g 52 s (tabB M ++ [true]) D T.ld hD0 (by decide) T.vD (c - (tabB M).length - 1 - (headB (ofR rD)).length) (by rw [hrD]; omega) (by rw [hsp, hrD])
      obtain ⟨C1, hu⟩ := rdt_ok g 401 s [] ([true] ++ (headB (ofR rD) ++ (rD.flatMap (runB (ofR rD))).take (c - (tabB M).length - 1 - (headB (ofR rD)).length))) M T.lm hM0 (by decide) T.vM (by rw [hsp]; simp only [List.append_assoc, List.nil_append])
      rw [List.length_nil, Nat.zero_add] at C1
      simp only [List.length_append, List.length_singleton] at C3
      have := read27No3 W g (sumK l) s hr _ (tabB M).length M C1 hu T.lm T.okM (by omega) (by rw [hsp, List.append_assoc, List.drop_left]; rfl) 3 (by decide) C3
      exact this
end Go.Proofs.YtmhjmoeeahepaaaGreat

/- Layer 16, carried over: the document's Size. -/
namespace Go.Proofs.YtmhjmoeeahepaaaGreat.Tok
open Go.ChangeShapes Go.WideShapes Go.ChangeAt Go.RowKit
set_option linter.unusedVariables false
set_option linter.unusedSimpArgs false
set_option maxRecDepth 100000
set_option maxHeartbeats 800000 in
theorem refSize_any (k b l d r : Int) (w : World) :
    Calls Tryz.prog 29 #[.agg #[.int .i64 k, .int .i64 b, .int .i64 l, .int .i64 d, .int .i64 r]] w fun e w' => e = .returned (.int .i64 (szTok k b l d r)) ∧ Below w.heap.size w w' := by
  have C := Lib.hid (refCheck_any k b l d r)
  by_cases h : OkTok k b l d r
  · have e1 : chk k b l d r = 0 := (chk_yes h).symm
    rw [e1] at C
    clear e1
    by_cases k0 : k = 0
    · subst k0
      have e2 : szTok 0 b l d r = 1 := by unfold szTok; rw [if_pos h, if_pos rfl]
      rw [e2]; clear e2 h
      go_enter Tryz.func29, Tryz.ntmps29
      go_wp2_with fail
      refine (C.out _).mono ?_; rintro e w1 ⟨rfl, hb1⟩
      obtain ⟨⟨q0, q1, q2⟩, q3, q4⟩ := boxed5 hb1
      have hlt : w.heap.size < w1.heap.size := by have := hb1.size; simp at this; omega
      have hbb := below_box hb1
      clear hb1
      go_wp2
      go_ret
      exact ⟨rfl, hbb⟩
    · skip
      by_cases k1 : k = 1
      · subst k1
        have e2 : szTok 1 b l d r = l := by unfold szTok; rw [if_pos h, if_neg (by decide)]
        rw [e2]; clear e2 h
        go_enter Tryz.func29, Tryz.ntmps29
        go_wp2_with fail
        refine (C.out _).mono ?_; rintro e w1 ⟨rfl, hb1⟩
        obtain ⟨⟨q0, q1, q2⟩, q3, q4⟩ := boxed5 hb1
        have hlt : w.heap.size < w1.heap.size := by have := hb1.size; simp at this; omega
        have hbb := below_box hb1
        clear hb1
        go_wp2
        go_ret
        exact ⟨rfl, hbb⟩
      · skip
        obtain rfl : k = 2 := by unfold OkTok at h; omega
        have e2 : szTok 2 b l d r = l := by unfold szTok; rw [if_pos h, if_neg (by decide)]
        rw [e2]; clear e2 h
        go_enter Tryz.func29, Tryz.ntmps29
        go_wp2_with fail
        refine (C.out _).mono ?_; rintro e w1 ⟨rfl, hb1⟩
        obtain ⟨⟨q0, q1, q2⟩, q3, q4⟩ := boxed5 hb1
        have hlt : w.heap.size < w1.heap.size := by have := hb1.size; simp at this; omega
        have hbb := below_box hb1
        clear hb1
        go_wp2
        go_ret
        exact ⟨rfl, hbb⟩
  · have e1 : chk k b l d r = 10 := (chk_no h).symm
    have e2 : szTok k b l d r = 0 := if_neg h
    rw [e1] at C
    rw [e2]; clear e1 e2 h
    go_enter Tryz.func29, Tryz.ntmps29
    go_wp2_with fail
    refine (C.out _).mono ?_; rintro e w1 ⟨rfl, hb1⟩
    have hbb := below_box hb1
    clear hb1
    go_wp2
    go_ret
    exact ⟨rfl, hbb⟩
end Go.Proofs.YtmhjmoeeahepaaaGreat.Tok

/- Layer 27: Tokens of what was written, of a part, of more; the document's Same. -/
namespace Go.Proofs.YtmhjmoeeahepaaaGreat
open Go.ChangeShapes Go.WideShapes Go.ChangeAt Go.RowKit
set_option linter.unusedVariables false
set_option linter.unusedSimpArgs false
set_option maxRecDepth 100000
open Bits hiding packF pack_length
open RunsMath KraftMath CanonMath TurnMath Pm
/-- Not even a table's first four bits. -/
theorem rdNone (w0 : World) (g t0 : Nat) (s : List UInt8) (hr : IsReader w0 g s t0) (n : Nat) (h : 8 * s.length < t0 + 4) :
    Calls Tryz.prog 107 #[.pointer (some ⟨g, 0, none⟩), .int .i64 n] w0 (EndR (.bad 3) w0 g s n) := by
  obtain ⟨Z, hZs, hz, hi⟩ := arr19
  have HSZ : Hid ((Tryz.prog.info? 123).map (·.size) = some (arrI placesI).size) := by show _ = _; rw [hi, placesA_size]
  have HZS : Hid (Z.size = (arrI placesI).size) := by show _ = _; rw [hZs, placesA_size]
  have HONE := Lib.hid (arrI_one placesI)
  have CO := Lib.hid (fun W => cOrder13 W)
  obtain ⟨T, hTT⟩ : ∃ T, arrI placesI = T := ⟨_, rfl⟩
  rw [hTT] at HSZ HZS HONE CO
  have HS0 := Lib.hid (Rs.start hr)
  have CT4 := Lib.hid (fun W (h1 : IsReader W g s t0) => show Calls Tryz.prog 118 #[.pointer (some ⟨g, 0, none⟩), .int .i64 4] W _ from (tTakeOut W g t0 4 s h1 (by decide) h))
  clear hi hZs hTT hr
  go_enter Tryz.func107, Tryz.ntmps107
  go_wp2_with fail
  refine (CO.out _).mono ?_; rintro e w1 ⟨rfl, hb1⟩
  have HS1 := Lib.hid (HS0.out.below hb1)
  have hsz1 := hb1.size
  clear hb1 CO HS0
  go_wp2_with (first
    | (refine wpList_store_row rfl 123 (.tmp 5) (.tmp 16) rfl w1.heap.size T rfl rfl 123 Z (heap_alloc_new w1 _) HSZ.out HZS.out HONE.out ?_; rw [setRow_last])
    | fail)
  obtain ⟨w2, hw2⟩ : ∃ w2, w1.alloc (.cells T 123) = w2 := ⟨_, rfl⟩
  have HS2 := Lib.hid (show Rs w0 w2 g s t0 by rw [← hw2]; exact HS1.out.below ((Below.refl _ _).alloc hsz1 _))
  rw [hw2]
  have C2 := Lib.hid (CT4.out w2 HS2.out.rd)
  clear HS1 hw2 hsz1 CT4 HSZ HZS HONE
  refine C2.out.mono ?_; rintro e w3 ⟨rfl, k, rfl⟩
  have HK := Lib.hid (HS2.out.keep.drewN k)
  clear HS2 C2
  go_wp2_with fail
  exact ⟨rfl, rfl, HK.out⟩
theorem rdt_none (g n : Nat) (s : List UInt8) (t : Nat) (hn1 : 1 ≤ n) (hn : n ≤ 1024) (h : 8 * s.length < t + 4) : Rdt g t n s (.bad 3) :=
  fun W hW => cReadAll W g t s hW n hn1 hn _ (fun W' hW' => rdNone W' g t s hW' n h)
end Go.Proofs.YtmhjmoeeahepaaaGreat
