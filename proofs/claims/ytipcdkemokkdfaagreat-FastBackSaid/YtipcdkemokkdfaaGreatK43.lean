import Derived.Test.YtipcdkemokkdfaaGreatK42
import Derived.Test.YtipcdkemokkdfaaGreatK05
import Derived.Laws.StructEq
/- Layer 27: mathematics: tokens are read back. -/
namespace Go.Proofs.YtipcdkemokkdfaaGreat
set_option linter.unusedVariables false
set_option linter.unusedSimpArgs false
set_option maxRecDepth 100000
open Bits hiding packF pack_length
open RunsMath KraftMath CanonMath TurnMath Pm
theorem numR_back {ex tb wide : Nat → Nat} (A rest : List Bool) (k v : Nat) (hv : v < 2 ^ ex k) (hw : wide k = 2 ^ ex k) : numR ex tb wide (A ++ (bitsOf v (ex k) ++ rest)) A.length k = .good (tb k + v) (A.length + ex k) := by
  have hp : peek ((A ++ (bitsOf v (ex k) ++ rest)).drop A.length) (ex k) = v := by rw [List.drop_left, peek_put _ _ _ hv]
  unfold numR
  rw [if_neg (by rw [List.length_append, List.length_append, bitsOf_length]; omega), hp, if_pos (by omega)]
theorem tokR_hit {M : List Int} {D : Option (List Int)} {L : List Bool} {t : Nat} {X Y : Int} (hX : nextL M 15 (L.drop t) = (X, Y, 0)) :
    tokR M D L t = if X < 256 then .good ⟨0, X, 0, 0, 0⟩ (t + Y.toNat) else match numL L (t + Y.toNat) (Tok.ofS X).toNat with
      | .bad E => .bad E
      | .good n p => if X < 285 then (match D with
          | none => .bad 4
          | some d => farR d L n p)
        else .good ⟨2, 0, (n : Int), 0, (X - 285) / 29⟩ p := by
  unfold tokR
  rw [hX]
  simp only [ne_eq, not_true_eq_false, if_false]
  rfl
theorem farR_hit {d : List Int} {L : List Bool} {n t : Nat} {X Y : Int} (hX : nextL d 15 (L.drop t) = (X, Y, 0)) :
    farR d L n t = match numD L (t + Y.toNat) X.toNat with
      | .bad E => .bad E
      | .good m p => .good ⟨1, 0, (n : Int), (m : Int), 0⟩ p := by
  unfold farR
  rw [hX]
  simp only [ne_eq, not_true_eq_false, if_false]
  rfl
theorem ok_copy {l d : Nat} (hl : 2 ≤ l ∧ l ≤ 258) (hd : 1 ≤ d ∧ d ≤ 67108864) : Tok.OkTok 1 0 (l : Int) (d : Int) 0 := .inr (.inl ⟨rfl, by omega, by omega, by omega, by omega, rfl, rfl⟩)
theorem ok_rep {l r : Nat} (hl : 2 ≤ l ∧ l ≤ 258) (hr : r ≤ 3) : Tok.OkTok 2 0 (l : Int) 0 (r : Int) := .inr (.inr ⟨rfl, by omega, by omega, by omega, by omega, rfl, rfl⟩)
theorem bitsS_at (l : List Int) (s : Nat) : bitsS l (s : Int) = msb (code l s) (len l s) := by unfold bitsS; rw [Int.toNat_natCast]
theorem hit15 {l : List Int} {s : Nat} (h : check l 15 = 0) (hs : s < l.length) (h0 : 0 < len l s) (rest : List Bool) : nextL l 15 (bitsS l (s : Int) ++ rest) = (((s : Nat) : Int), ((len l s : Nat) : Int), 0) := by
  have h16 := check_16 h
  rw [bitsS_at]
  exact next_hit h16.1 h16.2.1 (by decide) (by decide) hs (by omega) rest
theorem bitsS_len (l : List Int) (s : Nat) : (bitsS l (s : Int)).length = len l s := by rw [bitsS_at, msb_len]
theorem extD_eq (d : Nat) (h1 : 1 ≤ d) (h : d ≤ 67108864) : Slo.tbD (Slo.slotD d) + (d - Slo.tbD (Slo.slotD d)) = d := by have := (Slo.slotD_facts d h1 h).2.1; omega
theorem extL_eq (l : Nat) (h2 : 2 ≤ l) (h : l ≤ 258) : Slo.tbL (Tok.slotL l) + (l - Tok.tbL (Tok.slotL l)) = l := by
  have hf := Tok.slotL_facts ⟨l, by omega⟩ h2
  simp only at hf
  rw [tb_same]
  have := hf.2.1
  omega
theorem numL_back (A rest : List Bool) (l : Nat) (h2 : 2 ≤ l) (h : l ≤ 258) : numL (A ++ (extL l ++ rest)) A.length (Tok.slotL l) = .good l (A.length + (extL l).length) := by
  obtain ⟨e1, -, -⟩ := extL_lt l h2 h
  have := numR_back (ex := Tok.exL) (tb := Slo.tbL) (wide := Slo.wideL) A rest (Tok.slotL l) _ e1 rfl
  rw [extL_eq l h2 h] at this
  unfold numL extL
  rw [this, bitsOf_length]
theorem numD_back (A rest : List Bool) (d : Nat) (h1 : 1 ≤ d) (h : d ≤ 67108864) : numD (A ++ (extD d ++ rest)) A.length (Slo.slotD d) = .good d (A.length + (extD d).length) := by
  obtain ⟨e1, -, -⟩ := extD_lt d h1 h
  have := numR_back (ex := Slo.exD) (tb := Slo.tbD) (wide := Slo.wideD) A rest (Slo.slotD d) _ e1 rfl
  rw [extD_eq d h1 h] at this
  unfold numD extD
  rw [this, bitsOf_length]
theorem farR_back {D : List Int} (hD : check D 15 = 0) (ld : D.length = 52) (A rest : List Bool) (n d : Nat) (h1 : 1 ≤ d) (h : d ≤ 67108864) (hp : 0 < len D (Slo.slotD d)) :
    farR D (A ++ (bitsS D (Slo.slotD d : Int) ++ (extD d ++ rest))) n A.length = .good ⟨1, 0, (n : Int), (d : Int), 0⟩ (A.length + ((bitsS D (Slo.slotD d : Int)).length + (extD d).length)) := by
  have hs := (Slo.slotD_facts d h1 h).1
  rw [farR_hit (by rw [List.drop_left]; exact hit15 hD (by omega) hp _)]
  have e : A.length + ((len D (Slo.slotD d) : Nat) : Int).toNat = (A ++ bitsS D (Slo.slotD d : Int)).length := by rw [List.length_append, bitsS_len, Int.toNat_natCast]
  rw [e, Int.toNat_natCast, ← List.append_assoc A, numD_back _ _ d h1 h]
  simp only [List.length_append, Nat.add_assoc]
theorem sym_lit {b : Int} (h : 0 ≤ b ∧ b ≤ 255) : (symN ⟨0, b, 0, 0, 0⟩ : Int) = b := by
  unfold symN Tok.symTok
  rw [if_pos (.inl ⟨rfl, h.1, h.2, rfl, rfl, rfl⟩)]
  show ((b.toNat : Nat) : Int) = b
  omega
theorem sym_copy {l d : Nat} (hl : 2 ≤ l ∧ l ≤ 258) (hd : 1 ≤ d ∧ d ≤ 67108864) : symN ⟨1, 0, (l : Int), (d : Int), 0⟩ = 256 + Tok.slotL l := by
  unfold symN Tok.symTok
  show (if Tok.OkTok 1 0 (l : Int) (d : Int) 0 then (if (1 : Int) = 0 then (0 : Int) else if (1 : Int) = 1 then 256 + (Tok.slotL (l : Int).toNat : Int) else 285 + 29 * 0 + (Tok.slotL (l : Int).toNat : Int)) else 0).toNat = _
  rw [if_pos (ok_copy hl hd), if_neg (by decide), if_pos rfl, Int.toNat_natCast]
  omega
theorem sym_rep {l r : Nat} (hl : 2 ≤ l ∧ l ≤ 258) (hr : r ≤ 3) : symN ⟨2, 0, (l : Int), 0, (r : Int)⟩ = 285 + 29 * r + Tok.slotL l := by
  unfold symN Tok.symTok
  show (if Tok.OkTok 2 0 (l : Int) 0 (r : Int) then (if (2 : Int) = 0 then (0 : Int) else if (2 : Int) = 1 then 256 + (Tok.slotL (l : Int).toNat : Int) else 285 + 29 * (r : Int) + (Tok.slotL (l : Int).toNat : Int)) else 0).toNat = _
  rw [if_pos (ok_rep hl hr), if_neg (by decide), if_neg (by decide), Int.toNat_natCast]
  omega
theorem ofS_copy {k : Nat} (h : k ≤ 28) : (Tok.ofS ((256 + k : Nat) : Int)).toNat = k := by
  unfold Tok.ofS
  rw [if_neg (by omega), if_neg (by omega), if_pos (by omega)]
  omega
theorem ofS_rep {k r : Nat} (h : k ≤ 28) (hr : r ≤ 3) : (Tok.ofS ((285 + 29 * r + k : Nat) : Int)).toNat = k := by
  unfold Tok.ofS
  rw [if_neg (by omega), if_neg (by omega), if_neg (by omega)]
  omega
/-- A token that was written is read. -/
theorem tok_back {l : List Tk} {M D : List Int} (T : Tabs l M D) {t : Tk} (ht : t ∈ l) (hok : t.ok) (D' : Option (List Int)) (hD : t.k = 1 → D' = some D) (A rest : List Bool) :
    tokR M D' (A ++ (tokB M D t ++ rest)) A.length = .good t (A.length + (tokB M D t).length) := by
  have hsM := T.sM t ht
  have hs4 := (sym_ok t hok).2.1
  have hN : ∀ r2, nextL M 15 ((A ++ (bitsS M (symN t : Int) ++ r2)).drop A.length) = (((symN t : Nat) : Int), ((len M (symN t) : Nat) : Int), 0) := fun r2 => by
    rw [List.drop_left]; exact hit15 T.okM (by rw [T.lm]; omega) hsM r2
  have hAL : A.length + ((len M (symN t) : Nat) : Int).toNat = (A ++ bitsS M (symN t : Int)).length := by rw [List.length_append, bitsS_len, Int.toNat_natCast]
  rcases tok_cases hok with ⟨b, hb, rfl⟩ | ⟨n, d, hn, hd, rfl⟩ | ⟨n, r, hn, hr, rfl⟩
  · have e : tokB M D ⟨0, b, 0, 0, 0⟩ = bitsS M (symN ⟨0, b, 0, 0, 0⟩ : Int) := by unfold tokB; rw [if_pos rfl, List.append_nil]
    rw [e, tokR_hit (hN rest), hAL, sym_lit hb, if_pos (by omega), List.length_append]
  · have hs := sym_copy hn hd
    have hk := (extL_lt n hn.1 hn.2).2.2
    rw [tokB_copy M D n d (symN ⟨1, 0, (n : Int), (d : Int), 0⟩) 0 0 rfl]
    rw [show A ++ ((bitsS M ((symN ⟨1, 0, (n : Int), (d : Int), 0⟩ : Nat) : Int) ++ extL n ++ bitsS D (Slo.slotD d : Int) ++ extD d) ++ rest) = A ++ (bitsS M ((symN ⟨1, 0, (n : Int), (d : Int), 0⟩ : Nat) : Int) ++ (extL n ++ (bitsS D (Slo.slotD d : Int) ++ (extD d ++ rest)))) by simp only [List.append_assoc]]
    rw [tokR_hit (hN _), hAL, if_neg (by rw [hs]; omega), ← List.append_assoc A]
    rw [show (Tok.ofS ((symN ⟨1, 0, (n : Int), (d : Int), 0⟩ : Nat) : Int)).toNat = Tok.slotL n by rw [hs]; exact ofS_copy hk]
    rw [numL_back _ _ n hn.1 hn.2]
    simp only
    rw [if_pos (by rw [hs]; omega), hD rfl]
    simp only
    obtain ⟨f1, f2⟩ := T.far ⟨_, ht, rfl⟩
    have fp := f2 _ ht rfl
    simp only [Int.toNat_natCast] at fp
    rw [← List.length_append, ← List.append_assoc _ (extL n)]
    rw [farR_back f1 T.ld _ _ n d hd.1 hd.2 fp]
    simp only [List.length_append, Nat.add_assoc]
  · have hs := sym_rep hn hr
    have hk := (extL_lt n hn.1 hn.2).2.2
    rw [tokB_rep M D n (symN ⟨2, 0, (n : Int), 0, (r : Int)⟩) 0 0 (r : Int) rfl]
    rw [show A ++ ((bitsS M ((symN ⟨2, 0, (n : Int), 0, (r : Int)⟩ : Nat) : Int) ++ extL n) ++ rest) = A ++ (bitsS M ((symN ⟨2, 0, (n : Int), 0, (r : Int)⟩ : Nat) : Int) ++ (extL n ++ rest)) by simp only [List.append_assoc]]
    rw [tokR_hit (hN _), hAL, if_neg (by rw [hs]; omega), ← List.append_assoc A]
    rw [show (Tok.ofS ((symN ⟨2, 0, (n : Int), 0, (r : Int)⟩ : Nat) : Int)).toNat = Tok.slotL n by rw [hs]; exact ofS_rep hk hr]
    rw [numL_back _ _ n hn.1 hn.2]
    simp only
    rw [if_neg (by rw [hs]; omega), show (((symN ⟨2, 0, (n : Int), 0, (r : Int)⟩ : Nat) : Int) - 285) / 29 = (r : Int) by rw [hs]; omega]
    simp only [List.length_append, Nat.add_assoc]
end Go.Proofs.YtipcdkemokkdfaaGreat

/- Layer 27: mathematics: all tokens are read back. -/
namespace Go.Proofs.YtipcdkemokkdfaaGreat
set_option linter.unusedVariables false
set_option linter.unusedSimpArgs false
set_option maxRecDepth 100000
open Bits hiding packF pack_length
open RunsMath KraftMath CanonMath TurnMath Pm
def sumK (q : List Tk) : Nat := (q.map szN).sum
theorem sumK_cons (t : Tk) (q : List Tk) : sumK (t :: q) = szN t + sumK q := by simp [sumK]
theorem loop_back {l : List Tk} {M D : List Int} (T : Tabs l M D) (hok : ∀ t ∈ l, t.ok) (D' : Option (List Int)) (hD : (∃ t ∈ l, t.k = 1) → D' = some D) (rest : List Bool) (m : Nat) : ∀ (q : List Tk) (A : List Bool) (a : List Tk) (f : Nat), (∀ t ∈ q, t ∈ l) → q.length ≤ f →
    loopR M D' (A ++ (q.flatMap (tokB M D) ++ rest)) f (sumK q + m) A.length a = loopR M D' (A ++ (q.flatMap (tokB M D) ++ rest)) (f - q.length) m (A.length + (q.flatMap (tokB M D)).length) (a ++ q) := by
  intro q
  induction q with
  | nil => intro A a f hq hf; simp [sumK]
  | cons t q ih =>
    intro A a f hq hf
    obtain ⟨f, rfl⟩ : ∃ f', f = f' + 1 := ⟨f - 1, by simp at hf; omega⟩
    have ht : t ∈ l := hq t (by simp)
    obtain ⟨-, hz, -⟩ := sz_ok (hok t ht)
    have hb := tok_back T ht (hok t ht) D' (fun e => hD ⟨t, ht, e⟩) A (q.flatMap (tokB M D) ++ rest)
    rw [List.flatMap_cons, List.append_assoc, sumK_cons]
    have e1 : loopR M D' (A ++ (tokB M D t ++ (q.flatMap (tokB M D) ++ rest))) (f + 1) (szN t + sumK q + m) A.length a = loopR M D' (A ++ (tokB M D t ++ (q.flatMap (tokB M D) ++ rest))) f (sumK q + m) (A.length + (tokB M D t).length) (a ++ [t]) := by
      rw [loopR, if_neg (by omega), hb]
      simp only
      rw [if_neg (by omega), show szN t + sumK q + m - szN t = sumK q + m by omega]
    rw [e1]
    have ih := ih (A ++ tokB M D t) (a ++ [t]) f (fun x hx => hq x (by simp [hx])) (by simp at hf; omega)
    rw [List.append_assoc, List.length_append] at ih
    rw [ih]
    simp only [List.length_append, List.length_cons, List.append_assoc, List.singleton_append]
    rw [show f + 1 - (q.length + 1) = f - q.length by omega, Nat.add_assoc]
theorem loop_end (M : List Int) (D' : Option (List Int)) (L : List Bool) (f t : Nat) (a : List Tk) (hf : f ≠ 0) : loopR M D' L f 0 t a = endR L t a := by
  obtain ⟨f, rfl⟩ : ∃ f', f = f' + 1 := ⟨f - 1, by omega⟩
  rw [loopR, if_pos rfl]
theorem sum_len (l : List Tk) (hok : ∀ t ∈ l, t.ok) : l.length ≤ sumK l := by
  induction l with
  | nil => simp
  | cons t l ih =>
    have := (sz_ok (hok t (by simp))).2.1
    have := ih (fun x hx => hok x (by simp [hx]))
    rw [sumK_cons, List.length_cons]; omega
end Go.Proofs.YtipcdkemokkdfaaGreat

/- Layer 27: Tokens of what was written. -/
namespace Go.Proofs.YtipcdkemokkdfaaGreat
open Go.ChangeShapes Go.WideShapes Go.ChangeAt Go.RowKit
set_option linter.unusedVariables false
set_option linter.unusedSimpArgs false
set_option maxRecDepth 100000
open Bits hiding packF pack_length
open RunsMath KraftMath CanonMath TurnMath Pm
theorem bits_zero : ∀ n, bitsOf 0 n = List.replicate n false
  | 0 => rfl
  | n + 1 => by rw [bitsOf, show 0 / 2 = 0 from rfl, bits_zero n, List.replicate_succ]; rfl
theorem bytesK_spread (l : List Tk) : ∃ k, k < 8 ∧ spread (bytesK l) = bitsK l ++ List.replicate k false := by
  unfold bytesK
  obtain ⟨n, hn⟩ : ∃ n, lack (bitsK l).length = n := ⟨_, rfl⟩
  rw [hn]
  obtain ⟨k, hk, hs, hm⟩ := spread_pack (bitsK l ++ bitsOf 0 n)
  rw [List.length_append, bitsOf_length] at hm
  unfold lack at hn
  have : k = 0 := by omega
  subst this
  exact ⟨n, by omega, by rw [hs, bits_zero, List.replicate_zero, List.append_nil]⟩
/-- A table that was written is read. -/
theorem rdt_ok (g n : Nat) (s : List UInt8) (P rest : List Bool) (l : List Int) (hn : l.length = n) (h0 : l ≠ []) (hl : n ≤ 1024) (hok : okB l = true) (hs : spread s = P ++ (tabB l ++ rest)) :
    Rdt g P.length n s (.good (packL l) (P.length + (tabB l).length)) ∧ (unpack (packL l) n).2 = l := by
  obtain ⟨r, hr⟩ : ∃ r, packL l = r := ⟨_, rfl⟩
  unfold tabB at hs ⊢
  rw [hr] at hs ⊢
  obtain ⟨hR, hun, hsum, hrl, h16⟩ := read_facts h0 (by omega) hok r hr
  rw [hn] at hun hsum hrl
  have hn1 : 1 ≤ n := by rw [← hn]; exact List.length_pos_iff.2 h0
  obtain ⟨a1, a2, a3⟩ := head_at hR P (r.flatMap (runB (ofR r)) ++ rest)
  have e : P ++ (writeB r (ofR r) ++ rest) = P ++ (headB (ofR r) ++ (r.flatMap (runB (ofR r)) ++ rest)) := by unfold writeB; simp only [List.append_assoc]
  rw [e] at hs
  rw [← hs] at a1 a2
  have hlen : (spread s).length = 8 * s.length := spread_length s
  have hl2 := congrArg List.length hs
  simp only [List.length_append] at hl2
  have hrd := rd_runs hR n rest r [] (P ++ headB (ofR r)) 0 (n + 1) rfl (by omega) (by omega) (fun _ => h16)
  have e2 : P ++ headB (ofR r) ++ r.flatMap (runB (ofR r)) ++ rest = spread s := by rw [hs]; simp only [List.append_assoc]
  rw [e2, List.length_append, a3] at hrd
  have hwl : (writeB r (ofR r)).length = 4 + 3 * headN (ofR r) 19 + (r.flatMap (runB (ofR r))).length := by unfold writeB; rw [List.length_append, a3]
  refine ⟨fun W hW => cReadAll W g P.length s hW n hn1 (by omega) _ (fun W' hW' => cRead W' g P.length s hW' n hn1 (by omega) _ a1 (by omega) (ofR r) a2 hR.chk7 _ (by rw [show P.length + 4 + 3 * headN (ofR r) 19 = P.length + (4 + 3 * headN (ofR r) 19) by omega, hrd, hwl]; simp only [Nat.add_assoc]) (fun r' t e _ => by injection e with e _; rw [← e, hun])), by rw [hun]⟩
/-- What is ahead of the tokens is read, then they. -/
theorem read27W (l : List Tk) (M D : List Int) (T : Tabs l M D) (s : List UInt8) (rest : List Bool) (hs : spread s = headsB (farB l) M D ++ rest) (raw : Nat) (hraw : raw ≤ 65536) (R : FR) (hL : loopR M (if farB l then some D else none) (spread s) (raw + 1) raw (headsB (farB l) M D).length [] = R) (W : World) (g : Nat) (hr : IsReader W g s 0) :
    Calls Tryz.prog 31 #[.pointer (some ⟨g, 0, none⟩), .int .i64 raw] W (EndF R W g) := by
  have hM0 : M ≠ [] := fun e => by have := T.lm; rw [e] at this; simp at this
  have hD0 : D ≠ [] := fun e => by have := T.ld; rw [e] at this; simp at this
  have hlen : (spread s).length = 8 * s.length := spread_length s
  have hl2 := congrArg List.length hs
  unfold headsB at hs hl2 hL
  cases hf : farB l with
  | false =>
    rw [hf] at hs hL hl2
    simp only [Bool.false_eq_true, if_false] at hs hL hl2
    rw [List.append_assoc] at hs
    obtain ⟨C1, hu⟩ := rdt_ok g 401 s [] ([false] ++ rest) M T.lm hM0 (by decide) T.vM (by rw [hs]; rfl)
    rw [List.length_nil, Nat.zero_add] at C1
    simp only [List.length_append, List.length_singleton] at hL hl2
    refine read27Near W g raw s hr _ (tabB M).length M C1 hu T.lm T.okM (by omega) (by rw [hs, List.drop_left]; rfl) hraw R hL
  | true =>
    rw [hf] at hs hL hl2
    simp only [if_true] at hs hL hl2
    obtain ⟨f1, f2⟩ := T.far ((far_iff l).1 hf)
    rw [List.append_assoc] at hs
    obtain ⟨C1, hu⟩ := rdt_ok g 401 s [] (true :: tabB D ++ rest) M T.lm hM0 (by decide) T.vM (by rw [hs]; rfl)
    rw [List.length_nil, Nat.zero_add] at C1
    obtain ⟨C3, hu3⟩ := rdt_ok g 52 s (tabB M ++ [true]) rest D T.ld hD0 (by decide) T.vD (by rw [hs]; simp only [List.append_assoc, List.cons_append, List.nil_append])
    simp only [List.length_append, List.length_singleton] at C3
    simp only [List.length_append, List.length_cons] at hL hl2
    refine read27Far W g raw s hr _ (tabB M).length M C1 hu T.lm T.okM (by omega) (by rw [hs, List.drop_left]; rfl) _ _ D C3 hu3 T.ld f1 hraw R ?_
    rw [show (tabB M).length + 1 + (tabB D).length = (tabB M).length + ((tabB D).length + 1) by omega]
    exact hL
end Go.Proofs.YtipcdkemokkdfaaGreat

/- Layer 16, carried over: the document's Size. -/
namespace Go.Proofs.YtipcdkemokkdfaaGreat.Tok
open Go.ChangeShapes Go.WideShapes Go.ChangeAt Go.RowKit
set_option linter.unusedVariables false
set_option linter.unusedSimpArgs false
set_option maxRecDepth 100000
end Go.Proofs.YtipcdkemokkdfaaGreat.Tok

/- Layer 27: Tokens of what was written, of a part, of more; the document's Same. -/
namespace Go.Proofs.YtipcdkemokkdfaaGreat
open Go.ChangeShapes Go.WideShapes Go.ChangeAt Go.RowKit
set_option linter.unusedVariables false
set_option linter.unusedSimpArgs false
set_option maxRecDepth 100000
open Bits hiding packF pack_length
open RunsMath KraftMath CanonMath TurnMath Pm
/-- Not even a table's first four bits. -/
theorem rdNone (w0 : World) (g t0 : Nat) (s : List UInt8) (hr : IsReader w0 g s t0) (n : Nat) (h : 8 * s.length < t0 + 4) :
    Calls Tryz.prog 96 #[.pointer (some ⟨g, 0, none⟩), .int .i64 n] w0 (EndR (.bad 3) w0 g s n) := by
  obtain ⟨Z, hZs, hz, hi⟩ := arr19
  have HSZ : Hid ((Tryz.prog.info? 136).map (·.size) = some (arrI placesI).size) := by show _ = _; rw [hi, placesA_size]
  have HZS : Hid (Z.size = (arrI placesI).size) := by show _ = _; rw [hZs, placesA_size]
  have HONE := Lib.hid (arrI_one placesI)
  have CO := Lib.hid (fun W => cOrder13 W)
  obtain ⟨T, hTT⟩ : ∃ T, arrI placesI = T := ⟨_, rfl⟩
  rw [hTT] at HSZ HZS HONE CO
  have HS0 := Lib.hid (Rs.start hr)
  have CT4 := Lib.hid (fun W (h1 : IsReader W g s t0) => show Calls Tryz.prog 107 #[.pointer (some ⟨g, 0, none⟩), .int .i64 4] W _ from (tTakeOut W g t0 4 s h1 (by decide) h))
  clear hi hZs hTT hr
  go_enter Tryz.func96, Tryz.ntmps96
  go_wp2_with fail
  refine (CO.out _).mono ?_; rintro e w1 ⟨rfl, hb1⟩
  have HS1 := Lib.hid (HS0.out.below hb1)
  have hsz1 := hb1.size
  clear hb1 CO HS0
  go_wp2_with (first
    | (refine wpList_store_row rfl 136 (.tmp 5) (.tmp 16) rfl w1.heap.size T rfl rfl 136 Z (heap_alloc_new w1 _) HSZ.out HZS.out HONE.out ?_; rw [setRow_last])
    | fail)
  obtain ⟨w2, hw2⟩ : ∃ w2, w1.alloc (.cells T 136) = w2 := ⟨_, rfl⟩
  have HS2 := Lib.hid (show Rs w0 w2 g s t0 by rw [← hw2]; exact HS1.out.below ((Below.refl _ _).alloc hsz1 _))
  rw [hw2]
  have C2 := Lib.hid (CT4.out w2 HS2.out.rd)
  clear HS1 hw2 hsz1 CT4 HSZ HZS HONE
  refine C2.out.mono ?_; rintro e w3 ⟨rfl, k, rfl⟩
  have HK := Lib.hid (HS2.out.keep.drewN k)
  clear HS2 C2
  go_wp2_with fail
  exact ⟨rfl, rfl, HK.out⟩
theorem rdt_none (g n : Nat) (s : List UInt8) (t : Nat) (hn1 : 1 ≤ n) (hn : n ≤ 1024) (h : 8 * s.length < t + 4) : Rdt g t n s (.bad 3) :=
  fun W hW => cReadAll W g t s hW n hn1 hn _ (fun W' hW' => rdNone W' g t s hW' n h)
end Go.Proofs.YtipcdkemokkdfaaGreat
