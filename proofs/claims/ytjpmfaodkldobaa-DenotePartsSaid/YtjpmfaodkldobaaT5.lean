/- Layer 18: what pieces mean (mathematics). -/
import Derived.Test.YtjpmfaodkldobaaT3
import Derived.Test.YtjpmfaodkldobaaT4
import Derived.Test.YtjpmfaodkldobaaW5
namespace Go.Proofs.Ytjpmfaodkldobaa
open Go.ChangeShapes Go.WideShapes Go.ChangeAt Go.RowKit
set_option linter.unusedVariables false
set_option maxRecDepth 100000
/-- Four distances. -/
structure Q4 where
  a : Int
  b : Int
  c : Int
  d : Int
/-- A token. -/
structure Tk where
  k : Int
  b : Int
  l : Int
  d : Int
  r : Int
def z4 : Q4 := ⟨0, 0, 0, 0⟩
def q4V (q : Q4) : Value := .agg #[.int .i64 q.a, .int .i64 q.b, .int .i64 q.c, .int .i64 q.d]
def tkV (t : Tk) : Value := .agg #[.int .i64 t.k, .int .i64 t.b, .int .i64 t.l, .int .i64 t.d, .int .i64 t.r]
def Tk.ok (t : Tk) : Prop := OkTok t.k t.b t.l t.d t.r
instance (t : Tk) : Decidable t.ok := by unfold Tk.ok; infer_instance
def useV (q : Q4) (t : Tk) : Q4 × Int × Int :=
  if t.ok then
    if t.k = 0 then (q, 0, 0)
    else if t.k = 1 then (⟨t.d, q.a, q.b, q.c⟩, t.d, 0)
    else if t.r = 0 then (if q.a < 1 ∨ 67108864 < q.a then (z4, 0, 10) else (q, q.a, 0))
    else if t.r = 1 then (if q.b < 1 ∨ 67108864 < q.b then (z4, 0, 10) else (⟨q.b, q.a, q.c, q.d⟩, q.b, 0))
    else if t.r = 2 then (if q.c < 1 ∨ 67108864 < q.c then (z4, 0, 10) else (⟨q.c, q.a, q.b, q.d⟩, q.c, 0))
    else (if q.d < 1 ∨ 67108864 < q.d then (z4, 0, 10) else (⟨q.d, q.a, q.b, q.c⟩, q.d, 0))
  else (z4, 0, 10)
theorem tk_kinds {t : Tk} (h : t.ok) : t.k = 0 ∨ t.k = 1 ∨ (t.k = 2 ∧ (t.r = 0 ∨ t.r = 1 ∨ t.r = 2 ∨ t.r = 3)) := by
  unfold Tk.ok OkTok at h; omega
def UsePost (q : Q4) (t : Tk) (w : World) (e : Ending) (w' : World) : Prop := e = .returned (.tuple #[q4V (useV q t).1, .int .i64 (useV q t).2.1, .int .i64 (useV q t).2.2]) ∧ Below w.heap.size w w'
theorem use_post {q : Q4} {t : Tk} {x : Q4} {y z : Int} (h : useV q t = (x, y, z)) {w : World} {e : Ending} {w' : World} (h2 : e = .returned (.tuple #[q4V x, .int .i64 y, .int .i64 z]) ∧ Below w.heap.size w w') : UsePost q t w e w' := by
  unfold UsePost; rw [h]; exact h2
theorem pUse (q : Q4) (t : Tk) (w : World) : Calls Try.prog 64 #[q4V q, tkV t] w (UsePost q t w) := by
  obtain ⟨k, b, l, d, r⟩ := t
  obtain ⟨q0, q1, q2, q3⟩ := q
  by_cases h : OkTok k b l d r
  · have hok : Tk.ok ⟨k, b, l, d, r⟩ := h
    have hk := tk_kinds hok
    simp only at hk
    rcases hk with rfl | rfl | ⟨rfl, rfl | rfl | rfl | rfl⟩
    · exact (use_lit q0 q1 q2 q3 b l d r h w).mono fun e w' h2 => use_post (x := ⟨q0, q1, q2, q3⟩) (by unfold useV; rw [if_pos hok]; rfl) h2
    · exact (use_copy q0 q1 q2 q3 b l d r h w).mono fun e w' h2 => use_post (x := ⟨d, q0, q1, q2⟩) (by unfold useV; rw [if_pos hok]; rfl) h2
    · by_cases g : q0 < 1 ∨ 67108864 < q0
      · exact (use_off0 q0 q1 q2 q3 b l d h g w).mono fun e w' h2 => use_post (x := z4) (by unfold useV; rw [if_pos hok, if_neg (by simp), if_neg (by simp), if_pos rfl, if_pos g]) h2
      · exact (use_rep0 q0 q1 q2 q3 b l d h (by omega) (by omega) w).mono fun e w' h2 => use_post (x := ⟨q0, q1, q2, q3⟩) (by unfold useV; rw [if_pos hok, if_neg (by simp), if_neg (by simp), if_pos rfl, if_neg g]) h2
    · by_cases g : q1 < 1 ∨ 67108864 < q1
      · exact (use_off1 q0 q1 q2 q3 b l d h g w).mono fun e w' h2 => use_post (x := z4) (by unfold useV; rw [if_pos hok, if_neg (by simp), if_neg (by simp), if_neg (by simp), if_pos rfl, if_pos g]) h2
      · exact (use_rep1 q0 q1 q2 q3 b l d h (by omega) (by omega) w).mono fun e w' h2 => use_post (x := ⟨q1, q0, q2, q3⟩) (by unfold useV; rw [if_pos hok, if_neg (by simp), if_neg (by simp), if_neg (by simp), if_pos rfl, if_neg g]) h2
    · by_cases g : q2 < 1 ∨ 67108864 < q2
      · exact (use_off2 q0 q1 q2 q3 b l d h g w).mono fun e w' h2 => use_post (x := z4) (by unfold useV; rw [if_pos hok, if_neg (by simp), if_neg (by simp), if_neg (by simp), if_neg (by simp), if_pos rfl, if_pos g]) h2
      · exact (use_rep2 q0 q1 q2 q3 b l d h (by omega) (by omega) w).mono fun e w' h2 => use_post (x := ⟨q2, q0, q1, q3⟩) (by unfold useV; rw [if_pos hok, if_neg (by simp), if_neg (by simp), if_neg (by simp), if_neg (by simp), if_pos rfl, if_neg g]) h2
    · by_cases g : q3 < 1 ∨ 67108864 < q3
      · exact (use_off3 q0 q1 q2 q3 b l d h g w).mono fun e w' h2 => use_post (x := z4) (by unfold useV; rw [if_pos hok, if_neg (by simp), if_neg (by simp), if_neg (by simp), if_neg (by simp), if_neg (by simp), if_pos g]) h2
      · exact (use_rep3 q0 q1 q2 q3 b l d h (by omega) (by omega) w).mono fun e w' h2 => use_post (x := ⟨q3, q0, q1, q2⟩) (by unfold useV; rw [if_pos hok, if_neg (by simp), if_neg (by simp), if_neg (by simp), if_neg (by simp), if_neg (by simp), if_neg g]) h2
  · exact (use_bad q0 q1 q2 q3 k b l d r h w).mono fun e w' h2 => use_post (x := z4) (by unfold useV; rw [if_neg (show ¬ Tk.ok ⟨k, b, l, d, r⟩ from h)]) h2
theorem dUse (q : Q4) (t : Tk) (w : World) : Calls Try.prog 65 #[q4V q, tkV t] w (UsePost q t w) := by
  obtain ⟨k, b, l, d, r⟩ := t
  obtain ⟨q0, q1, q2, q3⟩ := q
  by_cases h : OkTok k b l d r
  · have hok : Tk.ok ⟨k, b, l, d, r⟩ := h
    have hk := tk_kinds hok
    simp only at hk
    rcases hk with rfl | rfl | ⟨rfl, rfl | rfl | rfl | rfl⟩
    · exact (refUse_lit q0 q1 q2 q3 b l d r h w).mono fun e w' h2 => use_post (x := ⟨q0, q1, q2, q3⟩) (by unfold useV; rw [if_pos hok]; rfl) h2
    · exact (refUse_copy q0 q1 q2 q3 b l d r h w).mono fun e w' h2 => use_post (x := ⟨d, q0, q1, q2⟩) (by unfold useV; rw [if_pos hok]; rfl) h2
    · by_cases g : q0 < 1 ∨ 67108864 < q0
      · exact (refUse_off0 q0 q1 q2 q3 b l d h g w).mono fun e w' h2 => use_post (x := z4) (by unfold useV; rw [if_pos hok, if_neg (by simp), if_neg (by simp), if_pos rfl, if_pos g]) h2
      · exact (refUse_rep0 q0 q1 q2 q3 b l d h (by omega) (by omega) w).mono fun e w' h2 => use_post (x := ⟨q0, q1, q2, q3⟩) (by unfold useV; rw [if_pos hok, if_neg (by simp), if_neg (by simp), if_pos rfl, if_neg g]) h2
    · by_cases g : q1 < 1 ∨ 67108864 < q1
      · exact (refUse_off1 q0 q1 q2 q3 b l d h g w).mono fun e w' h2 => use_post (x := z4) (by unfold useV; rw [if_pos hok, if_neg (by simp), if_neg (by simp), if_neg (by simp), if_pos rfl, if_pos g]) h2
      · exact (refUse_rep1 q0 q1 q2 q3 b l d h (by omega) (by omega) w).mono fun e w' h2 => use_post (x := ⟨q1, q0, q2, q3⟩) (by unfold useV; rw [if_pos hok, if_neg (by simp), if_neg (by simp), if_neg (by simp), if_pos rfl, if_neg g]) h2
    · by_cases g : q2 < 1 ∨ 67108864 < q2
      · exact (refUse_off2 q0 q1 q2 q3 b l d h g w).mono fun e w' h2 => use_post (x := z4) (by unfold useV; rw [if_pos hok, if_neg (by simp), if_neg (by simp), if_neg (by simp), if_neg (by simp), if_pos rfl, if_pos g]) h2
      · exact (refUse_rep2 q0 q1 q2 q3 b l d h (by omega) (by omega) w).mono fun e w' h2 => use_post (x := ⟨q2, q0, q1, q3⟩) (by unfold useV; rw [if_pos hok, if_neg (by simp), if_neg (by simp), if_neg (by simp), if_neg (by simp), if_pos rfl, if_neg g]) h2
    · by_cases g : q3 < 1 ∨ 67108864 < q3
      · exact (refUse_off3 q0 q1 q2 q3 b l d h g w).mono fun e w' h2 => use_post (x := z4) (by unfold useV; rw [if_pos hok, if_neg (by simp), if_neg (by simp), if_neg (by simp), if_neg (by simp), if_neg (by simp), if_pos g]) h2
      · exact (refUse_rep3 q0 q1 q2 q3 b l d h (by omega) (by omega) w).mono fun e w' h2 => use_post (x := ⟨q3, q0, q1, q2⟩) (by unfold useV; rw [if_pos hok, if_neg (by simp), if_neg (by simp), if_neg (by simp), if_neg (by simp), if_neg (by simp), if_neg g]) h2
  · exact (refUse_bad q0 q1 q2 q3 k b l d r h w).mono fun e w' h2 => use_post (x := z4) (by unfold useV; rw [if_neg (show ¬ Tk.ok ⟨k, b, l, d, r⟩ from h)]) h2
theorem useV_cases (q : Q4) (t : Tk) : ((useV q t).2.2 = 0 ∧ t.ok ∧ ((t.k = 0 ∧ (useV q t).2.1 = 0) ∨ (1 ≤ (useV q t).2.1 ∧ (useV q t).2.1 ≤ 67108864 ∧ 2 ≤ t.l ∧ t.l ≤ 258 ∧ t.k ≠ 0))) ∨ useV q t = (z4, 0, 10) := by
  unfold useV
  by_cases h : t.ok
  · have h' := h
    unfold Tk.ok OkTok at h'
    rw [if_pos h]
    by_cases k0 : t.k = 0
    · rw [if_pos k0]; exact .inl ⟨rfl, h, .inl ⟨k0, rfl⟩⟩
    rw [if_neg k0]
    by_cases k1 : t.k = 1
    · rw [if_pos k1]; exact .inl ⟨rfl, h, .inr ⟨by show 1 ≤ t.d; omega, by show t.d ≤ _; omega, by omega, by omega, k0⟩⟩
    rw [if_neg k1]
    have hl : 2 ≤ t.l ∧ t.l ≤ 258 := by omega
    split
    · split
      · exact .inr rfl
      · exact .inl ⟨rfl, h, .inr ⟨by show 1 ≤ q.a; omega, by show q.a ≤ _; omega, hl.1, hl.2, k0⟩⟩
    · split
      · split
        · exact .inr rfl
        · exact .inl ⟨rfl, h, .inr ⟨by show 1 ≤ q.b; omega, by show q.b ≤ _; omega, hl.1, hl.2, k0⟩⟩
      · split
        · split
          · exact .inr rfl
          · exact .inl ⟨rfl, h, .inr ⟨by show 1 ≤ q.c; omega, by show q.c ≤ _; omega, hl.1, hl.2, k0⟩⟩
        · split
          · exact .inr rfl
          · exact .inl ⟨rfl, h, .inr ⟨by show 1 ≤ q.d; omega, by show q.d ≤ _; omega, hl.1, hl.2, k0⟩⟩
  · rw [if_neg h]; exact .inr rfl
def errC (have_ : Nat) (n d win : Int) : Int := if n < 0 ∨ 258 < n ∨ win < 1 ∨ 67108864 < win then 1 else if d < 1 ∨ win < d ∨ (have_ : Int) < d then 10 else 0
theorem errC_zero {h : Nat} {n d win : Int} (e : errC h n d win = 0) : 0 ≤ n ∧ n ≤ 258 ∧ 1 ≤ win ∧ win ≤ 67108864 ∧ 1 ≤ d ∧ d ≤ win ∧ d ≤ h := by
  unfold errC at e
  split at e
  · cases e
  · split at e
    · cases e
    · omega
def byteOf (b : Int) : UInt8 := UInt8.ofNat (b % 256).toNat
/-- One piece. -/
def stepS (win : Int) (t : Tk) (q : Q4) (h : List UInt8) : List UInt8 × Q4 × Int :=
  if (useV q t).2.2 = 0 then
    if t.k = 0 then (h ++ [byteOf t.b], (useV q t).1, 0)
    else if errC h.length t.l (useV q t).2.1 win = 0 then (copyL (useV q t).2.1.toNat t.l.toNat h, (useV q t).1, 0)
    else ([], z4, errC h.length t.l (useV q t).2.1 win)
  else ([], z4, (useV q t).2.2)
def appS (win : Int) : List Tk → Q4 → List UInt8 → List UInt8 × Q4 × Int
  | [], q, h => (h, q, 0)
  | t :: ts, q, h => if (stepS win t q h).2.2 = 0 then appS win ts (stepS win t q h).2.1 (stepS win t q h).1 else stepS win t q h
def szSum : List Tk → Int
  | [] => 0
  | t :: ts => szTok t.k t.b t.l t.d t.r + szSum ts
theorem stepS_bad (win : Int) (t : Tk) (q : Q4) (h : List UInt8) (e : (stepS win t q h).2.2 ≠ 0) : stepS win t q h = ([], z4, (stepS win t q h).2.2) := by
  unfold stepS at e ⊢
  split
  · rename_i h1
    rw [if_pos h1] at e
    split
    · rename_i h2; rw [if_pos h2] at e; exact absurd rfl e
    · rename_i h2
      rw [if_neg h2] at e
      split
      · rename_i h3; rw [if_pos h3] at e; exact absurd rfl e
      · rfl
  · rfl
theorem stepS_len (win : Int) (t : Tk) (q : Q4) (h : List UInt8) (e : (stepS win t q h).2.2 = 0) : ((stepS win t q h).1.length : Int) = h.length + szTok t.k t.b t.l t.d t.r ∧ (stepS win t q h).1.length ≤ h.length + 258 := by
  have hu := useV_cases q t
  unfold stepS at e ⊢
  by_cases h1 : (useV q t).2.2 = 0
  · rw [if_pos h1] at e ⊢
    rcases hu with ⟨-, hok, hu⟩ | hu
    · have hok' : OkTok t.k t.b t.l t.d t.r := hok
      by_cases h2 : t.k = 0
      · rw [if_pos h2]; unfold szTok; rw [if_pos hok', if_pos h2]; simp
      · rw [if_neg h2] at e ⊢
        by_cases h3 : errC h.length t.l (useV q t).2.1 win = 0
        · rw [if_pos h3]; unfold szTok; rw [if_pos hok', if_neg h2]
          have := errC_zero h3
          show ((copyL _ _ _).length : Int) = _ ∧ _
          rw [copyL_len]
          omega
        · rw [if_neg h3] at e; exact absurd e h3
    · rw [hu] at h1; cases h1
  · rw [if_neg h1] at e; exact absurd e h1
theorem appS_bad (win : Int) : ∀ (l : List Tk) (q : Q4) (h : List UInt8), (appS win l q h).2.2 ≠ 0 → appS win l q h = ([], z4, (appS win l q h).2.2)
  | [], q, h, e => absurd rfl e
  | t :: ts, q, h, e => by
    rw [appS] at e ⊢
    split
    · rename_i h1
      rw [if_pos h1] at e
      exact appS_bad win ts _ _ e
    · rename_i h1
      exact stepS_bad win t q h h1
theorem appS_len (win : Int) : ∀ (l : List Tk) (q : Q4) (h : List UInt8), (appS win l q h).2.2 = 0 → ((appS win l q h).1.length : Int) = h.length + szSum l ∧ (appS win l q h).1.length ≤ h.length + 258 * l.length
  | [], q, h, e => by simp [appS, szSum]
  | t :: ts, q, h, e => by
    rw [appS] at e ⊢
    split
    · rename_i h1
      rw [if_pos h1] at e
      have h2 := stepS_len win t q h h1
      have h3 := appS_len win ts _ _ e
      rw [szSum, List.length_cons]
      omega
    · rename_i h1
      rw [if_neg h1] at e
      exact absurd e h1
theorem appS_app (win : Int) (m : List Tk) : ∀ (l : List Tk) (q : Q4) (h : List UInt8), appS win (l ++ m) q h = if (appS win l q h).2.2 = 0 then appS win m (appS win l q h).2.1 (appS win l q h).1 else appS win l q h
  | [], q, h => by simp [appS]
  | t :: ts, q, h => by
    rw [List.cons_append, appS, appS]
    by_cases h1 : (stepS win t q h).2.2 = 0
    · rw [if_pos h1, if_pos h1]; exact appS_app win m ts _ _
    · rw [if_neg h1, if_neg h1, if_neg h1]
theorem appS_drop (win : Int) (l : List Tk) (k : Nat) (hk : k < l.length) (q : Q4) (h : List UInt8) : appS win (l.drop k) q h = if (stepS win l[k] q h).2.2 = 0 then appS win (l.drop (k + 1)) (stepS win l[k] q h).2.1 (stepS win l[k] q h).1 else stepS win l[k] q h := by
  rw [List.drop_eq_getElem_cons hk, appS]
end Go.Proofs.Ytjpmfaodkldobaa
