/- Layer 18: Valid. -/
import Derived.Test.YtjpmfaodkldobaaT10
namespace Go.Proofs.Ytjpmfaodkldobaa
open Go.ChangeShapes Go.WideShapes Go.ChangeAt Go.RowKit
set_option linter.unusedVariables false
set_option linter.unusedSimpArgs false
set_option maxRecDepth 100000
theorem stepS_pre (win : Int) (t : Tk) (q : Q4) (h : List UInt8) (e : (stepS win t q h).2.2 = 0) : ∃ T, (stepS win t q h).1 = h ++ T := by
  unfold stepS at e ⊢
  by_cases h1 : (useV q t).2.2 = 0
  · rw [if_pos h1] at e ⊢
    by_cases h2 : t.k = 0
    · rw [if_pos h2]; exact ⟨_, rfl⟩
    · rw [if_neg h2] at e ⊢
      by_cases h3 : errC h.length t.l (useV q t).2.1 win = 0
      · rw [if_pos h3]; exact ⟨_, copyL_told _ _ _⟩
      · rw [if_neg h3] at e; exact absurd e h3
  · rw [if_neg h1] at e; exact absurd e h1
theorem appS_pre (win : Int) : ∀ (l : List Tk) (q : Q4) (h : List UInt8), (appS win l q h).2.2 = 0 → ∃ T, (appS win l q h).1 = h ++ T
  | [], q, h, e => ⟨[], by simp [appS]⟩
  | t :: ts, q, h, e => by
    rw [appS] at e ⊢
    by_cases h1 : (stepS win t q h).2.2 = 0
    · rw [if_pos h1] at e ⊢
      obtain ⟨T, hT⟩ := stepS_pre win t q h h1
      obtain ⟨U, hU⟩ := appS_pre win ts _ _ e
      exact ⟨T ++ U, by rw [hU, hT, List.append_assoc]⟩
    · rw [if_neg h1] at e; exact absurd e h1
theorem sOf_tl (l : List UInt8) : (sOf l).toList = l := by rw [ByteArray.toList_eq]; exact sOf_li l
def validS (win : Int) (l : List Tk) (q : Q4) (h block : List UInt8) : Bool := decide ((appS win l q h).2.2 = 0) && decide ((appS win l q h).1 = h ++ block)
theorem sOf_inj {a b : List UInt8} (h : sOf a = sOf b) : a = b := by rw [← sOf_li a, h, sOf_li]
theorem sOf_self (s : ByteArray) : sOf s.data.toList = s := by unfold sOf; cases s; rfl
theorem sOf_apps (a b : List UInt8) : sOf a ++ sOf b = sOf (a ++ b) := by
  unfold sOf; simp [ByteArray.append_eq, ByteArray.ext_iff]
theorem appS_len2 {win : Int} {l : List Tk} {q : Q4} {h R : List UInt8} {Q : Q4} {E : Int} (hR : appS win l q h = (R, Q, E)) : R.length ≤ h.length + 258 * l.length := by
  by_cases h0 : E = 0
  · have := (appS_len win l q h (by rw [hR]; exact h0)).2
    rw [hR] at this; exact this
  · have := appS_bad win l q h (by rw [hR]; exact h0)
    rw [hR] at this
    injection this with e1 e2
    rw [e1]; simp
theorem y_cap {B : Nat} {w : World} {a : Option Addr} {n c : Nat} {l : List UInt8} (h : OwnY B w (.slice a n c) l) : n = l.length ∧ n ≤ c ∧ c ≤ 9223372036854775807 := by
  rcases h.2 with ⟨e, h0⟩ | ⟨g, cap, cur, e, -, -, hn, hm, -⟩
  · simp only [Value.slice.injEq] at e; omega
  · simp only [Value.slice.injEq] at e; unfold maxLen at hm; omega
set_option maxHeartbeats 1600000 in
theorem dValid (b : Option Addr) (cb : Nat) (H K : List UInt8) (q : Q4) (l : List Tk) (win : Int) (w : World) (h2 : IsTk w b l) (hH : H.length ≤ 20000) (hK : K.length ≤ 20000) (hl : l.length ≤ 100) (V : Bool) (hV : validS win l q H K = V) :
    Calls Try.prog 26 #[.string (sOf H), q4V q, .slice b l.length cb, .int .i64 win, .string (sOf K)] w fun e w' => e = .returned (.bool V) ∧ Below w.heap.size w w' := by
  obtain ⟨⟨R, Q, E⟩, hR⟩ : ∃ r, appS win l q H = r := ⟨_, rfl⟩
  have CA := Lib.hid (fun W h => show Calls Try.prog 24 #[.string (sOf H), .agg #[.int .i64 q.a, .int .i64 q.b, .int .i64 q.c, .int .i64 q.d], .slice b l.length cb, .int .i64 win] W fun e w' => e = .returned (.tuple #[.string (sOf R), .agg #[.int .i64 Q.a, .int .i64 Q.b, .int .i64 Q.c, .int .i64 Q.d], .int .i64 E]) ∧ Below W.heap.size W w' from dApply b cb H q l win W h hH hl R Q E hR)
  have HTK := Lib.hid h2
  have hRl := appS_len2 hR
  unfold validS at hV
  rw [hR] at hV
  show Calls Try.prog 26 #[.string (sOf H), .agg #[.int .i64 q.a, .int .i64 q.b, .int .i64 q.c, .int .i64 q.d], .slice b l.length cb, .int .i64 win, .string (sOf K)] w _
  have z1 : (sOf H).size ≤ 100000 := by rw [sOf_sz]; omega
  have z2 : (sOf K).size ≤ 100000 := by rw [sOf_sz]; omega
  clear h2 hR hH hK hl hRl
  by_cases h0 : E = 0
  · subst h0
    have hb : ((sOf R).toList == (sOf H ++ sOf K).toList) = V := by
      rw [sOf_apps, sOf_tl, sOf_tl, ← hV]
      by_cases hq : R = H ++ K <;> simp [hq]
    clear hV
    go_enter Try.func26, Try.ntmps26
    go_wp2_with fail
    refine (CA.out _ (HTK.out.kept (by go_grown))).mono ?_; rintro e w1 ⟨rfl, hb1⟩
    have HB1 := Lib.hid (((Below.refl _ _).alloc (Nat.le_refl _) (.cells #[.int .i64 q.a, .int .i64 q.b, .int .i64 q.c, .int .i64 q.d] 41)).trans (hb1.mono (by simp)))
    clear hb1
    go_wp2_with fail
    all_goals go_ret
    all_goals exact ⟨rfl, HB1.out.alloc HB1.out.size _⟩
  · obtain rfl : V = false := by rw [← hV]; simp [h0]
    have hEb : (E == 0) = false := by rw [beq_eq_false_iff_ne]; exact h0
    clear hV
    go_enter Try.func26, Try.ntmps26
    go_wp2_with fail
    refine (CA.out _ (HTK.out.kept (by go_grown))).mono ?_; rintro e w1 ⟨rfl, hb1⟩
    have HB1 := Lib.hid (((Below.refl _ _).alloc (Nat.le_refl _) (.cells #[.int .i64 q.a, .int .i64 q.b, .int .i64 q.c, .int .i64 q.d] 41)).trans (hb1.mono (by simp)))
    clear hb1
    go_wp2_with fail
    all_goals go_ret
    all_goals exact ⟨rfl, HB1.out.alloc HB1.out.size _⟩
end Go.Proofs.Ytjpmfaodkldobaa
