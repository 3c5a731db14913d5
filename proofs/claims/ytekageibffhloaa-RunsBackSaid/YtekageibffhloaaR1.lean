/- Layer 12: single runs. -/
import Derived.Test.YtekageibffhloaaK2
import Derived.Test.YtekageibffhloaaRm
namespace Go.Proofs.Ytekageibffhloaa
open Go.ChangeShapes Go.WideShapes Go.ChangeAt Go.RowKit
set_option linter.unusedVariables false
set_option maxRecDepth 100000
open RunsMath

def runV (r : Run) : Value := .agg #[.int .i64 r.1, .int .i64 r.2]
theorem rExtra (s : Int) (E : Int) (hE : (extra s : Nat) = E) (w : World) : Calls Try.prog 29 #[.int .i64 s] w fun e w' => e = .returned (.int .i64 E) ∧ w' = w := by
  unfold extra at hE
  by_cases h1 : s = 16
  · subst h1; simp at hE; subst hE
    go_enter Try.func29, Try.ntmps29
    go_wp2
    go_ret
    exact ⟨rfl, rfl⟩
  by_cases h2 : s = 17
  · subst h2; simp at hE; subst hE
    go_enter Try.func29, Try.ntmps29
    go_wp2
    go_ret
    exact ⟨rfl, rfl⟩
  by_cases h3 : s = 18
  · subst h3; simp at hE; subst hE
    go_enter Try.func29, Try.ntmps29
    go_wp2
    go_ret
    exact ⟨rfl, rfl⟩
  rw [if_neg h1, if_neg h2, if_neg h3] at hE
  have e1 : (s == 16) = false := by rw [beq_eq_false_iff_ne]; exact h1
  have e2 : (s == 17) = false := by rw [beq_eq_false_iff_ne]; exact h2
  have e3 : (s == 18) = false := by rw [beq_eq_false_iff_ne]; exact h3
  subst hE
  clear h1 h2 h3
  go_enter Try.func29, Try.ntmps29
  go_wp2
  go_ret
  exact ⟨rfl, rfl⟩
theorem dExtra (s : Int) (E : Int) (hE : (extra s : Nat) = E) (w : World) : Calls Try.prog 30 #[.int .i64 s] w fun e w' => e = .returned (.int .i64 E) ∧ w' = w := by
  unfold extra at hE
  by_cases h1 : s = 16
  · subst h1; simp at hE; subst hE
    go_enter Try.func30, Try.ntmps30
    go_wp2
    go_ret
    exact ⟨rfl, rfl⟩
  by_cases h2 : s = 17
  · subst h2; simp at hE; subst hE
    go_enter Try.func30, Try.ntmps30
    go_wp2
    go_ret
    exact ⟨rfl, rfl⟩
  by_cases h3 : s = 18
  · subst h3; simp at hE; subst hE
    go_enter Try.func30, Try.ntmps30
    go_wp2
    go_ret
    exact ⟨rfl, rfl⟩
  rw [if_neg h1, if_neg h2, if_neg h3] at hE
  have e1 : (s == 16) = false := by rw [beq_eq_false_iff_ne]; exact h1
  have e2 : (s == 17) = false := by rw [beq_eq_false_iff_ne]; exact h2
  have e3 : (s == 18) = false := by rw [beq_eq_false_iff_ne]; exact h3
  subst hE
  clear h1 h2 h3
  go_enter Try.func30, Try.ntmps30
  go_wp2
  go_ret
  exact ⟨rfl, rfl⟩
theorem extra_le (s : Int) : extra s ≤ 7 := by unfold extra; split; omega; split; omega; split <;> omega
theorem fine_cases (s m : Int) (B : Bool) (hB : fine (s, m) = B) : (s < 0 ∧ B = false) ∨ (0 ≤ s ∧ 18 < s ∧ B = false) ∨ (0 ≤ s ∧ s ≤ 18 ∧ m < 0 ∧ B = false) ∨ (0 ≤ s ∧ s ≤ 18 ∧ 0 ≤ m ∧ B = decide (m < (2 : Int) ^ (extra s))) := by
  unfold fine at hB
  simp only at hB
  by_cases h1 : s < 0
  · exact .inl ⟨h1, by rw [← hB]; simp; omega⟩
  by_cases h2 : 18 < s
  · exact .inr (.inl ⟨by omega, h2, by rw [← hB]; simp; omega⟩)
  by_cases h3 : m < 0
  · exact .inr (.inr (.inl ⟨by omega, by omega, h3, by rw [← hB]; simp; omega⟩))
  refine .inr (.inr (.inr ⟨by omega, by omega, by omega, ?_⟩))
  rw [← hB, decide_eq_decide]
  constructor
  · rintro ⟨_, _, _, h⟩; exact h
  · intro h; exact ⟨by omega, by omega, by omega, h⟩
theorem wrap_p2 (E : Nat) (h : E ≤ 40) : wrap64 ((2 : Int) ^ E) = (2 : Int) ^ E := by
  have hp : 2 ^ E ≤ 2 ^ 40 := Nat.pow_le_pow_right (by decide) h
  have e : ((2 ^ E : Nat) : Int) = (2 : Int) ^ E := by simp
  rw [← e]
  have hp2 : 2 ^ E ≤ 1099511627776 := hp
  generalize 2 ^ E = P at hp2
  rw [IntWalk.wrap64_in _ (by omega)]
set_option maxHeartbeats 1600000 in
theorem rMayBe (s m : Int) (B : Bool) (hB : fine (s, m) = B) (w : World) : Calls Try.prog 58 #[.agg #[.int .i64 s, .int .i64 m]] w fun e w' => e = .returned (.bool B) ∧ Below w.heap.size w w' := by
  rcases fine_cases s m B hB with ⟨h1, rfl⟩ | ⟨h1, h2, rfl⟩ | ⟨h1, h2, h3, rfl⟩ | ⟨h1, h2, h3, hb⟩
  · clear hB
    have e1 : decide (0 ≤ s) = false := by simpa using h1
    go_enter Try.func58, Try.ntmps58
    go_wp2
    go_quiet (fail)
    go_wp2
    go_ret
    exact ⟨rfl, below_dn ((Below.refl _ _).alloc (Nat.le_refl _) _) _⟩
  · clear hB
    have e1 : decide (0 ≤ s) = true := by simpa using h1
    have e2 : decide (s ≤ 18) = false := by simpa using h2
    go_enter Try.func58, Try.ntmps58
    go_wp2
    go_quiet (fail)
    go_wp2
    go_ret
    exact ⟨rfl, below_dn ((Below.refl _ _).alloc (Nat.le_refl _) _) _⟩
  · clear hB
    have e1 : decide (0 ≤ s) = true := by simpa using h1
    have e2 : decide (s ≤ 18) = true := by simpa using h2
    have e3 : decide (0 ≤ m) = false := by simpa using h3
    go_enter Try.func58, Try.ntmps58
    go_wp2
    go_quiet (fail)
    go_wp2
    go_ret
    exact ⟨rfl, below_dn ((Below.refl _ _).alloc (Nat.le_refl _) _) _⟩
  · clear hB
    have e1 : decide (0 ≤ s) = true := by simpa using h1
    have e2 : decide (s ≤ 18) = true := by simpa using h2
    have e3 : decide (0 ≤ m) = true := by simpa using h3
    have C := rExtra s _ rfl
    have hl := extra_le s
    obtain ⟨E, hE⟩ : ∃ E, extra s = E := ⟨_, rfl⟩
    rw [hE] at C hb hl
    have hw := wrap_p2 E (by omega)
    have HB := Lib.hid hb; have C := Lib.hid C
    clear hE hb
    go_enter Try.func58, Try.ntmps58
    go_wp2
    go_quiet ((go_at_call 29; exact Calls.quiet_of_same (C.out _)))
    go_wp2
    go_ret
    exact ⟨ret_b (by rw [HB.out]), below_dn ((Below.refl _ _).alloc (Nat.le_refl _) _) _⟩
set_option maxHeartbeats 1600000 in
theorem dFine (s m : Int) (B : Bool) (hB : fine (s, m) = B) (w : World) : Calls Try.prog 60 #[.agg #[.int .i64 s, .int .i64 m]] w fun e w' => e = .returned (.bool B) ∧ Below w.heap.size w w' := by
  rcases fine_cases s m B hB with ⟨h1, rfl⟩ | ⟨h1, h2, rfl⟩ | ⟨h1, h2, h3, rfl⟩ | ⟨h1, h2, h3, hb⟩
  · clear hB
    have e1 : decide (0 ≤ s) = false := by simpa using h1
    go_enter Try.func60, Try.ntmps60
    go_wp2
    go_quiet (fail)
    go_wp2
    go_ret
    exact ⟨rfl, below_dn ((Below.refl _ _).alloc (Nat.le_refl _) _) _⟩
  · clear hB
    have e1 : decide (0 ≤ s) = true := by simpa using h1
    have e2 : decide (s ≤ 18) = false := by simpa using h2
    go_enter Try.func60, Try.ntmps60
    go_wp2
    go_quiet (fail)
    go_wp2
    go_ret
    exact ⟨rfl, below_dn ((Below.refl _ _).alloc (Nat.le_refl _) _) _⟩
  · clear hB
    have e1 : decide (0 ≤ s) = true := by simpa using h1
    have e2 : decide (s ≤ 18) = true := by simpa using h2
    have e3 : decide (0 ≤ m) = false := by simpa using h3
    go_enter Try.func60, Try.ntmps60
    go_wp2
    go_quiet (fail)
    go_wp2
    go_ret
    exact ⟨rfl, below_dn ((Below.refl _ _).alloc (Nat.le_refl _) _) _⟩
  · clear hB
    have e1 : decide (0 ≤ s) = true := by simpa using h1
    have e2 : decide (s ≤ 18) = true := by simpa using h2
    have e3 : decide (0 ≤ m) = true := by simpa using h3
    have C := dExtra s _ rfl
    have hl := extra_le s
    obtain ⟨E, hE⟩ : ∃ E, extra s = E := ⟨_, rfl⟩
    rw [hE] at C hb hl
    have hw := wrap_p2 E (by omega)
    have HB := Lib.hid hb; have C := Lib.hid C
    clear hE hb
    go_enter Try.func60, Try.ntmps60
    go_wp2
    go_quiet ((go_at_call 30; exact Calls.quiet_of_same (C.out _)))
    go_wp2
    go_ret
    exact ⟨ret_b (by rw [HB.out]), below_dn ((Below.refl _ _).alloc (Nat.le_refl _) _) _⟩
theorem dMany (s m : Int) (n : Nat) (hn : many (s, m) = n) (hm : 0 ≤ m ∧ m ≤ 1000) (w : World) : Calls Try.prog 61 #[.agg #[.int .i64 s, .int .i64 m]] w fun e w' => e = .returned (.int .i64 n) ∧ Below w.heap.size w w' := by
  unfold many at hn
  simp only at hn
  by_cases h1 : s = 16
  · subst h1; rw [if_pos (by decide)] at hn
    have HN := Lib.hid (show 3 + m = (n : Int) by omega)
    clear hn
    go_enter Try.func61, Try.ntmps61
    go_wp2
    go_ret
    exact ⟨ret_i HN.out, (Below.refl _ _).alloc (Nat.le_refl _) _⟩
  by_cases h2 : s = 17
  · subst h2; rw [if_pos (by decide)] at hn
    have HN := Lib.hid (show 3 + m = (n : Int) by omega)
    clear hn
    go_enter Try.func61, Try.ntmps61
    go_wp2
    go_ret
    exact ⟨ret_i HN.out, (Below.refl _ _).alloc (Nat.le_refl _) _⟩
  rw [if_neg (by omega)] at hn
  by_cases h3 : s = 18
  · subst h3; rw [if_pos rfl] at hn
    have HN := Lib.hid (show 11 + m = (n : Int) by omega)
    clear hn
    go_enter Try.func61, Try.ntmps61
    go_wp2
    go_ret
    exact ⟨ret_i HN.out, (Below.refl _ _).alloc (Nat.le_refl _) _⟩
  rw [if_neg h3] at hn
  have e1 : (s == 16) = false := by rw [beq_eq_false_iff_ne]; exact h1
  have e2 : (s == 17) = false := by rw [beq_eq_false_iff_ne]; exact h2
  have e3 : (s == 18) = false := by rw [beq_eq_false_iff_ne]; exact h3
  subst hn
  clear h1 h2 h3
  go_enter Try.func61, Try.ntmps61
  go_wp2
  go_ret
  exact ⟨rfl, (Below.refl _ _).alloc (Nat.le_refl _) _⟩
theorem rMeaning (s m a : Int) (W : Int) (n : Nat) (hW : what a (s, m) = W) (hn : many (s, m) = n) (hm : 0 ≤ m ∧ m ≤ 1000) (w : World) : Calls Try.prog 59 #[.agg #[.int .i64 s, .int .i64 m], .int .i64 a] w fun e w' => e = .returned (.tuple #[.int .i64 W, .int .i64 n]) ∧ Below w.heap.size w w' := by
  unfold many at hn
  unfold what at hW
  simp only at hn hW
  by_cases h1 : s = 16
  · subst h1; rw [if_pos (by decide)] at hn
    rw [if_neg (by decide), if_pos rfl] at hW
    have HN := Lib.hid (show 3 + m = (n : Int) by omega)
    subst hW
    clear hn
    go_enter Try.func59, Try.ntmps59
    go_wp2
    go_ret2
    exact ⟨by show Ending.returned (.tuple #[.int .i64 a, .int .i64 (1 + (2 + m))]) = _; rw [show (1 + (2 + m)) = (n : Int) by have := HN.out; omega], (Below.refl _ _).alloc (Nat.le_refl _) _⟩
  by_cases h2 : s = 17
  · subst h2; rw [if_pos (by decide)] at hn
    rw [if_pos (by decide)] at hW
    have HN := Lib.hid (show 3 + m = (n : Int) by omega)
    subst hW
    clear hn
    go_enter Try.func59, Try.ntmps59
    go_wp2
    go_ret2
    exact ⟨by show Ending.returned (.tuple #[.int .i64 0, .int .i64 (1 + (2 + m))]) = _; rw [show (1 + (2 + m)) = (n : Int) by have := HN.out; omega], (Below.refl _ _).alloc (Nat.le_refl _) _⟩
  rw [if_neg (by omega)] at hn
  by_cases h3 : s = 18
  · subst h3; rw [if_pos rfl] at hn
    rw [if_pos (by decide)] at hW
    have HN := Lib.hid (show 11 + m = (n : Int) by omega)
    subst hW
    clear hn
    go_enter Try.func59, Try.ntmps59
    go_wp2
    go_ret2
    exact ⟨by show Ending.returned (.tuple #[.int .i64 0, .int .i64 (9 + (2 + m))]) = _; rw [show (9 + (2 + m)) = (n : Int) by have := HN.out; omega], (Below.refl _ _).alloc (Nat.le_refl _) _⟩
  rw [if_neg h3] at hn
  rw [if_neg (by omega), if_neg h1] at hW
  have e1 : (s == 16) = false := by rw [beq_eq_false_iff_ne]; exact h1
  have e2 : (s == 17) = false := by rw [beq_eq_false_iff_ne]; exact h2
  have e3 : (s == 18) = false := by rw [beq_eq_false_iff_ne]; exact h3
  subst hn; subst hW
  clear h1 h2 h3
  go_enter Try.func59, Try.ntmps59
  go_wp2
  go_ret2
  exact ⟨rfl, (Below.refl _ _).alloc (Nat.le_refl _) _⟩
end Go.Proofs.Ytekageibffhloaa
