/- Layer 29: two windows; the law's own last. -/
import Derived.Test.YtjpmfaodkldobaaW5
namespace Go.Proofs.Ytjpmfaodkldobaa
open Go.ChangeShapes Go.WideShapes Go.ChangeAt Go.RowKit
set_option linter.unusedVariables false
set_option maxRecDepth 100000
theorem WinH.keep {S : Nat → Prop} {w w' : World} {g B size : Nat} {v : Value} {H : List UInt8} (h : WinH w g B size v H) (hk : Keeps S w w') (hd : ∀ k, feet g v k → ¬ S k) : WinH w' g B size v H := by
  obtain ⟨all, ⟨h1, h2, h3, h4⟩, h5, h6⟩ := h
  exact ⟨all, ⟨hk.heap h1 (hd g (.inl rfl)), hk.ownsRow h2 (fun k e => hd k (.inr e)), Nat.le_trans h3 hk.size, h4⟩, h5, h6⟩
theorem WinH.feet_lt {w : World} {g B size : Nat} {v : Value} {H : List UInt8} (h : WinH w g B size v H) : ∀ k, feet g v k → k < w.heap.size := by
  obtain ⟨all, h1, h5, h6⟩ := h
  rintro k (rfl | e)
  · exact h1.lt
  · exact (h1.2.1.lt k e).2
def Two (w0 w : World) (ga gb size : Nat) (Ha Hb : List UInt8) : Prop :=
  ∃ va vb, WinH w ga w0.heap.size size va Ha ∧ WinH w gb w0.heap.size size vb Hb ∧ (∀ k, feet ga va k → w0.heap.size ≤ k) ∧ (∀ k, feet gb vb k → w0.heap.size ≤ k) ∧ (∀ k, feet ga va k → ¬ feet gb vb k) ∧ Below w0.heap.size w0 w
theorem Two.symm {w0 w : World} {ga gb size : Nat} {Ha Hb : List UInt8} (h : Two w0 w ga gb size Ha Hb) : Two w0 w gb ga size Hb Ha := by
  obtain ⟨va, vb, h1, h2, h3, h4, h5, h6⟩ := h
  exact ⟨vb, va, h2, h1, h4, h3, fun k hb ha => h5 k ha hb, h6⟩
theorem two_step {w0 w w' : World} {ga gb size : Nat} {va vb : Value} {Ha Hb H' : List UInt8} (h1 : WinH w ga w0.heap.size size va Ha) (h2 : WinH w gb w0.heap.size size vb Hb) (h3 : ∀ k, feet ga va k → w0.heap.size ≤ k) (h4 : ∀ k, feet gb vb k → w0.heap.size ≤ k) (h5 : ∀ k, feet ga va k → ¬ feet gb vb k) (h6 : Below w0.heap.size w0 w)
    (hs : StepH w ga w0.heap.size size va H' w') : Two w0 w' ga gb size H' Hb := by
  obtain ⟨v', s1, s2, s3⟩ := hs
  have hz := h6.size
  have hf : ∀ k, feet ga v' k → feet ga va k ∨ w.heap.size ≤ k := by
    rintro k (rfl | e)
    · exact .inl (.inl rfl)
    · rcases s2 k e with h | h
      · exact .inl (.inr h)
      · exact .inr h
  refine ⟨v', vb, s1, h2.keep s3 (fun k hb ha => h5 k ha hb), fun k hk => ?_, h4, fun k ha hb => ?_, h6.trans (s3.below (fun k hk => ⟨by omega, fun e => by have := h3 k e; omega⟩))⟩
  · rcases hf k hk with h | h
    · exact h3 k h
    · omega
  · rcases hf k ha with h | h
    · exact h5 k h hb
    · have := h2.feet_lt k hb; omega
theorem tPut (w0 w : World) (ga gb size : Nat) (Ha Hb : List UInt8) (s : ByteArray) (h : Two w0 w ga gb size Ha Hb) (hs : s.size ≤ 9223372036854775807) (H' : List UInt8) (hH : lastN size (Ha ++ s.data.toList) = H') :
    Calls Try.prog 35 #[.pointer (some ⟨ga, 0, none⟩), .string s] w fun e w' => e = .returned (.tuple #[]) ∧ Two w0 w' ga gb size H' Hb := by
  obtain ⟨va, vb, h1, h2, h3, h4, h5, h6⟩ := h
  subst hH
  exact (hPut w _ _ size va Ha s h1 hs).mono (by rintro e w' ⟨h7, h8⟩; exact ⟨h7, two_step h1 h2 h3 h4 h5 h6 h8⟩)
theorem tCopy (w0 w : World) (ga gb size : Nat) (Ha Hb : List UInt8) (n d : Int) (h : Two w0 w ga gb size Ha Hb) (T : List UInt8) (E : Int) (hT : copyS Ha n d = (T, E)) :
    Calls Try.prog 36 #[.pointer (some ⟨ga, 0, none⟩), .int .i64 n, .int .i64 d] w fun e w' => e = .returned (.tuple #[.string (sOf T), .int .i64 E]) ∧ Two w0 w' ga gb size (lastN size (Ha ++ T)) Hb := by
  obtain ⟨va, vb, h1, h2, h3, h4, h5, h6⟩ := h
  exact (hCopy w _ _ size va Ha n d h1 T E hT).mono (by rintro e w' ⟨h7, h8⟩; exact ⟨h7, two_step h1 h2 h3 h4 h5 h6 h8⟩)
theorem tHave (w0 w : World) (ga gb size : Nat) (Ha Hb : List UInt8) (h : Two w0 w ga gb size Ha Hb) (L : Int) (hL : (Ha.length : Int) = L) : Calls Try.prog 32 #[.pointer (some ⟨ga, 0, none⟩)] w fun e w' => e = .returned (.int .i64 L) ∧ Two w0 w' ga gb size Ha Hb := by
  obtain ⟨va, vb, h1, h2, h3, h4, h5, h6⟩ := h
  subst hL
  refine (hHave w _ _ size va Ha h1).mono ?_
  rintro e w' ⟨h7, q, rfl⟩
  exact ⟨h7, two_step h1 h2 h3 h4 h5 h6 (h1.stay q)⟩
theorem tLast (w0 w : World) (ga gb size : Nat) (Ha Hb : List UInt8) (n : Int) (h : Two w0 w ga gb size Ha Hb) (T : List UInt8) (hT : lastI n Ha = T) : Calls Try.prog 33 #[.pointer (some ⟨ga, 0, none⟩), .int .i64 n] w fun e w' => e = .returned (.string (sOf T)) ∧ Two w0 w' ga gb size Ha Hb := by
  obtain ⟨va, vb, h1, h2, h3, h4, h5, h6⟩ := h
  subst hT
  refine (hLast w _ _ size va Ha n h1).mono ?_
  rintro e w' ⟨h7, q, rfl⟩
  exact ⟨h7, two_step h1 h2 h3 h4 h5 h6 (h1.stay q)⟩
theorem two_new {w w1 w2 : World} {n : Nat} (ha : Win w1 w.heap.size w.heap.size n (.slice none 0 0) []) (hb : Below w.heap.size w w1) (hz : w1.heap.size = w.heap.size + 1) (ha2 : Win w2 w1.heap.size w1.heap.size n (.slice none 0 0) []) (hb2 : Below w1.heap.size w1 w2) : Two w w2 w.heap.size w1.heap.size n [] [] := by
  have h1 : WinH w1 w.heap.size w.heap.size n (.slice none 0 0) [] := ⟨[], ha, by unfold lastN; simp, by simp⟩
  refine ⟨_, .slice none 0 0, h1.keep (S := fun _ => False) (Keeps.of_below hb2) (fun k _ h => h), ⟨[], ⟨ha2.1, World.ownsRow_nil _ _ _ _, Nat.le_trans hb.size hb2.size, ha2.2.2.2⟩, by unfold lastN; simp, by simp⟩, ?_, ?_, ?_, hb.trans (hb2.mono hb.size)⟩
  · rintro k (rfl | e)
    · exact Nat.le_refl _
    · simp [Value.ownBlock] at e
  · rintro k (rfl | e)
    · exact hb.size
    · simp [Value.ownBlock] at e
  · rintro k (rfl | e) (h | h)
    · omega
    · simp [Value.ownBlock] at h
    · simp [Value.ownBlock] at e
    · simp [Value.ownBlock] at e
theorem sOf_data (X : ByteArray) : sOf X.data.toList = X := by cases X; simp [sOf]
theorem sOf_eq {X : ByteArray} {l : List UInt8} (h : X.data.toList = l) : X = sOf l := by rw [← h, sOf_data]
theorem lLast (s : ByteArray) (n : Int) (hs : s.size ≤ 9223372036854775807) (w : World) : Calls Try.prog 34 #[.string s, .int .i64 n] w fun e w' => e = .returned (.string (sOf (lastI n s.data.toList))) ∧ w' = w := by
  have hl : s.data.toList.length = s.size := by simp
  unfold lastI
  by_cases hn : n < 1
  · rw [if_pos hn]
    go_enter Try.func34, Try.ntmps34
    go_wp2
    go_ret
    exact ⟨rfl, rfl⟩
  · rw [if_neg hn]
    obtain ⟨m, rfl⟩ : ∃ m : Nat, n = m := ⟨n.toNat, by omega⟩
    rw [Int.toNat_natCast]
    by_cases hlt : m < s.size
    · have e := sOf_eq (ext_last s m (by omega)).1
      have hm : m ≤ s.size := by omega
      rw [← e]
      clear e hl
      go_enter Try.func34, Try.ntmps34
      go_wp2
      go_ret
      exact ⟨rfl, rfl⟩
    · rw [lastN_all m s.data.toList (by omega), sOf_data]
      go_enter Try.func34, Try.ntmps34
      go_wp2
      go_ret
      exact ⟨rfl, rfl⟩
end Go.Proofs.Ytjpmfaodkldobaa
