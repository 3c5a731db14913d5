/- Layer 29: contracts by what is held; awake. -/
import Derived.Test.YtjpmfaodkldobaaW4
namespace Go.Proofs.Ytjpmfaodkldobaa
open Go.ChangeShapes Go.WideShapes Go.ChangeAt Go.RowKit
set_option linter.unusedVariables false
set_option maxRecDepth 100000
set_option maxHeartbeats 1600000 in
theorem wnCopyZero (w : World) (g B size : Nat) (v : Value) (all : List UInt8) (d : Nat) (h : Win w g B size v all) (hl : all.length ≤ 2 * size + 258) (hd : 1 ≤ d) (hd2 : d ≤ (lastN size all).length) :
    Calls Try.prog 36 #[.pointer (some ⟨g, 0, none⟩), .int .i64 0, .int .i64 d] w fun e w' => e = .returned (.tuple #[.string (sOf []), .int .i64 0]) ∧ WinPost w g B size v (lastN size all) w' := by
  have CH := Lib.hid (wnHave w g B size v all h)
  have hdl : d ≤ all.length := by have := lastN_len size all; omega
  have hsz := h.2.2.2.2
  obtain ⟨hgl, c0, c1, f1⟩ := h.facts
  obtain ⟨a, c, hv, hc, hm, hnil⟩ := h.slice
  subst hv
  have HB := Lib.hid h
  obtain ⟨L, hL⟩ : ∃ L, (lastN size all).length = L := ⟨_, rfl⟩
  rw [hL] at CH hd2
  clear hL h
  have hdd : decide (L < d) = false := by simp; omega
  have hdd2 : decide ((d : Int) < 1) = false := by simp; omega
  rcases hnil with rfl | ⟨bb, rfl, hbb, hcell⟩
  · simp at hdl; omega
  have hcv : ∀ A C, (convert 34 9 (.slice (some A) 0 C)).run Try.prog (w.drewN 1) = .ok (.string (sOf [])) (w.drewN 1) := fun A C => run_convert_bytes_back (P := Try.prog) (w.drewN 1) 34 9 5 A C [] Try.underlying34 Try.underlying5 Try.underlying9 (fun j hj => by simp at hj)
  clear hcell
  go_enter Try.func36, Try.ntmps36
  go_wp2_with fail
  refine CH.out.mono ?_; rintro e w1 ⟨rfl, k1, rfl⟩
  go_wp2_with fail
  go_loopw [28] (fun i wr => i = .int .i64 0 ∧ wr = w.drewN k1) (fun i _ => 0)
  case atStart => exact ⟨rfl, rfl⟩
  case round =>
    obtain ⟨rfl, rfl⟩ := hrel
    have hcw : ∀ A C, (convert 34 9 (.slice (some A) 0 C)).run Try.prog (w.drewN k1).drew = .ok (.string (sOf [])) (w.drewN k1).drew := fun A C => run_convert_bytes_back (P := Try.prog) (w.drewN k1).drew 34 9 5 A C [] Try.underlying34 Try.underlying5 Try.underlying9 (fun j hj => by simp at hj)
    have hcx : ∀ q A C, (convert 34 9 (.slice (some A) 0 C)).run Try.prog (w.drewN q) = .ok (.string (sOf [])) (w.drewN q) := fun q A C => run_convert_bytes_back (P := Try.prog) (w.drewN q) 34 9 5 A C [] Try.underlying34 Try.underlying5 Try.underlying9 (fun j hj => by simp at hj)
    have hci : (convert 34 9 (.slice (if c = all.length then some ⟨bb, 0, none⟩ else some ⟨bb, all.length, none⟩) 0 (c - all.length))).run Try.prog (w.drewN (k1 + 1)) = .ok (.string (sOf [])) (w.drewN (k1 + 1)) := by split <;> exact hcx _ _ _
    have hwr : IntKind.i64.wrap (all.length : Int) = all.length := IntWalk.i64_in _ (by omega)
    go_wp2_with fail
    go_region
    all_goals go_wp2_with fail
    all_goals (
      refine (wnDrop _ g B size _ all (HB.out.drewN _)).mono ?_; rintro e w5 hd
      obtain ⟨he, hp⟩ := step_drop (Keeps.refl _ _) (fun k h => .inl h) hd
      subst he
      clear hd HB
      go_wp2_with fail
      go_ret2
      exact ⟨rfl, hp⟩)
/-- A window by what it holds. -/
def WinH (w : World) (g B size : Nat) (v : Value) (H : List UInt8) : Prop := ∃ all, Win w g B size v all ∧ lastN size all = H ∧ all.length ≤ 2 * size + 258
def StepH (w : World) (g B size : Nat) (v : Value) (H : List UInt8) (w' : World) : Prop := ∃ v', WinH w' g B size v' H ∧ (∀ k, v'.ownBlock = some k → v.ownBlock = some k ∨ w.heap.size ≤ k) ∧ Keeps (feet g v) w w'
theorem WinPost.step {w w' : World} {g B size : Nat} {v : Value} {H : List UInt8} (h : WinPost w g B size v H w') : StepH w g B size v H w' := by
  obtain ⟨v', all', h1, h2, h3, h4, h5⟩ := h
  exact ⟨v', ⟨all', h1, h2, h3⟩, h4, h5⟩
theorem WinH.stay {w : World} {g B size : Nat} {v : Value} {H : List UInt8} (h : WinH w g B size v H) (q : Nat) : StepH w g B size v H (w.drewN q) := by
  obtain ⟨all, h1, h2, h3⟩ := h
  exact ⟨v, ⟨all, h1.drewN q, h2, h3⟩, fun k h => .inl h, (Keeps.refl _ _).drewN q⟩
theorem WinH.len {w : World} {g B size : Nat} {v : Value} {H : List UInt8} (h : WinH w g B size v H) : H.length ≤ size := by
  obtain ⟨all, h1, rfl, h3⟩ := h
  rw [lastN_len]; omega
theorem hPut (w : World) (g B size : Nat) (v : Value) (H : List UInt8) (s : ByteArray) (h : WinH w g B size v H) (hs : s.size ≤ 9223372036854775807) :
    Calls Try.prog 35 #[.pointer (some ⟨g, 0, none⟩), .string s] w fun e w' => e = .returned (.tuple #[]) ∧ StepH w g B size v (lastN size (H ++ s.data.toList)) w' := by
  obtain ⟨all, h1, rfl, h3⟩ := h
  exact (wnPut w g B size v all s h1 hs h3).mono (by rintro e w' ⟨h4, h5⟩; exact ⟨h4, by rw [← lastN_append]; exact h5.step⟩)
theorem hHave (w : World) (g B size : Nat) (v : Value) (H : List UInt8) (h : WinH w g B size v H) : Calls Try.prog 32 #[.pointer (some ⟨g, 0, none⟩)] w fun e w' => e = .returned (.int .i64 (H.length : Nat)) ∧ ∃ k, w' = w.drewN k := by
  obtain ⟨all, h1, rfl, h3⟩ := h
  exact wnHave w g B size v all h1
def lastI (n : Int) (H : List UInt8) : List UInt8 := if n < 1 then [] else lastN n.toNat H
theorem hLast (w : World) (g B size : Nat) (v : Value) (H : List UInt8) (n : Int) (h : WinH w g B size v H) : Calls Try.prog 33 #[.pointer (some ⟨g, 0, none⟩), .int .i64 n] w fun e w' => e = .returned (.string (sOf (lastI n H))) ∧ ∃ k, w' = w.drewN k := by
  obtain ⟨all, h1, rfl, h3⟩ := h
  unfold lastI
  by_cases hn : n < 1
  · rw [if_pos hn]; exact wnLastFew w g B size v all n h1 hn
  · rw [if_neg hn]
    obtain ⟨m, rfl⟩ : ∃ m : Nat, n = m := ⟨n.toNat, by omega⟩
    rw [Int.toNat_natCast]
    exact wnLast w g B size v all m h1 (by omega) h3
def copyS (H : List UInt8) (n d : Int) : List UInt8 × Int := if n < 0 ∨ 258 < n then ([], 1) else if d < 1 ∨ (H.length : Int) < d then ([], 10) else (toldL d.toNat n.toNat H, 0)
theorem hCopy (w : World) (g B size : Nat) (v : Value) (H : List UInt8) (n d : Int) (h : WinH w g B size v H) (T : List UInt8) (E : Int) (hT : copyS H n d = (T, E)) :
    Calls Try.prog 36 #[.pointer (some ⟨g, 0, none⟩), .int .i64 n, .int .i64 d] w fun e w' => e = .returned (.tuple #[.string (sOf T), .int .i64 E]) ∧ StepH w g B size v (lastN size (H ++ T)) w' := by
  have hH := h
  have hHl := h.len
  obtain ⟨all, h1, rfl, h3⟩ := h
  unfold copyS at hT
  by_cases c1 : n < 0 ∨ 258 < n
  · rw [if_pos c1] at hT
    obtain ⟨rfl, rfl⟩ := by simpa using hT
    rw [List.append_nil, lastN_lastN _ _ _ (Nat.le_refl _)]
    exact (wnCopyArg _ n d w c1).mono (by rintro e w' ⟨h4, rfl⟩; exact ⟨h4, hH.stay 0⟩)
  · rw [if_neg c1] at hT
    by_cases c2 : d < 1 ∨ ((lastN size all).length : Int) < d
    · rw [if_pos c2] at hT
      obtain ⟨rfl, rfl⟩ := by simpa using hT
      rw [List.append_nil, lastN_lastN _ _ _ (Nat.le_refl _)]
      exact (wnCopyTok w g B size v all n d (by omega) h1 c2).mono (by rintro e w' ⟨h4, q, rfl⟩; exact ⟨h4, hH.stay q⟩)
    · rw [if_neg c2] at hT
      obtain ⟨N, rfl⟩ : ∃ m : Nat, n = m := ⟨n.toNat, by omega⟩
      obtain ⟨D, rfl⟩ : ∃ m : Nat, d = m := ⟨d.toNat, by omega⟩
      rw [Int.toNat_natCast, Int.toNat_natCast] at hT
      obtain ⟨rfl, rfl⟩ := by simpa using hT
      rw [← lastN_append]
      by_cases h0 : N = 0
      · subst h0
        refine (wnCopyZero w g B size v all D h1 h3 (by omega) (by omega)).mono ?_
        rintro e w' ⟨h4, h5⟩
        have e0 : toldL D 0 (lastN size all) = [] := by unfold toldL; simp [copyL]
        rw [e0, List.append_nil]
        exact ⟨h4, h5.step⟩
      · refine (wnCopyIn w g B size v all N D (by omega) (by omega) h1 h3 (by omega) (by omega)).mono ?_
        rintro e w' ⟨h4, h5⟩
        rw [← toldL_lastN D N size all (by omega) (by omega)]
        exact ⟨h4, h5.step⟩
theorem StepH.later {w w' : World} {g B size : Nat} {v : Value} {H : List UInt8} (h : StepH w g B size v H w') (q : Nat) : StepH w g B size v H (w'.drewN q) := by
  obtain ⟨v', ⟨all, h1, h2, h3⟩, h4, h5⟩ := h
  exact ⟨v', ⟨all, h1.drewN q, h2, h3⟩, h4, h5.drewN q⟩
/-- A step behind a step. -/
theorem StepH.then {w w1 w2 : World} {g B size : Nat} {v v1 : Value} {H2 : List UInt8} (hf : ∀ k, v1.ownBlock = some k → v.ownBlock = some k ∨ w.heap.size ≤ k) (hk : Keeps (feet g v) w w1) (h : StepH w1 g B size v1 H2 w2) : StepH w g B size v H2 w2 := by
  obtain ⟨v', h1, h4, h5⟩ := h
  have hs := hk.size
  refine ⟨v', h1, fun k hk' => ?_, hk.trans' h5 (fun j hj hs => ?_)⟩
  · rcases h4 k hk' with h | h
    · exact hf k h
    · right; omega
  · rcases hs with rfl | hs
    · exact .inl rfl
    · rcases hf j hs with h2 | h2
      · exact .inr h2
      · omega
theorem StepH.below {w0 w w' : World} {g B size n : Nat} {v : Value} {H : List UInt8} (h : StepH w g B size v H w') (hb : Below n w0 w) (hn : n ≤ w.heap.size) (hg : n ≤ g) (hv : ∀ k, v.ownBlock = some k → n ≤ k) : Below n w0 w' ∧ ∀ v' : Value, (∀ k, v'.ownBlock = some k → v.ownBlock = some k ∨ w.heap.size ≤ k) → ∀ k, v'.ownBlock = some k → n ≤ k := by
  obtain ⟨v', h1, h4, h5⟩ := h
  refine ⟨hb.trans (h5.below (fun k hk => ⟨by omega, fun e => ?_⟩)), fun v2 h2 k hk => ?_⟩
  · rcases e with rfl | e
    · omega
    · have := hv k e; omega
  · rcases h2 k hk with h | h
    · exact hv k h
    · omega
/-- A window of the call's own, behind its making. -/
def Mine (w0 w : World) (size : Nat) (H : List UInt8) : Prop := ∃ v, WinH w w0.heap.size w0.heap.size size v H ∧ (∀ k, v.ownBlock = some k → w0.heap.size ≤ k) ∧ Below w0.heap.size w0 w
theorem mine_new {w w' : World} {n : Nat} (h : Win w' w.heap.size w.heap.size n (.slice none 0 0) []) (hb : Below w.heap.size w w') : Mine w w' n [] :=
  ⟨_, ⟨[], h, by unfold lastN; simp, by simp⟩, fun k e => by simp [Value.ownBlock] at e, hb⟩
theorem Mine.drewN {w0 w : World} {size : Nat} {H : List UInt8} (h : Mine w0 w size H) (q : Nat) : Mine w0 (w.drewN q) size H := by
  obtain ⟨v, ⟨all, h1, h2, h3⟩, h4, h5⟩ := h
  exact ⟨v, ⟨all, h1.drewN q, h2, h3⟩, h4, below_dn h5 q⟩
theorem mine_step {w0 w w' : World} {size : Nat} {v : Value} {H' : List UInt8} (hv : ∀ k, v.ownBlock = some k → w0.heap.size ≤ k) (hb : Below w0.heap.size w0 w) (h : StepH w w0.heap.size w0.heap.size size v H' w') : Mine w0 w' size H' := by
  obtain ⟨h6, h7⟩ := h.below hb hb.size (Nat.le_refl _) hv
  obtain ⟨v', h1, h4, h5⟩ := h
  exact ⟨v', h1, h7 v' h4, h6⟩
theorem mPut (w0 w : World) (size : Nat) (H : List UInt8) (s : ByteArray) (h : Mine w0 w size H) (hs : s.size ≤ 9223372036854775807) (H' : List UInt8) (hH : lastN size (H ++ s.data.toList) = H') :
    Calls Try.prog 35 #[.pointer (some ⟨w0.heap.size, 0, none⟩), .string s] w fun e w' => e = .returned (.tuple #[]) ∧ Mine w0 w' size H' := by
  obtain ⟨v, h1, h2, h3⟩ := h
  subst hH
  exact (hPut w _ _ size v H s h1 hs).mono (by rintro e w' ⟨h4, h5⟩; exact ⟨h4, mine_step h2 h3 h5⟩)
theorem mCopy (w0 w : World) (size : Nat) (H : List UInt8) (n d : Int) (h : Mine w0 w size H) (T : List UInt8) (E : Int) (hT : copyS H n d = (T, E)) (H' : List UInt8) (hH : lastN size (H ++ T) = H') :
    Calls Try.prog 36 #[.pointer (some ⟨w0.heap.size, 0, none⟩), .int .i64 n, .int .i64 d] w fun e w' => e = .returned (.tuple #[.string (sOf T), .int .i64 E]) ∧ Mine w0 w' size H' := by
  obtain ⟨v, h1, h2, h3⟩ := h
  subst hH
  exact (hCopy w _ _ size v H n d h1 T E hT).mono (by rintro e w' ⟨h4, h5⟩; exact ⟨h4, mine_step h2 h3 h5⟩)
theorem mHave (w0 w : World) (size : Nat) (H : List UInt8) (h : Mine w0 w size H) (L : Int) (hL : (H.length : Int) = L) : Calls Try.prog 32 #[.pointer (some ⟨w0.heap.size, 0, none⟩)] w fun e w' => e = .returned (.int .i64 L) ∧ Mine w0 w' size H := by
  have hm := h
  obtain ⟨v, h1, h2, h3⟩ := h
  subst hL
  exact (hHave w _ _ size v H h1).mono (by rintro e w' ⟨h4, q, rfl⟩; exact ⟨h4, hm.drewN q⟩)
theorem mLast (w0 w : World) (size : Nat) (H : List UInt8) (n : Int) (h : Mine w0 w size H) (T : List UInt8) (hT : lastI n H = T) : Calls Try.prog 33 #[.pointer (some ⟨w0.heap.size, 0, none⟩), .int .i64 n] w fun e w' => e = .returned (.string (sOf T)) ∧ Mine w0 w' size H := by
  have hm := h
  obtain ⟨v, h1, h2, h3⟩ := h
  subst hT
  exact (hLast w _ _ size v H n h1).mono (by rintro e w' ⟨h4, q, rfl⟩; exact ⟨h4, hm.drewN q⟩)
theorem sOf_toList (l : List UInt8) : (sOf l).toList = l := by
  rw [ByteArray.toList_eq]; rfl
set_option maxHeartbeats 3200000 in
theorem awake29 (w : World) : Calls Try.prog 29 #[] w fun e w' => e = .returned (.bool true) ∧ Below w.heap.size w w' := by
  go_enter Try.func29, Try.ntmps29
  go_wp2_with fail
  refine (wnNew 4 _ (by decide)).mono ?_; rintro e w1 ⟨rfl, hw, hb, -⟩
  have hm := Lib.hid (mine_new hw hb)
  clear hw hb
  go_wp2_with fail
  refine (wnNewBad 0 _ (by decide)).mono ?_; rintro e w2 ⟨rfl, rfl⟩
  go_wp2_with fail
  refine (mPut w _ _ [] _ hm.out (by decide) [97, 98] (by decide)).mono ?_; rintro e w3 ⟨rfl, h3⟩
  have hm := Lib.hid h3
  clear h3
  go_wp2_with fail
  refine (mCopy w _ _ _ 3 2 hm.out [97, 98, 97] 0 (by decide) [98, 97, 98, 97] (by decide)).mono ?_; rintro e w4 ⟨rfl, h3⟩
  have hm := Lib.hid h3
  clear h3
  go_wp2_with fail
  refine (mCopy w _ _ _ 3 5 hm.out [] 10 (by decide) [98, 97, 98, 97] (by decide)).mono ?_; rintro e w5 ⟨rfl, h3⟩
  have hm := Lib.hid h3
  clear h3
  go_wp2_with fail
  refine (mCopy w _ _ _ 259 1 hm.out [] 1 (by decide) [98, 97, 98, 97] (by decide)).mono ?_; rintro e w6 ⟨rfl, h3⟩
  have hm := Lib.hid h3
  clear h3
  have hsl := sOf_toList
  go_wp2_with fail
  refine (mHave w _ _ _ hm.out 4 (by decide)).mono ?_; rintro e w7 ⟨rfl, h3⟩
  have hm := Lib.hid h3
  clear h3
  go_wp2_with fail
  refine (mLast w _ _ _ 9 hm.out [98, 97, 98, 97] (by decide)).mono ?_; rintro e w8 ⟨rfl, h3⟩
  have hm := Lib.hid h3
  clear h3
  go_wp2_with fail
  refine (mLast w _ _ _ 2 hm.out [98, 97] (by decide)).mono ?_; rintro e w9 ⟨rfl, h3⟩
  have hm := Lib.hid h3
  clear h3
  go_wp2_with fail
  refine (mLast w _ _ _ (-1) hm.out [] (by decide)).mono ?_; rintro e w10 ⟨rfl, h3⟩
  have hm := Lib.hid h3
  clear h3
  go_wp2_with fail
  go_ret
  obtain ⟨-, -, -, hb⟩ := hm.out
  exact ⟨rfl, hb⟩
end Go.Proofs.Ytjpmfaodkldobaa
