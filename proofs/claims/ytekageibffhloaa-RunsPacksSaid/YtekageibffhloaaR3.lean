/- Layer 12: the first run from a place on. -/
import Derived.Test.YtekageibffhloaaR2
namespace Go.Proofs.Ytekageibffhloaa
open Go.ChangeShapes Go.WideShapes Go.ChangeAt Go.RowKit
set_option linter.unusedVariables false
set_option maxRecDepth 100000
open RunsMath

def FirstPost (r : Run) (w : World) (e : Ending) (w' : World) : Prop := e = .returned (.tuple #[runV r, .int .i64 (many r : Nat)]) ∧ Below w.heap.size w w'
theorem firstPost_of {r : Run} {s m t : Int} {w w' : World} (hr : r = (s, m)) (ht : (many (s, m) : Int) = t) (hb : Below w.heap.size w w') : FirstPost r w (.returned (.tuple #[.agg #[.int .i64 s, .int .i64 m], .int .i64 t])) w' := by
  subst hr; subst ht; exact ⟨rfl, hb⟩
set_option maxHeartbeats 3200000 in
theorem rFirst (a : Option Addr) (c : Nat) (l : List Int) (i : Nat) (hi : i < l.length) (w : World) (h : IsInts w a l) (hx0 : ∀ x ∈ l, 0 ≤ x ∧ x ≤ 15) :
    Calls Try.prog 62 #[.slice a l.length c, .int .i64 i] w (FirstPost (firstRun (aheadL l i) (l.getD i 0) (rowN l i)) w) := by
  have hl := h.1
  have C := fun w h => rRow a c l i hi w h
  obtain ⟨x, rfl, hxb, hx⟩ := h.at i hi
  have cx := hx i hi
  have g0 := hx0 (l.getD i 0) (by simp [List.getD_eq_getElem?_getD, hi])
  have hrow1 : 1 ≤ rowN l i := by unfold rowN; exact (same_at (l.getD i 0) l i 0 (Nat.zero_le _) (by omega)).1 rfl
  rw [← first_min]
  obtain ⟨K, hK⟩ : ∃ K, min (rowN l i) 138 = K := ⟨_, rfl⟩
  rw [hK] at C ⊢
  have hK1 : 1 ≤ K := by omega
  have hK2 : K ≤ 138 := by omega
  have HP : Hid (0 < i → aheadL l i = l.getD (i - 1) 0) := by intro h0; unfold aheadL; rw [if_neg (by omega)]
  have HQ : Hid (i = 0 → aheadL l i = -1) := by intro h0; unfold aheadL; rw [if_pos h0]
  have HA : Hid (0 < i → w.cell? (x.add (i - 1)) = some (.int .i64 (l.getD (i - 1) 0))) := fun h0 => hx (i - 1) (by omega)
  obtain ⟨AH, hAH⟩ : ∃ AH, aheadL l i = AH := ⟨_, rfl⟩
  rw [hAH] at HP HQ ⊢
  obtain ⟨X, hX⟩ : ∃ X, l.getD i 0 = X := ⟨_, rfl⟩
  rw [hX] at cx g0 ⊢
  have hi0 := h
  have C_ := Lib.hid C
  have h_ := Lib.hid h
  clear C h
  clear hx hAH hK hX hx0 hrow1 hi0
  have hbI : Hid (IsInts (w.alloc (.cells #[.int .i64 0, .int .i64 0] 88)) (some x) l) := h_.out.alloc _
  have cxA : (w.alloc (.cells #[.int .i64 0, .int .i64 0] 88)).cell? (x.add i) = some (.int .i64 X) := (World.cell?_alloc_lt _ _ _ (by rw [add_block]; exact hxb)).trans cx
  have HAA : Hid (0 < i → (w.alloc (.cells #[.int .i64 0, .int .i64 0] 88)).cell? (x.add (i - 1)) = some (.int .i64 (l.getD (i - 1) 0))) := fun h0 => (World.cell?_alloc_lt _ _ _ (by rw [add_block]; exact hxb)).trans (HA.out h0)
  by_cases hx0 : X = 0
  · subst hx0
    by_cases h11 : 11 ≤ K
    · have HR := Lib.hid (show firstRun AH 0 K = (18, (K : Int) - 11) by unfold firstRun; rw [if_pos ⟨rfl, h11⟩, Nat.min_eq_left hK2])
      have HM := Lib.hid (show ((many (18, (K : Int) - 11) : Nat) : Int) = K by unfold many; simp; omega)
      have e1 : decide (11 ≤ (K : Int)) = true := by simp; omega
      go_enter Try.func62, Try.ntmps62
      go_wp2_with fail
      refine (C_.out _ hbI.out).mono ?_; rintro e w1 ⟨rfl, q, rfl⟩
      go_wp2_with fail
      exact bodyPost_ret (v := .tuple #[.agg #[_, _], _]) (by simp [results, Try.results62, go_sem]) rfl (firstPost_of HR.out HM.out (((below_dn ((Below.refl _ _).alloc (Nat.le_refl _) _) _).setCell (by simp) _).setCell (by simp) _))
    · have e1 : decide (11 ≤ (K : Int)) = false := by simp; omega
      by_cases h3 : 3 ≤ K
      · have HR := Lib.hid (show firstRun AH 0 K = (17, (K : Int) - 3) by unfold firstRun; rw [if_neg (by omega), if_pos ⟨rfl, h3⟩, Nat.min_eq_left (by omega)])
        have HM := Lib.hid (show ((many (17, (K : Int) - 3) : Nat) : Int) = K by unfold many; simp; omega)
        have e2 : decide (3 ≤ (K : Int)) = true := by simp; omega
        go_enter Try.func62, Try.ntmps62
        go_wp2_with fail
        refine (C_.out _ hbI.out).mono ?_; rintro e w1 ⟨rfl, q, rfl⟩
        go_wp2_with fail
        exact bodyPost_ret (v := .tuple #[.agg #[_, _], _]) (by simp [results, Try.results62, go_sem]) rfl (firstPost_of HR.out HM.out (((below_dn ((Below.refl _ _).alloc (Nat.le_refl _) _) _).setCell (by simp) _).setCell (by simp) _))
      · have HR := Lib.hid (show firstRun AH 0 K = (0, 0) by unfold firstRun; rw [if_neg (by omega), if_neg (by omega), if_neg (by omega)])
        have HM := Lib.hid (show ((many (0, 0) : Nat) : Int) = 1 by decide)
        have e2 : decide (3 ≤ (K : Int)) = false := by simp; omega
        go_enter Try.func62, Try.ntmps62
        go_wp2_with fail
        refine (C_.out _ hbI.out).mono ?_; rintro e w1 ⟨rfl, q, rfl⟩
        go_wp2_with fail
        go_quiet (fail)
        go_wp2_with fail
        exact bodyPost_ret (v := .tuple #[.agg #[_, _], _]) (by simp [results, Try.results62, go_sem]) rfl (firstPost_of HR.out HM.out (((below_dn ((Below.refl _ _).alloc (Nat.le_refl _) _) _).setCell (by simp) _).setCell (by simp) _))
  · have e0 : (X == 0) = false := by rw [beq_eq_false_iff_ne]; exact hx0
    have e0' : (X != 0) = true := by rw [bne, e0]; rfl
    by_cases hi0 : i = 0
    · subst hi0
      have HAH := Lib.hid (HQ.out rfl)
      rw [show x.add 0 = x from by simp [Addr.add]] at cx cxA
      have HR := Lib.hid (show firstRun AH X K = (X, 0) by unfold firstRun; rw [if_neg (by omega), if_neg (by omega), if_neg (by have := HAH.out; omega)])
      have HM := Lib.hid (show ((many (X, 0) : Nat) : Int) = 1 by unfold many; rw [if_neg (by simp; omega), if_neg (by simp; omega)]; rfl)
      clear hx0
      go_enter Try.func62, Try.ntmps62
      go_wp2_with fail
      refine (C_.out _ hbI.out).mono ?_; rintro e w1 ⟨rfl, q, rfl⟩
      go_wp2_with fail
      go_quiet (fail)
      go_wp2_with fail
      exact bodyPost_ret (v := .tuple #[.agg #[_, _], _]) (by simp [results, Try.results62, go_sem]) rfl (firstPost_of HR.out HM.out (((below_dn ((Below.refl _ _).alloc (Nat.le_refl _) _) _).setCell (by simp) _).setCell (by simp) _))
    · have hi1 : decide (0 < (i : Int)) = true := by simp; omega
      have hi1n : decide (0 < i) = true := by simp; omega
      have him : ((i : Int) - 1).toNat = i - 1 := by omega
      have hi64 : IntKind.i64.wrap ((i : Int) - 1) = (i : Int) - 1 := IntWalk.i64_in _ (by omega)
      have cy := HAA.out (by omega)
      have hp := HP.out (by omega)
      rw [← hp] at cy
      by_cases hy : AH = X
      · have e2 : (AH == X) = true := by rw [beq_iff_eq]; exact hy
        by_cases h3 : 3 ≤ K
        · have HR := Lib.hid (show firstRun AH X K = (16, ((min K 6 : Nat) : Int) - 3) by unfold firstRun; rw [if_neg (by omega), if_neg (by omega), if_pos ⟨hx0, hy, h3⟩])
          have HM := Lib.hid (show ((many (16, ((min K 6 : Nat) : Int) - 3) : Nat) : Int) = (min K 6 : Nat) by unfold many; simp; omega)
          have e3 : decide (3 ≤ (K : Int)) = true := by simp; omega
          subst hy
          clear hp hx0
          by_cases h6 : K ≤ 6
          · have hmn : min (K : Int) 6 = (K : Int) := by omega
            rw [show min K 6 = K by omega] at HR HM
            go_enter Try.func62, Try.ntmps62
            go_wp2_with fail
            refine (C_.out _ hbI.out).mono ?_; rintro e w1 ⟨rfl, q, rfl⟩
            go_wp2_with fail
            go_quiet (fail)
            go_wp2_with fail
            exact bodyPost_ret (v := .tuple #[.agg #[_, _], _]) (by simp [results, Try.results62, go_sem]) rfl (firstPost_of HR.out HM.out (((below_dn ((Below.refl _ _).alloc (Nat.le_refl _) _) _).setCell (by simp) _).setCell (by simp) _))
          · have hmn : min (K : Int) 6 = 6 := by omega
            rw [show min K 6 = 6 by omega] at HR HM
            go_enter Try.func62, Try.ntmps62
            go_wp2_with fail
            refine (C_.out _ hbI.out).mono ?_; rintro e w1 ⟨rfl, q, rfl⟩
            go_wp2_with fail
            go_quiet (fail)
            go_wp2_with fail
            exact bodyPost_ret (v := .tuple #[.agg #[_, _], _]) (by simp [results, Try.results62, go_sem]) rfl (firstPost_of HR.out HM.out (((below_dn ((Below.refl _ _).alloc (Nat.le_refl _) _) _).setCell (by simp) _).setCell (by simp) _))
        · have HR := Lib.hid (show firstRun AH X K = (X, 0) by unfold firstRun; rw [if_neg (by omega), if_neg (by omega), if_neg (by omega)])
          have HM := Lib.hid (show ((many (X, 0) : Nat) : Int) = 1 by unfold many; rw [if_neg (by simp; omega), if_neg (by simp; omega)]; rfl)
          have e3 : decide (3 ≤ (K : Int)) = false := by simp; omega
          subst hy
          clear hp hx0
          go_enter Try.func62, Try.ntmps62
          go_wp2_with fail
          refine (C_.out _ hbI.out).mono ?_; rintro e w1 ⟨rfl, q, rfl⟩
          go_wp2_with fail
          go_quiet (fail)
          go_wp2_with fail
          exact bodyPost_ret (v := .tuple #[.agg #[_, _], _]) (by simp [results, Try.results62, go_sem]) rfl (firstPost_of HR.out HM.out (((below_dn ((Below.refl _ _).alloc (Nat.le_refl _) _) _).setCell (by simp) _).setCell (by simp) _))
      · have e2 : (AH == X) = false := by rw [beq_eq_false_iff_ne]; exact hy
        have HR := Lib.hid (show firstRun AH X K = (X, 0) by unfold firstRun; rw [if_neg (by omega), if_neg (by omega), if_neg (by omega)])
        have HM := Lib.hid (show ((many (X, 0) : Nat) : Int) = 1 by unfold many; rw [if_neg (by simp; omega), if_neg (by simp; omega)]; rfl)
        clear hp hy hx0
        go_enter Try.func62, Try.ntmps62
        go_wp2_with fail
        refine (C_.out _ hbI.out).mono ?_; rintro e w1 ⟨rfl, q, rfl⟩
        go_wp2_with fail
        go_quiet (fail)
        go_wp2_with fail
        exact bodyPost_ret (v := .tuple #[.agg #[_, _], _]) (by simp [results, Try.results62, go_sem]) rfl (firstPost_of HR.out HM.out (((below_dn ((Below.refl _ _).alloc (Nat.le_refl _) _) _).setCell (by simp) _).setCell (by simp) _))
end Go.Proofs.Ytekageibffhloaa
