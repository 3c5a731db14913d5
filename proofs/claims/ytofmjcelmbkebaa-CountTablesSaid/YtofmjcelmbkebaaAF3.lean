/- Layer 24: prices. -/
import Derived.Test.YtofmjcelmbkebaaAF2
import Derived.Test.YtofmjcelmbkebaaK2
namespace Go.Proofs.Ytofmjcelmbkebaa
open Go.ChangeShapes Go.WideShapes Go.ChangeAt Go.RowKit
set_option linter.unusedVariables false
set_option linter.unusedSimpArgs false
set_option maxRecDepth 100000
/-- The price at a place. -/
def prA (l : List Int) (i : Nat) : Int := if i < l.length ∧ 1 ≤ l.getD i 0 ∧ l.getD i 0 ≤ 15 then l.getD i 0 else 16
def prL (l : List Int) (n : Nat) : List Int := (List.range n).map (prA l)
theorem prL_len (l : List Int) (n : Nat) : (prL l n).length = n := by simp [prL]
theorem prL_succ (l : List Int) (n : Nat) : prL l (n + 1) = prL l n ++ [prA l n] := by simp [prL, List.range_succ]
theorem prL_get (l : List Int) (n i : Nat) (h : i < n) : (prL l n).getD i 0 = prA l i := by simp [prL, List.getD_eq_getElem?_getD, h]
/-- A variable that holds a row of numbers. -/
theorem cPriceOf (b n i : Nat) (a : Option Addr) (c : Nat) (l : List Int) (w : World) (hl : l.length = n) (hb : w.cell? ⟨b, 0, none⟩ = some (.slice a n c)) (hi : IsInts w a l) (hn : n ≤ 1000) (h0 : i ≤ 1000) :
    Calls Try.prog 56 #[.int .i64 i, .pointer (some ⟨b, 0, none⟩)] w fun e w' => e = .returned (.int .i64 (prA l i)) ∧ Below w.heap.size w w' := by
  have lb := cell_block hb
  by_cases hin : i < n
  · have hii : (i : Int) < n := by omega
    obtain ⟨x, rfl, hx, hc⟩ := hi.at i (by omega)
    have cx := hc i (by omega)
    obtain ⟨v, hv⟩ : ∃ v, l.getD i 0 = v := ⟨_, rfl⟩
    rw [hv] at cx
    by_cases h1 : 1 ≤ v
    · by_cases h2 : v ≤ 15
      · have e : prA l i = v := by unfold prA; rw [if_pos ⟨by omega, by omega, by omega⟩, hv]
        rw [e]
        clear hi hc e hv
        go_enter Try.func56, Try.ntmps56
        go_wp2_with fail
        go_ret
        exact ⟨rfl, Below.refl _ _⟩
      · have e : prA l i = 16 := by unfold prA; rw [if_neg (by omega)]
        rw [e]
        clear hi hc e hv
        go_enter Try.func56, Try.ntmps56
        go_wp2_with fail
        go_ret
        exact ⟨rfl, Below.refl _ _⟩
    · have e : prA l i = 16 := by unfold prA; rw [if_neg (by omega)]
      rw [e]
      clear hi hc e hv
      go_enter Try.func56, Try.ntmps56
      go_wp2_with fail
      go_ret
      exact ⟨rfl, Below.refl _ _⟩
  · have hii : ¬ (i : Int) < n := by omega
    have e : prA l i = 16 := by unfold prA; rw [if_neg (by omega)]
    rw [e]
    clear hi e
    go_enter Try.func56, Try.ntmps56
    go_wp2_with fail
    go_ret
    exact ⟨rfl, Below.refl _ _⟩
end Go.Proofs.Ytofmjcelmbkebaa
