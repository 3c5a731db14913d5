/- Layer 21: a map of numbers by numbers; note. -/
import Derived.Maps.OwnSet
import Derived.Maps.Views
import Derived.Test.YtpkidedepcnoaaaX4
namespace Go.Proofs.Ytpkidedepcnoaaa
open Go.ChangeShapes Go.WideShapes Go.ChangeAt Go.RowKit Go.Maps Go.Lib
set_option linter.unusedVariables false
set_option linter.unusedSimpArgs false
set_option maxRecDepth 100000
theorem lawI : Keyed Try.prog 3 := int_keyed Try.underlying3
theorem zeroI (w : World) : (zeroValue 3).run Try.prog w = .ok (.int .i64 0) w := by kernel_rfl
theorem wfI (x : Nat) (h : x ≤ 1000000000) : (Lit.int .i64 (x : Int)).wf = true := by
  simp [Lit.wf, IntKind.min, IntKind.max, IntKind.signed, IntKind.bits]; omega
/-- Block b is a map of numbers: M. -/
def IsM (w : World) (b c : Nat) (M : Nat → Option Nat) : Prop :=
  ∃ D : DataW Unit, w.ownsMap Try.prog 3 (plainElem Try.prog 3) b c D ∧ (∀ k, Maps.has D (.int .i64 (k : Nat)) = (M k).isSome ∧ ∀ v, M k = some v → ∀ z, D.atKey (.int .i64 (k : Nat)) z = .lit (.int .i64 (v : Nat))) ∧ ∀ kl, Maps.has D kl = true → ∃ k : Nat, kl = .int .i64 (k : Int)
def putM (M : Nat → Option Nat) (k v : Nat) : Nat → Option Nat := fun j => if j = k then some v else M j
/-- What note leaves, and tells. -/
def noteB (place i best : Int) : Prop := i ≤ place ∨ place ≤ best
theorem IsM.put {w w' : World} {b c k v : Nat} {M : Nat → Option Nat} {D : DataW Unit} (h : w.ownsMap Try.prog 3 (plainElem Try.prog 3) b c D) (hM : ∀ k, Maps.has D (.int .i64 (k : Nat)) = (M k).isSome ∧ ∀ v, M k = some v → ∀ z, D.atKey (.int .i64 (k : Nat)) z = .lit (.int .i64 (v : Nat))) (hk : ∀ kl, Maps.has D kl = true → ∃ k : Nat, kl = .int .i64 (k : Int))
    (h' : w'.ownsMap Try.prog 3 (plainElem Try.prog 3) b (c + 1) (D.put (.int .i64 (k : Nat)) (.lit (.int .i64 (v : Nat))))) : IsM w' b (c + 1) (putM M k v) := by
  refine ⟨_, h', fun j => ?_, fun kl hkl => ?_⟩
  rotate_left
  · by_cases e : kl = .int .i64 (k : Int)
    · exact ⟨k, e⟩
    · rw [has_put_other (fun h => e h)] at hkl
      exact hk kl hkl
  unfold putM
  by_cases e : j = k
  · subst e
    have hk : WideAt.IsKeyLit (.int .i64 (j : Int)) := trivial
    rw [if_pos rfl, has_put_same h.isMap hk]
    refine ⟨rfl, fun u hu z => ?_⟩
    cases hu
    exact atKey_put_same h.isMap hk _ _
  · have hne : (Lit.int .i64 (j : Int)) ≠ .int .i64 (k : Int) := by simp; omega
    rw [if_neg e, has_put_other hne]
    refine ⟨(hM j).1, fun u hu z => ?_⟩
    rw [atKey_put_other hne]
    exact (hM j).2 u hu z
theorem IsM.grow {w : World} {b c : Nat} {M : Nat → Option Nat} (h : IsM w b c M) (c' : Nat) (hc : c ≤ c') : IsM w b c' M := by
  obtain ⟨D, h1, h2, h3⟩ := h
  exact ⟨D, h1.mono hc, h2, h3⟩
set_option maxHeartbeats 1600000 in
theorem cNoteOut (place i n b : Nat) (best : Int) (w : World) (h : (i : Int) ≤ place ∨ (place : Int) ≤ best) :
    Calls Try.prog 48 #[.int .i64 place, .int .i64 i, .int .i64 n, .int .i64 best, .map (some b)] w fun e w' => e = .returned (.int .i64 best) ∧ w' = w := by
  by_cases h1 : (i : Int) ≤ place
  · go_enter Try.func48, Try.ntmps48
    go_wp2_with fail
    go_ret
    exact ⟨rfl, rfl⟩
  · have h2 : (place : Int) ≤ best := by omega
    go_enter Try.func48, Try.ntmps48
    go_wp2_with fail
    go_ret
    exact ⟨rfl, rfl⟩
set_option maxHeartbeats 1600000 in
theorem cNote (place i n b c : Nat) (best : Int) (M : Nat → Option Nat) (w : World) (h1 : place < i) (h2 : best < place) (hp : i ≤ 1000000000) (hn : n ≤ 1000000000) (hc : c ≤ 1000000000) (hM : IsM w b c M) :
    Calls Try.prog 48 #[.int .i64 place, .int .i64 i, .int .i64 n, .int .i64 best, .map (some b)] w fun e w' => e = .returned (.int .i64 place) ∧ IsM w' b (c + 1) (putM M n (max place ((M n).getD 0))) ∧ w.mapTurned w' b := by
  obtain ⟨D, ho, hD, hKD⟩ := hM
  have hkey : keyOf Try.prog 3 (.int .i64 (n : Int)) = some (.int .i64 (n : Int)) := keyOf_int_mk Try.underlying3 (wfI n hn)
  have hv : plainElem (H := Unit) Try.prog 3 (.int .i64 (place : Int)) = some (.lit (.int .i64 (place : Int)), []) := plainElem_int Try.underlying3 (wfI place (by omega))
  have hh := (hD n).1
  have g1 : ¬ (i : Int) ≤ place := by omega
  have g2 : ¬ (place : Int) ≤ best := by omega
  cases hm : M n with
  | none =>
    rw [hm] at hh
    have HF := Lib.hid (fun w' h' => IsM.put (w' := w') (v := place) (k := n) ho hD hKD h')
    have hh2 : Maps.has D (.int .i64 (n : Int)) = false := hh
    rw [Option.getD_none, Nat.max_eq_left (Nat.zero_le _)]
    go_enter Try.func48, Try.ntmps48
    go_wp2_with (first
      | (at_lookup; refine wpList_lookup_own_ok_int _ rfl _ _ 61 rfl 3 3 .i64 lawI Try.underlying61 Try.underlying3 (zeroI _) b c D rfl ho _ _ rfl hkey ?_; intro had hat hwc; rw [hh2])
      | (at_mapUpdate; refine wpList_mapUpdate_in _ rfl _ _ _ 61 rfl 3 3 lawI Try.underlying61 _ b c D rfl ho (by unfold maxLen; omega) _ _ _ rfl rfl hkey _ [] hv ?_; intro w1 hown1 hturn1)
      | fail)
    go_ret
    exact ⟨rfl, HF.out _ hown1, hturn1⟩
  | some u =>
    rw [hm] at hh
    have hh2 : Maps.has D (.int .i64 (n : Int)) = true := hh
    have hat2 := (hD n).2 u hm
    by_cases hlt : u < place
    · have HF := Lib.hid (fun w' h' => IsM.put (w' := w') (v := place) (k := n) ho hD hKD h')
      rw [Option.getD_some, Nat.max_eq_left (by omega)]
      have hi : (u : Int) < place := by omega
      go_enter Try.func48, Try.ntmps48
      go_wp2_with (first
        | (at_lookup; refine wpList_lookup_own_ok_int _ rfl _ _ 61 rfl 3 3 .i64 lawI Try.underlying61 Try.underlying3 (zeroI _) b c D rfl ho _ _ rfl hkey ?_; intro had hat hwc; rw [hh2]; rw [hat2] at hat; obtain rfl : (u : Int) = had := (by injection hat with h; injection h))
        | (at_mapUpdate; refine wpList_mapUpdate_in _ rfl _ _ _ 61 rfl 3 3 lawI Try.underlying61 _ b c D rfl ho (by unfold maxLen; omega) _ _ _ rfl rfl hkey _ [] hv ?_; intro w1 hown1 hturn1)
        | fail)
      go_ret
      exact ⟨rfl, HF.out _ hown1, hturn1⟩
    · rw [Option.getD_some, Nat.max_eq_right (by omega)]
      have hi : ¬ (u : Int) < place := by omega
      have HF := Lib.hid (show IsM w b (c + 1) (putM M n u) from ⟨D, ho.mono (by omega), fun k => by
        unfold putM
        by_cases e : k = n
        · subst e; rw [if_pos rfl, ← hm]; exact hD k
        · rw [if_neg e]; exact hD k, hKD⟩)
      have HT := Lib.hid ho.turned_refl
      go_enter Try.func48, Try.ntmps48
      go_wp2_with (first
        | (at_lookup; refine wpList_lookup_own_ok_int _ rfl _ _ 61 rfl 3 3 .i64 lawI Try.underlying61 Try.underlying3 (zeroI _) b c D rfl ho _ _ rfl hkey ?_; intro had hat hwc; rw [hh2]; rw [hat2] at hat; obtain rfl : (u : Int) = had := (by injection hat with h; injection h))
        | fail)
      go_ret
      exact ⟨rfl, HF.out, HT.out⟩
end Go.Proofs.Ytpkidedepcnoaaa
