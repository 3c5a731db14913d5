/- Contracts of layer 38's functions, the program's and the document's. -/
import Derived.Test.YtfemcehglolnjaaRows
import Derived.WalkKit
import Derived.ProofKit
import Derived.OpenShut
import Derived.Lib.Hide
import Derived.WalkSmall
namespace Go.Proofs.Ytfemcehglolnjaa
open Go.ChangeShapes Go.WideShapes Go.ChangeAt Go.RowKit
set_option linter.unusedVariables false
set_option maxRecDepth 100000

def cutI (n : Int) : Int := if n < 0 then 0 else if 1152921504606846976 < n then 1152921504606846976 else n
def blocksI (n : Int) : Int := if n < 1 then 0 else (n - 1) / 65536 + 1
def frameI (n f : Int) : Int := cutI n + 5 * (blocksI (cutI n) + cutI f) + 32
theorem cutI_bd (n : Int) : 0 ≤ cutI n ∧ cutI n ≤ 1152921504606846976 := by unfold cutI; split <;> (try split) <;> omega
theorem blocksI_bd (n : Int) (h0 : 0 ≤ n) (h1 : n ≤ 1152921504606846976) : 0 ≤ blocksI n ∧ blocksI n ≤ 17592186044417 := by unfold blocksI; split <;> omega

theorem ret_i {k : IntKind} {a b : Int} (h : a = b) : Ending.returned (.int k a) = .returned (.int k b) := by rw [h]

theorem cut_any (n : Int) (h0 : -9223372036854775808 ≤ n) (h1 : n ≤ 9223372036854775807) (w : World) :
    Calls Try.prog 51 #[.int .i64 n] w fun e w' => e = .returned (.int .i64 (cutI n)) ∧ w = w' := by
  by_cases c1 : n < 0
  · have e : cutI n = 0 := if_pos c1
    have E := Lib.hid e; clear e
    go_enter Try.func51, Try.ntmps51
    go_wp2
    go_ret
    exact ⟨ret_i (by rw [E.out]), rfl⟩
  · by_cases c2 : 1152921504606846976 < n
    · have e : cutI n = 1152921504606846976 := by unfold cutI; rw [if_neg c1, if_pos c2]
      have E := Lib.hid e; clear e
      go_enter Try.func51, Try.ntmps51
      go_wp2
      go_ret
      exact ⟨ret_i (by rw [E.out]), rfl⟩
    · have e : cutI n = n := by unfold cutI; rw [if_neg c1, if_neg c2]
      have E := Lib.hid e; clear e
      go_enter Try.func51, Try.ntmps51
      go_wp2
      go_ret
      exact ⟨ret_i (by rw [E.out]), rfl⟩

theorem refCut_any (n : Int) (h0 : -9223372036854775808 ≤ n) (h1 : n ≤ 9223372036854775807) (w : World) :
    Calls Try.prog 52 #[.int .i64 n] w fun e w' => e = .returned (.int .i64 (cutI n)) ∧ w = w' := by
  by_cases c1 : n < 0
  · have e : cutI n = 0 := if_pos c1
    have E := Lib.hid e; clear e
    go_enter Try.func52, Try.ntmps52
    go_wp2
    go_ret
    exact ⟨ret_i (by rw [E.out]), rfl⟩
  · by_cases c2 : 1152921504606846976 < n
    · have e : cutI n = 1152921504606846976 := by unfold cutI; rw [if_neg c1, if_pos c2]
      have E := Lib.hid e; clear e
      go_enter Try.func52, Try.ntmps52
      go_wp2
      go_ret
      exact ⟨ret_i (by rw [E.out]), rfl⟩
    · have e : cutI n = n := by unfold cutI; rw [if_neg c1, if_neg c2]
      have E := Lib.hid e; clear e
      go_enter Try.func52, Try.ntmps52
      go_wp2
      all_goals go_ret
      all_goals exact ⟨ret_i (by rw [E.out]; try omega), rfl⟩

theorem blocks_any (n : Int) (h1 : n ≤ 9223372036854775807) (w : World) :
    Calls Try.prog 29 #[.int .i64 n] w fun e w' => e = .returned (.int .i64 (blocksI n)) ∧ w = w' := by
  by_cases c1 : n < 1
  · have e : blocksI n = 0 := if_pos c1
    have E := Lib.hid e; clear e
    go_enter Try.func29, Try.ntmps29
    go_wp2
    go_ret
    exact ⟨ret_i (by rw [E.out]), rfl⟩
  · have e : blocksI n = (n - 1) / 65536 + 1 := if_neg c1
    have E := Lib.hid e; clear e
    go_enter Try.func29, Try.ntmps29
    go_wp2
    go_ret
    exact ⟨ret_i (by rw [E.out]), rfl⟩

theorem refBlocks_any (n : Int) (h1 : n ≤ 9223372036854775807) (w : World) :
    Calls Try.prog 30 #[.int .i64 n] w fun e w' => e = .returned (.int .i64 (blocksI n)) ∧ w = w' := by
  by_cases c1 : n < 1
  · have e : blocksI n = 0 := if_pos c1
    have E := Lib.hid e; clear e
    go_enter Try.func30, Try.ntmps30
    go_wp2
    go_ret
    exact ⟨ret_i (by rw [E.out]), rfl⟩
  · have e : blocksI n = (n - 1) / 65536 + 1 := if_neg c1
    have E := Lib.hid e; clear e
    go_enter Try.func30, Try.ntmps30
    go_wp2
    go_ret
    exact ⟨ret_i (by rw [E.out]), rfl⟩

theorem frame_any (n f : Int) (h0 : -9223372036854775808 ≤ n) (h1 : n ≤ 9223372036854775807) (g0 : -9223372036854775808 ≤ f) (g1 : f ≤ 9223372036854775807) (w : World) :
    Calls Try.prog 31 #[.int .i64 n, .int .i64 f] w fun e w' => e = .returned (.int .i64 (frameI n f)) ∧ w = w' := by
  obtain ⟨a, ha⟩ : ∃ a, cutI n = a := ⟨_, rfl⟩
  obtain ⟨b, hb⟩ : ∃ b, cutI f = b := ⟨_, rfl⟩
  have c1 := cut_any n h0 h1; have c2 := cut_any f g0 g1
  rw [ha] at c1; rw [hb] at c2
  have k1 := cutI_bd n; have k2 := cutI_bd f
  rw [ha] at k1; rw [hb] at k2
  obtain ⟨k1a, k1b⟩ := k1
  obtain ⟨k2a, k2b⟩ := k2
  have k3 := blocksI_bd a k1a k1b
  have e : frameI n f = a + 5 * (blocksI a + b) + 32 := by unfold frameI; rw [ha, hb]
  have c3 := blocks_any a (by omega)
  obtain ⟨c, hc⟩ : ∃ c, blocksI a = c := ⟨_, rfl⟩
  rw [hc] at c3 e k3
  obtain ⟨k3a, k3b⟩ := k3
  have C1 := Lib.hid c1; have C2 := Lib.hid c2; have C3 := Lib.hid c3; have E := Lib.hid e
  clear c1 c2 c3 e ha hb hc
  go_enter Try.func31, Try.ntmps31
  go_wp2_with fail
  refine (C1.out _).mono ?_; rintro e w' ⟨rfl, rfl⟩
  go_wp2_with fail
  refine (C2.out _).mono ?_; rintro e w' ⟨rfl, rfl⟩
  go_wp2_with fail
  refine (C3.out _).mono ?_; rintro e w' ⟨rfl, rfl⟩
  go_wp2_with fail
  go_ret
  exact ⟨ret_i (by rw [E.out]), rfl⟩

theorem refFrame_any (n f : Int) (h0 : -9223372036854775808 ≤ n) (h1 : n ≤ 9223372036854775807) (g0 : -9223372036854775808 ≤ f) (g1 : f ≤ 9223372036854775807) (w : World) :
    Calls Try.prog 32 #[.int .i64 n, .int .i64 f] w fun e w' => e = .returned (.int .i64 (frameI n f)) ∧ w = w' := by
  obtain ⟨a, ha⟩ : ∃ a, cutI n = a := ⟨_, rfl⟩
  obtain ⟨b, hb⟩ : ∃ b, cutI f = b := ⟨_, rfl⟩
  have c1 := refCut_any n h0 h1; have c2 := refCut_any f g0 g1
  rw [ha] at c1; rw [hb] at c2
  have k1 := cutI_bd n; have k2 := cutI_bd f
  rw [ha] at k1; rw [hb] at k2
  obtain ⟨k1a, k1b⟩ := k1
  obtain ⟨k2a, k2b⟩ := k2
  have k3 := blocksI_bd a k1a k1b
  have e : frameI n f = a + 5 * (blocksI a + b) + 32 := by unfold frameI; rw [ha, hb]
  have c3 := refBlocks_any a (by omega)
  obtain ⟨c, hc⟩ : ∃ c, blocksI a = c := ⟨_, rfl⟩
  rw [hc] at c3 e k3
  obtain ⟨k3a, k3b⟩ := k3
  have C1 := Lib.hid c1; have C2 := Lib.hid c2; have C3 := Lib.hid c3; have E := Lib.hid e
  clear c1 c2 c3 e ha hb hc
  go_enter Try.func32, Try.ntmps32
  go_wp2_with fail
  refine (C1.out _).mono ?_; rintro e w' ⟨rfl, rfl⟩
  go_wp2_with fail
  refine (C1.out _).mono ?_; rintro e w' ⟨rfl, rfl⟩
  go_wp2_with fail
  refine (C3.out _).mono ?_; rintro e w' ⟨rfl, rfl⟩
  go_wp2_with fail
  refine (C2.out _).mono ?_; rintro e w' ⟨rfl, rfl⟩
  go_wp2_with fail
  go_ret
  exact ⟨ret_i (by rw [E.out]; omega), rfl⟩

theorem head_any (w : World) : Calls Try.prog 53 #[] w fun e w' => e = .returned (.int .i64 32) ∧ w = w' := by
  go_enter Try.func53, Try.ntmps53
  go_wp2
  go_ret
  exact ⟨rfl, rfl⟩

theorem awake38 (w : World) : Calls Try.prog 33 #[] w fun e w' => e = .returned (.bool true) ∧ w = w' := by
  have c1 := fun w => frame_any 1 0 (by decide) (by decide) (by decide) (by decide) w
  have c2 := fun w => frame_any 0 0 (by decide) (by decide) (by decide) (by decide) w
  have c3 := fun w => blocks_any 65536 (by decide) w
  have c4 := fun w => blocks_any 65537 (by decide) w
  have c6 := fun w => frame_any (-5) 2 (by decide) (by decide) (by decide) (by decide) w
  rw [show frameI 1 0 = 38 from by decide] at c1
  rw [show frameI 0 0 = 32 from by decide] at c2
  rw [show blocksI 65536 = 1 from by decide] at c3
  rw [show blocksI 65537 = 2 from by decide] at c4
  rw [show frameI (-5) 2 = 42 from by decide] at c6
  have C1 := Lib.hid c1; have C2 := Lib.hid c2; have C3 := Lib.hid c3; have C4 := Lib.hid c4; have C6 := Lib.hid c6
  clear c1 c2 c3 c4 c6
  go_enter Try.func33, Try.ntmps33
  go_wp2_with fail
  refine (C1.out _).mono ?_; rintro e w' ⟨rfl, rfl⟩
  go_wp2_with fail
  refine (C2.out _).mono ?_; rintro e w' ⟨rfl, rfl⟩
  go_wp2_with fail
  refine (C3.out _).mono ?_; rintro e w' ⟨rfl, rfl⟩
  go_wp2_with fail
  refine (C4.out _).mono ?_; rintro e w' ⟨rfl, rfl⟩
  go_wp2_with fail
  refine (head_any _).mono ?_; rintro e w' ⟨rfl, rfl⟩
  go_wp2_with fail
  refine (C6.out _).mono ?_; rintro e w' ⟨rfl, rfl⟩
  go_wp2_with fail
  go_ret
  exact ⟨rfl, rfl⟩
end Go.Proofs.Ytfemcehglolnjaa
