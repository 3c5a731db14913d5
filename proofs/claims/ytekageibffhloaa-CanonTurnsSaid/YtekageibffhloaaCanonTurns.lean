/- It is proved that the law 'CanonTurns' of the program returns true for every input, with no condition, and leaves what was handed in as it was. The frame was written by a program; the walk is by hand. -/
import Derived.Test.YtekageibffhloaaRows
import Derived.WalkKit
import Derived.ProofKit
import Derived.OpenShut
import Derived.ShutString
import Derived.ChangeOld
import Derived.Below
import Derived.Test.YtekageibffhloaaBase
import Derived.Test.YtekageibffhloaaCh
namespace Go.Proofs.Ytekageibffhloaa.canonTurns
open Go.ChangeShapes Go.WideShapes Go.ChangeAt Go.RowKit Go.Deep
open Go.ChangeMaps (open_string shut_string)
set_option linter.unusedVariables false
set_option maxRecDepth 100000

theorem own : ownKnob Try.prog.godebug = none := by kernel_rfl
theorem laidOut : laidOutB Try.prog = true := by kernel_rfl

open TurnMath
theorem mask_any (x k : Nat) (hx : x < 4294967296) (hk : k ≤ 32) : bits .and .i64 (x : Int) ((2 : Int) ^ k - 1) = ((x % 2 ^ k : Nat) : Int) := by
  have hp : 2 ^ k ≤ 2 ^ 32 := Nat.pow_le_pow_right (by decide) hk
  have h0 : 0 < 2 ^ k := Nat.pow_pos (by decide)
  have e : ((2 : Int) ^ k - 1) = ((2 ^ k - 1 : Nat) : Int) := by
    have : ((2 ^ k : Nat) : Int) = (2 : Int) ^ k := by simp
    omega
  have h := (bits_nat .i64 62 (by decide) (fun n h0 h1 => IntWalk.i64_in n (by omega)) x (2 ^ k - 1) (by omega) (by omega)).1
  rw [e, h, Nat.and_two_pow_sub_one_eq_mod]
theorem in_walk (c k : Nat) (b : Int) (hb0 : 0 ≤ b) (hb1 : b < 256) (hk : b % 33 = k) (hc : c < 4294967296) (w : World) :
    Calls Try.prog 5 #[.int .u32 c, .int .u8 b] w fun e w' => e = .returned (.bool true) ∧ Below w.heap.size w w' := by
  have hk32 : k ≤ 32 := by omega
  have hm := Lib.hid (mask_any c k hc hk32)
  have hp : 2 ^ k ≤ 2 ^ 32 := Nat.pow_le_pow_right (by decide) hk32
  have hx : c % 2 ^ k < 2 ^ k := Nat.mod_lt _ (Nat.pow_pos (by decide))
  have e1 : turnI ((c % 2 ^ k : Nat) : Int) (k : Int) = (turn (c % 2 ^ k) k : Nat) := by
    unfold turnI; rw [if_neg (by omega), Int.toNat_natCast, show (((c % 2 ^ k : Nat) : Int) % 4294967296).toNat = c % 2 ^ k by omega]
  have ht := turn_lt (c % 2 ^ k) k
  have e2 : turnI ((turn (c % 2 ^ k) k : Nat) : Int) (k : Int) = (c % 2 ^ k : Nat) := by
    unfold turnI; rw [if_neg (by omega), Int.toNat_natCast, show (((turn (c % 2 ^ k) k : Nat) : Int) % 4294967296).toNat = turn (c % 2 ^ k) k by omega, turn_turn _ _ hx]
  have C1 := bTurnedA _ _ _ e1
  have C2 := bTurnedA _ _ _ e2
  obtain ⟨X, hX⟩ : ∃ X, c % 2 ^ k = X := ⟨_, rfl⟩
  rw [hX] at C1 C2 hm hx
  obtain ⟨Y, hY⟩ : ∃ Y, turn X k = Y := ⟨_, rfl⟩
  rw [hY] at C1 C2
  have hw2 : wrap64 (wrap64 ((2 : Int) ^ k) - 1) = (2 : Int) ^ k - 1 := by
    have h0 : 0 < 2 ^ k := Nat.pow_pos (by decide)
    have : ((2 ^ k : Nat) : Int) = (2 : Int) ^ k := by simp
    rw [← this]
    have hp2 : 2 ^ k ≤ 4294967296 := hp
    generalize 2 ^ k = P at h0 hp2
    rw [IntWalk.wrap64_in ((P : Nat) : Int) (by omega), IntWalk.wrap64_in _ (by omega)]
  rw [← hw2] at hm
  clear hw2
  have C1_ := Lib.hid C1
  have C2_ := Lib.hid C2
  clear C1 C2
  clear hX hY e1 e2 ht hp hx
  go_enter Try.func5, Try.ntmps5
  go_wp2_with fail
  rw [hm.out]
  refine (C1_.out w).mono ?_; rintro e w1 ⟨rfl, rfl⟩
  go_wp2_with fail
  refine (C2_.out w1).mono ?_; rintro e w2 ⟨rfl, rfl⟩
  go_wp2_with fail
  refine (awake08 _).mono ?_; rintro e w3 ⟨rfl, hb⟩
  go_wp2_with fail
  go_ret
  exact ⟨rfl, hb⟩

set_option maxHeartbeats 3200000 in
theorem walk (a0 : Int) (a1 : Int) (w : World) (w0 : (Lit.int .u32 a0).wf = true) (w1 : (Lit.int .u8 a1).wf = true) :
    Calls Try.prog 5 #[.int .u32 a0, .int .u8 a1] w fun e w' => e = .returned (.bool true) ∧ Below w.heap.size w w' := by
  obtain ⟨b0, b1⟩ := bounds_u32 w0
  obtain ⟨b2, b3⟩ := bounds_u8 w1
  clear w0 w1
  obtain ⟨c, rfl⟩ : ∃ c : Nat, a0 = c := ⟨a0.toNat, by omega⟩
  exact in_walk c (a1 % 33).toNat a1 b2 (by omega) (by omega) (by omega) w

theorem lifted (os : Os) (started : os.Started) (H : Type) (enc : TypeId × Value → H) :
    ReturnsInHanded {} Try.checked os 5 .any (Rows.canonTurnsSpec.pre6 enc Try.prog Try.f5 Rows.canonTurnsRow.domain false) (Rows.canonTurnsSpec.post enc Try.prog Try.f5 false true false false) := by
  refine returnsInHanded_of_change (C := Try.checked) own started (by kernel_rfl) Try.func5
    (ChangeSpec.witness6 (enc := enc) (C := Try.checked) false ⟨#[], #[.int .u32 0, .int .u8 0], []⟩ 8 (by kernel_rfl) (by kernel_rfl) (by kernel_rfl) (by kernel_rfl)) ?_
  intro W base args ds gs before hval0 hW hcnd _
  have hval : ∀ (j : Nat) t v, Try.f5.params[j]? = some t → args[j]? = some v → Value.okWide Try.prog W .any base t v := hval0
  have hW' := hW
  obtain ⟨p, q, hA0, hV, rfl, hfz, hnd⟩ := hW
  have hA : DataW.TrodAll enc Try.prog W 0 (fun _ => true) true Try.f5.params.toList args.toList ds p := hA0
  rw [Try.params5] at hA hval
  obtain ⟨v0, vs0, d0, ds0, p0, q0, hargs, rfl, rfl, h0, r0⟩ := trodAll_cons hA
  obtain ⟨v1, vs1, d1, ds1, p1, q1, rfl, rfl, rfl, h1, r1⟩ := trodAll_cons r0
  obtain ⟨rfl, rfl, rfl⟩ := trodAll_nil r1
  obtain rfl : args = #[v0, v1] := by cases args; simp_all
  obtain ⟨rfl, rfl⟩ := trodVars_none hV
  have k0 := h0
  have lt0 : ∀ x ∈ p0, x.block < W.heap.size := by obtain ⟨m, hm⟩ := k0; exact DataW.trod_lt m _ _ _ hm
  obtain ⟨a0, rfl, rfl, rfl, w0⟩ := open_int Try.underlying35 (hval 0 35 v0 rfl rfl) h0
  have k1 := h1
  have lt1 : ∀ x ∈ p1, x.block < W.heap.size := by obtain ⟨m, hm⟩ := k1; exact DataW.trod_lt m _ _ _ hm
  obtain ⟨a1, rfl, rfl, rfl, w1⟩ := open_int Try.underlying5 (hval 1 5 v1 rfl rfl) h1
  clear hA0 hval0
  refine (walk a0 a1 W w0 w1).mono fun e W' ⟨he, bel⟩ => ?_
  subst he
  exact ⟨_, rfl, _, _, _, [], _, [], hW', trodAll_mk1 (shut_bool Try.underlying4 _), (trodAll_cons_mk (Below.trod laidOut (by kernel_rfl) (of_decide_eq_true (by kernel_rfl)) k0 bel lt0) (trodAll_cons_mk (Below.trod laidOut (by kernel_rfl) (of_decide_eq_true (by kernel_rfl)) k1 bel lt1) trodAll_mk0)), rfl, bel.frame _, fun h => by cases h⟩

theorem over : Rows.canonTurnsRow.holds Try.pinned (OpenSpec.ofChange Rows.canonTurnsSpec) :=
  OpenClaim.holds_of_wide 5 Try.f5 rfl rfl rfl rfl rfl rfl rfl ⟨rfl, rfl, rfl, rfl, rfl⟩ rfl rfl rfl rfl rfl (by kernel_rfl) Try.func5 (by kernel_rfl)
    (of_decide_eq_true (by kernel_rfl)) (by unfold Func.isWrapper; first | (rw [if_pos (by decide +kernel)]; kernel_rfl) | (rw [if_neg (by decide +kernel)]; exact ⟨rfl, rfl⟩))
    (fun os started H enc _ => lifted os started H enc)

theorem proved : Rows.CanonTurnsSaid := over
#print axioms proved
end Go.Proofs.Ytekageibffhloaa.canonTurns
