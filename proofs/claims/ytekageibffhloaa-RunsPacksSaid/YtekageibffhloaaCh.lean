/- Layer 8: the calls that are made once; what chapter 8 shows. -/
import Derived.Test.YtekageibffhloaaCg
namespace Go.Proofs.Ytekageibffhloaa
open Go.ChangeShapes Go.WideShapes Go.ChangeAt Go.RowKit
set_option linter.unusedVariables false
set_option maxRecDepth 100000
open KraftMath CanonMath TurnMath

def turnI (c n : Int) : Int := if n < 0 ∨ 32 < n then 0 else (turn (c % 4294967296).toNat n.toNat : Nat)
theorem bTurnedA (c n v : Int) (hv : turnI c n = v) (w : World) : Calls Try.prog 21 #[.int .i64 c, .int .i64 n] w fun e w' => e = .returned (.int .i64 v) ∧ w' = w := by
  unfold turnI at hv
  by_cases h : n < 0 ∨ 32 < n
  · rw [if_pos h] at hv; subst hv; exact bTurned_out c n h w
  · rw [if_neg h] at hv
    obtain ⟨k, rfl⟩ : ∃ k : Nat, n = k := ⟨n.toNat, by omega⟩
    subst hv; exact bTurned c k (by omega) w
theorem bRefA (c n v : Int) (hv : turnI c n = v) (w : World) : Calls Try.prog 22 #[.int .i64 c, .int .i64 n] w fun e w' => e = .returned (.int .i64 v) ∧ w' = w := by
  unfold turnI at hv
  by_cases h : n < 0 ∨ 32 < n
  · rw [if_pos h] at hv; subst hv; exact bRef_out c n h w
  · rw [if_neg h] at hv
    obtain ⟨k, rfl⟩ : ∃ k : Nat, n = k := ⟨n.toNat, by omega⟩
    subst hv; exact bRef c k (by omega) w
theorem litI (w : World) (zs : List Int) (t : Nat) (hl : zs.length ≤ 70368744177664) : IsInts (w.alloc (.cells (zs.map (Value.int .i64 ·)).toArray t)) (some ⟨w.heap.size, 0, none⟩) zs := IsInts.new w zs t (0, 0) hl
theorem litL (w : World) (zs : List Int) (t c : Nat) (hl : zs.length ≤ 70368744177664) : IsL (w.alloc (.cells (zs.map (Value.int .i64 ·)).toArray t)) (.slice (some ⟨w.heap.size, 0, none⟩) zs.length c) zs := ⟨_, _, rfl, litI w zs t hl⟩
theorem intsB {v u : Value} {l m : List Int} {w : World} (h1 : IsL w v l) (h2 : IsL w u m) (B : Bool) (hB : B = decide (l = m)) :
    Calls Try.prog 18 #[v, u] w fun e w' => e = .returned (.bool B) ∧ Below w.heap.size w w' :=
  (intsL h1 h2 B hB).mono fun _ _ ⟨h, n, hw⟩ => ⟨h, by rw [hw]; exact below_dn (Below.refl _ _) n⟩
theorem codesT (a : Option Addr) (c : Nat) (l r : List Int) (E : Int) (w : World) (h : IsInts w a l) (hr : codesL l = r) (hE : check l 16 = E) :
    Calls Try.prog 16 #[.slice a l.length c] w (Tells (fun v => .tuple #[v, .int .i64 E]) r w) := by subst hr; subst hE; exact cCodes a c l w h
theorem orderT (a : Option Addr) (c : Nat) (l r : List Int) (w : World) (h : IsInts w a l) (hr : orderL l = r) :
    Calls Try.prog 19 #[.slice a l.length c] w (Tells id r w) := by subst hr; exact cOrder a c l w h
set_option maxHeartbeats 1600000 in
theorem awake08 (w : World) : Calls Try.prog 15 #[] w fun e w' => e = .returned (.bool true) ∧ Below w.heap.size w w' := by
  go_enter Try.func15, Try.ntmps15
  go_wp2_with fail
  refine (codesT _ _ [2, 1, 2] [2, 0, 3] 0 _ (litI _ [2, 1, 2] _ (by decide)) (by decide +kernel) (by decide +kernel)).mono ?_; rintro e w1 ⟨v1, rfl, h1, hb1⟩
  have hb : Below w.heap.size w w1 := ((Below.refl _ w).alloc (Nat.le_refl _) _).trans (hb1.mono (by simp))
  have h1_ := Lib.hid h1
  clear h1
  clear hb1
  go_wp2_with fail
  refine (codesT _ _ [2, 2] [] 6 _ (litI _ [2, 2] _ (by decide)) (by decide +kernel) (by decide +kernel)).mono ?_; rintro e w2 ⟨v2, rfl, h2, hb2⟩
  have h1 := h1_.out.kept (((Below.refl w1.heap.size w1).alloc (Nat.le_refl _) _).trans (hb2.mono (by simp)))
  have hb : Below w.heap.size w w2 := (hb.alloc hb.size _).trans (hb2.mono (by have := hb.size; simp; omega))
  clear h1_ h2 hb2
  have h1_ := Lib.hid h1
  clear h1
  go_wp2_with fail
  refine (intsB (h1_.out.alloc _) (litL _ [2, 0, 3] _ _ (by decide)) true (by decide)).mono ?_; rintro e w3 ⟨rfl, hb3⟩
  have hb : Below w.heap.size w w3 := (hb.alloc hb.size _).trans (hb3.mono (by have := hb.size; simp; omega))
  clear h1_ hb3
  go_wp2_with fail
  refine (bTurnedA 1 3 4 (by decide +kernel) _).mono ?_; rintro e w5 ⟨rfl, rfl⟩
  go_wp2_with fail
  refine (bTurnedA 6 3 3 (by decide +kernel) _).mono ?_; rintro e w6 ⟨rfl, rfl⟩
  go_wp2_with fail
  refine (bTurnedA 1 33 0 (by decide +kernel) _).mono ?_; rintro e w7 ⟨rfl, rfl⟩
  go_wp2_with fail
  refine (orderT _ _ [2, 1, 2] [1, 0, 2] _ (litI _ [2, 1, 2] _ (by decide)) (by decide +kernel)).mono ?_; rintro e w8 ⟨v8, rfl, h8, hb8⟩
  have hb : Below w.heap.size w w8 := (hb.alloc hb.size _).trans (hb8.mono (by have := hb.size; simp; omega))
  have h8_ := Lib.hid h8
  clear h8
  clear hb8
  go_wp2_with fail
  refine (intsB (h8_.out.alloc _) (litL _ [1, 0, 2] _ _ (by decide)) true (by decide)).mono ?_; rintro e w9 ⟨rfl, hb9⟩
  go_wp2_with fail
  go_ret
  exact ⟨rfl, (hb.alloc hb.size _).trans (hb9.mono (by have := hb.size; simp; omega))⟩
end Go.Proofs.Ytekageibffhloaa
