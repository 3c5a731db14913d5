/- Layer 43: what chapter 43 shows; both sides by one word. -/
import Derived.Test.YtdonecbcnkipbaaAQ12
namespace Go.Proofs.Ytdonecbcnkipbaa
open Go.ChangeShapes Go.WideShapes Go.ChangeAt Go.RowKit
set_option linter.unusedVariables false
set_option linter.unusedSimpArgs false
set_option maxRecDepth 100000
open RollMath Gm
def cntV (k : Int) (ls : List Tx) : List Gr := if k < 1 ∨ 16 < k then [] else cntL ls k.toNat
def bldV (SZ k : Int) (ls : List Tx) : Tx × Int := if k < 2 ∨ 16 < k ∨ SZ < 0 ∨ 67108864 < SZ then ([], 1) else (bldL k.toNat SZ (cntL ls k.toNat), 0)
theorem cCountV (a : Option Addr) (c : Nat) (ls : List Tx) (k : Int) (w : World) (h : IsTs w a ls) (hF : Few ls) :
    Calls Try.prog 10 #[.slice a ls.length c, .int .i64 k] w fun e w' => ∃ v, e = .returned v ∧ OwnG w.heap.size w' v (cntV k ls) ∧ Below w.heap.size w w' := by
  unfold cntV
  by_cases hk : k < 1 ∨ 16 < k
  · rw [if_pos hk]
    exact (cCountNo _ k w hk).mono fun e w' ⟨he, hb⟩ => ⟨_, he, OwnS.nil, hb⟩
  · rw [if_neg hk]
    have := cCountG a c ls k.toNat w h hF (by omega) (by omega)
    rwa [show ((k.toNat : Nat) : Int) = k by omega] at this
theorem dCountV (a : Option Addr) (c : Nat) (ls : List Tx) (k : Int) (w : World) (h : IsTs w a ls) (hF : Few ls) :
    Calls Try.prog 11 #[.slice a ls.length c, .int .i64 k] w fun e w' => ∃ v, e = .returned v ∧ OwnG w.heap.size w' v (cntV k ls) ∧ Below w.heap.size w w' := by
  unfold cntV
  by_cases hk : k < 1 ∨ 16 < k
  · rw [if_pos hk]
    exact (dCountNo _ k w hk).mono fun e w' ⟨he, hb⟩ => ⟨_, he, OwnS.nil, hb⟩
  · rw [if_neg hk]
    have := dCountG a c ls k.toNat w h hF (by omega) (by omega)
    rwa [show ((k.toNat : Nat) : Int) = k by omega] at this
theorem cBuildV (a : Option Addr) (c : Nat) (ls : List Tx) (SZ k : Int) (w : World) (h : IsTs w a ls) (hF : Few ls) :
    Calls Try.prog 7 #[.slice a ls.length c, .int .i64 SZ, .int .i64 k] w fun e w' => e = .returned (.tuple #[.string (sT (bldV SZ k ls).1), .int .i64 (bldV SZ k ls).2]) ∧ Below w.heap.size w w' := by
  unfold bldV
  by_cases hk : k < 2 ∨ 16 < k ∨ SZ < 0 ∨ 67108864 < SZ
  · rw [if_pos hk]
    exact cBuildNo _ SZ k w hk
  · rw [if_neg hk]
    have := cBuildG a c ls k.toNat SZ w h hF (by omega) (by omega) (by omega) (by omega)
    rwa [show ((k.toNat : Nat) : Int) = k by omega] at this
theorem dBuildV (a : Option Addr) (c : Nat) (ls : List Tx) (SZ k : Int) (w : World) (h : IsTs w a ls) (hF : Few ls) :
    Calls Try.prog 8 #[.slice a ls.length c, .int .i64 SZ, .int .i64 k] w fun e w' => e = .returned (.tuple #[.string (sT (bldV SZ k ls).1), .int .i64 (bldV SZ k ls).2]) ∧ Below w.heap.size w w' := by
  unfold bldV
  by_cases hk : k < 2 ∨ 16 < k ∨ SZ < 0 ∨ 67108864 < SZ
  · rw [if_pos hk]
    exact dBuildNo _ SZ k w hk
  · rw [if_neg hk]
    have := dBuildG a c ls k.toNat SZ w h hF (by omega) (by omega) (by omega) (by omega)
    rwa [show ((k.toNat : Nat) : Int) = k by omega] at this
theorem cntV_few {ls : List Tx} (hF : Few ls) (k : Int) : (cntV k ls).length ≤ 1000 ∧ ∀ j, j < (cntV k ls).length → ((cntV k ls).getD j ([], 0)).2 ≤ 1000 := by
  unfold cntV
  split
  · simp
  · exact cnt_few hF _
/-- The samples of the example. -/
def smp : List Tx := [[97, 98, 97, 98], [97, 98, 97, 98]]
theorem smp_few : Few smp := ⟨by decide, by decide⟩
theorem smp_built : bldV 4 2 smp = ([98, 97, 97, 98], 0) := by decide +kernel
theorem smp_bad : bldV 4 1 smp = ([], 1) := by decide +kernel
theorem smp_two : cntV 2 smp = [([97, 98], 4), ([98, 97], 2)] := by decide +kernel
theorem smp_five : cntV 5 smp = [] := by decide +kernel
theorem smp_none : cntV 0 smp = [] := by decide +kernel
theorem smp_at (w : World) (T : TypeId) : IsTs (w.alloc (.cells #[.string ⟨#[97, 98, 97, 98]⟩, .string ⟨#[97, 98, 97, 98]⟩] T)) (some ⟨w.heap.size, 0, none⟩) smp := by
  refine .inr ⟨_, rfl, fun i hi => ?_⟩
  have hi2 : i < 2 := hi
  have e : (⟨w.heap.size, 0, none⟩ : Addr).add i = ⟨w.heap.size, i, none⟩ := by unfold Addr.add; split <;> simp_all
  rw [e, cell_in (heap_alloc_new w _)]
  rcases i with _ | _ | i
  · rfl
  · rfl
  · omega
theorem two_at (w : World) (T : TypeId) : IsGr (w.alloc (.cells #[.string ⟨#[97, 98]⟩, .int .i64 4, .string ⟨#[98, 97]⟩, .int .i64 2] T)) (some ⟨w.heap.size, 0, none⟩) [([97, 98], 4), ([98, 97], 2)] := by
  refine .inr ⟨_, rfl, fun i hi => ?_⟩
  have hi2 : i < 2 := hi
  have e : (⟨w.heap.size, 0, none⟩ : Addr).add (i * 2) = ⟨w.heap.size, i * 2, none⟩ := by unfold Addr.add; split <;> simp_all
  rw [e]
  show (w.alloc _).cell? ⟨w.heap.size, i * 2, none⟩ = _ ∧ (w.alloc _).cell? ⟨w.heap.size, i * 2 + 1, none⟩ = _
  rw [cell_in (heap_alloc_new w _), cell_in (heap_alloc_new w _)]
  rcases i with _ | _ | i
  · exact ⟨rfl, rfl⟩
  · exact ⟨rfl, rfl⟩
  · omega
theorem two_same (a b : Option Addr) (ca cb : Nat) (w : World) (h1 : IsGr w a [([97, 98], 4), ([98, 97], 2)]) (h2 : IsGr w b [([97, 98], 4), ([98, 97], 2)]) : Calls Try.prog 9 #[.slice a 2 ca, .slice b 2 cb] w fun e w' => e = .returned (.bool true) ∧ ∃ k, w' = w.drewN k := by
  have := dSameG a b ca cb _ _ w h1 h2 (by decide) (by decide)
  rw [decide_eq_true rfl] at this
  exact this
set_option maxHeartbeats 3200000 in
theorem awake43 (w : World) : Calls Try.prog 6 #[] w fun e w' => e = .returned (.bool true) ∧ Below w.heap.size w w' := by
  have CB4 := Lib.hid (fun W a c (h : IsTs W a smp) => show Calls Try.prog 7 #[.slice a 2 c, .int .i64 4, .int .i64 2] W fun e w' => e = .returned (.tuple #[.string ⟨#[98, 97, 97, 98]⟩, .int .i64 0]) ∧ Below W.heap.size W w' from by have := cBuildV a c smp 4 2 W h smp_few; rw [smp_built] at this; exact this)
  have CB1 := Lib.hid (fun W a c (h : IsTs W a smp) => show Calls Try.prog 7 #[.slice a 2 c, .int .i64 4, .int .i64 1] W fun e w' => e = .returned (.tuple #[.string ⟨#[]⟩, .int .i64 1]) ∧ Below W.heap.size W w' from by have := cBuildV a c smp 4 1 W h smp_few; rw [smp_bad] at this; exact this)
  have CC2 := Lib.hid (fun W a c (h : IsTs W a smp) => show Calls Try.prog 10 #[.slice a 2 c, .int .i64 2] W fun e w' => ∃ v, e = .returned v ∧ OwnG W.heap.size w' v [([97, 98], 4), ([98, 97], 2)] ∧ Below W.heap.size W w' from by have := cCountV a c smp 2 W h smp_few; rw [smp_two] at this; exact this)
  have CC5 := Lib.hid (fun W a c (h : IsTs W a smp) => show Calls Try.prog 10 #[.slice a 2 c, .int .i64 5] W fun e w' => ∃ v, e = .returned v ∧ OwnG W.heap.size w' v [] ∧ Below W.heap.size W w' from by have := cCountV a c smp 5 W h smp_few; rw [smp_five] at this; exact this)
  have CC0 := Lib.hid (fun W a c (h : IsTs W a smp) => show Calls Try.prog 10 #[.slice a 2 c, .int .i64 0] W fun e w' => ∃ v, e = .returned v ∧ OwnG W.heap.size w' v [] ∧ Below W.heap.size W w' from by have := cCountV a c smp 0 W h smp_few; rw [smp_none] at this; exact this)
  go_enter Try.func6, Try.ntmps6
  obtain ⟨g, hg⟩ : ∃ g, w.heap.size = g := ⟨_, rfl⟩
  obtain ⟨w1, hw1⟩ : ∃ w1, w.alloc (.cells #[.string ⟨#[97, 98, 97, 98]⟩, .string ⟨#[97, 98, 97, 98]⟩] 9) = w1 := ⟨_, rfl⟩
  have HT1 := Lib.hid (show IsTs w1 (some ⟨g, 0, none⟩) smp by rw [← hw1, ← hg]; exact smp_at w _)
  have HB1 := Lib.hid (show Below w.heap.size w w1 by rw [← hw1]; exact (Below.refl _ _).alloc (Nat.le_refl _) _)
  go_wp2_with fail
  clear hw1 hg
  refine (CB4.out w1 _ _ HT1.out).mono ?_; rintro e w2 ⟨rfl, hb2⟩
  have HT2 := Lib.hid (HT1.out.kept hb2)
  have HB2 := Lib.hid (HB1.out.trans (hb2.mono HB1.out.size))
  clear hb2 HT1 HB1 CB4
  go_wp2_with fail
  refine (CB1.out w2 _ _ HT2.out).mono ?_; rintro e w3 ⟨rfl, hb3⟩
  have HT3 := Lib.hid (HT2.out.kept hb3)
  have HB3 := Lib.hid (HB2.out.trans (hb3.mono HB2.out.size))
  clear hb3 HT2 HB2 CB1
  go_wp2_with fail
  refine (CC2.out w3 _ _ HT3.out).mono ?_; rintro e w4 ⟨v4, rfl, ho4, hb4⟩
  obtain ⟨va, vc, rfl, -, hgr⟩ := OwnG.gr ho4
  have HGR := Lib.hid hgr
  have HT4 := Lib.hid (HT3.out.kept hb4)
  have HB4 := Lib.hid (HB3.out.trans (hb4.mono HB3.out.size))
  clear hb4 hgr ho4 HT3 HB3 CC2
  go_wp2_with fail
  refine (two_same _ _ _ _ _ (HGR.out.alloc _) (two_at w4 _)).mono ?_; rintro e w5 ⟨rfl, q5, h5⟩
  have HB5' := Lib.hid (show Below w4.heap.size w4 w5 by rw [h5]; exact below_dn ((Below.refl _ w4).alloc (Nat.le_refl _) _) q5)
  have HT5 := Lib.hid (HT4.out.kept HB5'.out)
  have HB5 := Lib.hid (HB4.out.trans (HB5'.out.mono HB4.out.size))
  clear h5 HB5' HT4 HB4 HGR
  go_wp2_with fail
  refine (CC5.out w5 _ _ HT5.out).mono ?_; rintro e w6 ⟨v6, rfl, ho6, hb6⟩
  obtain ⟨p6, c6, rfl⟩ := ho6.slice
  have HT6 := Lib.hid (HT5.out.kept hb6)
  have HB6 := Lib.hid (HB5.out.trans (hb6.mono HB5.out.size))
  clear hb6 ho6 HT5 HB5 CC5
  go_wp2_with fail
  refine (CC0.out w6 _ _ HT6.out).mono ?_; rintro e w7 ⟨v7, rfl, ho7, hb7⟩
  obtain ⟨p7, c7, rfl⟩ := ho7.slice
  have HB7 := Lib.hid (HB6.out.trans (hb7.mono HB6.out.size))
  clear hb7 ho7 HT6 HB6 CC0
  go_wp2_with fail
  go_ret
  exact ⟨rfl, HB7.out⟩
end Go.Proofs.Ytdonecbcnkipbaa
