/- Layer 19: by values; the document's examples. -/
import Derived.Test.YtpkidedepcnoaaaU11
namespace Go.Proofs.Ytpkidedepcnoaaa
open Go.ChangeShapes Go.WideShapes Go.ChangeAt Go.RowKit
set_option linter.unusedVariables false
set_option linter.unusedSimpArgs false
set_option maxRecDepth 100000
theorem IsA.ints {w : World} {g : Nat} {l : List Nat} (h : IsN w g l) (hl : l.length ≤ 70368744177664) : IsInts w (some ⟨g, 0, none⟩) (nI l) := by
  refine ⟨by rw [nI_len]; exact hl, .inr ⟨_, rfl, fun i hi => ?_⟩⟩
  rw [nI_len] at hi
  have e : (⟨g, 0, none⟩ : Addr).add i = ⟨g, i, none⟩ := by unfold Addr.add; split <;> simp_all
  rw [e, h.cell i hi]
  show _ = some (Value.int .i64 ((l.map (fun x : Nat => (x : Int))).getD i 0))
  rw [mapN_getD l i hi]
theorem sortV (L : List UInt8) (w : World) (hL : L.length ≤ 10000) : Calls Try.prog 15 #[.string (sM L)] w fun e w' => ∃ v a, e = .returned v ∧ IsSuf L a ∧ IsL w' v (nI a) ∧ Below w.heap.size w w' := by
  refine (cSort L w hL).mono ?_
  rintro e w' ⟨g, a, rfl, hn, hs, hg, hb⟩
  exact ⟨_, a, rfl, hs, ⟨_, _, by rw [nI_len, hs.len], hn.ints (by rw [hs.len]; omega)⟩, hb⟩
theorem ranksV {v : Value} {l : List Int} {w : World} (h : IsL w v l) (hl : l.length ≤ 1000000) : Calls Try.prog 16 #[v] w fun e w' => ∃ u, e = .returned u ∧ IsL w' u (ranksL l) ∧ Below w.heap.size w w' := by
  obtain ⟨a, c, rfl, hi⟩ := h
  refine (cRanks l a l.length c w hi rfl (by omega)).mono ?_
  rintro e w' ⟨g, rfl, ho, hb⟩
  exact ⟨_, rfl, ho.isL (by rw [ranksL_len]; omega), hb⟩
theorem dRanksV {v : Value} {l : List Int} {w : World} (h : IsL w v l) (hl : l.length ≤ 1000000) : Calls Try.prog 17 #[v] w fun e w' => ∃ u, e = .returned u ∧ IsL w' u (ranksL l) ∧ Below w.heap.size w w' := by
  obtain ⟨a, c, rfl, hi⟩ := h
  refine (dRanks l a l.length c w hi rfl (by omega)).mono ?_
  rintro e w' ⟨g, rfl, ho, hb⟩
  exact ⟨_, rfl, ho.isL (by rw [ranksL_len]; omega), hb⟩
theorem isV {v : Value} {l : List Int} {w : World} (L : List UInt8) (h : IsL w v l) (hl : l.length ≤ 1000000) (hL : L.length ≤ 100000) (B : Bool) (hB : B = true ↔ SufI L l) : Calls Try.prog 18 #[.string (sM L), v] w fun e w' => e = .returned (.bool B) ∧ Below w.heap.size w w' := by
  obtain ⟨a, c, rfl, hi⟩ := h
  exact cIs L l a l.length c w hi rfl hL (by omega) B hB
theorem intsV {v u : Value} {l m : List Int} {w : World} (h1 : IsL w v l) (h2 : IsL w u m) (B : Bool) (hB : B = decide (l = m)) : Calls Try.prog 14 #[v, u] w fun e w' => e = .returned (.bool B) ∧ Below w.heap.size w w' := by
  refine (intsL h1 h2 B hB).mono ?_
  rintro e w' ⟨rfl, k, rfl⟩
  exact ⟨rfl, below_dn (Below.refl _ _) k⟩
theorem litU (w : World) (zs : List Int) (t c : Nat) (hl : zs.length ≤ 70368744177664) : IsL (w.alloc (.cells (zs.map (Value.int .i64 ·)).toArray t)) (.slice (some ⟨w.heap.size, 0, none⟩) zs.length c) zs := ⟨_, _, rfl, IsInts.new w zs t (0, 0) hl⟩
theorem banana : IsSuf [98, 97, 110, 97, 110, 97] [5, 3, 1, 0, 4, 2] := ⟨rfl, by decide, by decide +kernel⟩
set_option maxHeartbeats 3200000 in
theorem awake19 (w : World) : Calls Try.prog 12 #[] w fun e w' => e = .returned (.bool true) ∧ Below w.heap.size w w' := by
  go_enter Try.func12, Try.ntmps12
  go_wp2_with fail
  refine (sortV [98, 97, 110, 97, 110, 97] w (by decide)).mono ?_; rintro e w1 ⟨v, a, rfl, hs, hv, hb⟩
  obtain rfl := hs.unique banana
  have HV := Lib.hid (show IsL w1 v [5, 3, 1, 0, 4, 2] from hv)
  clear hv hs
  go_wp2_with fail
  refine (intsV (HV.out.alloc _) (litU _ [5, 3, 1, 0, 4, 2] _ _ (by decide)) true (by decide)).mono ?_; rintro e w2 ⟨rfl, hb2⟩
  have HV := Lib.hid ((HV.out.alloc _).kept hb2)
  have hb : Below w.heap.size w w2 := (hb.alloc hb.size _).trans (hb2.mono (by have := hb.size; simp; omega))
  clear hb2
  go_wp2_with fail
  refine (ranksV HV.out (by decide)).mono ?_; rintro e w3 ⟨u, rfl, hu, hb3⟩
  have HV := Lib.hid (HV.out.kept hb3)
  have hb := hb.trans (hb3.mono hb.size)
  have HU := Lib.hid (show IsL w3 u [3, 2, 5, 1, 4, 0] from (show ranksL [5, 3, 1, 0, 4, 2] = [3, 2, 5, 1, 4, 0] from by decide +kernel) ▸ hu)
  clear hb3 hu
  go_wp2_with fail
  refine (intsV (HU.out.alloc _) (litU _ [3, 2, 5, 1, 4, 0] _ _ (by decide)) true (by decide)).mono ?_; rintro e w4 ⟨rfl, hb4⟩
  have HV := Lib.hid ((HV.out.alloc _).kept hb4)
  have hb : Below w.heap.size w w4 := (hb.alloc hb.size _).trans (hb4.mono (by have := hb.size; simp; omega))
  clear hb4 HU
  go_wp2_with fail
  refine (isV [98, 97, 110, 97, 110, 97] HV.out (by decide) (by decide) true ⟨fun _ => ⟨_, banana, rfl⟩, fun _ => rfl⟩).mono ?_; rintro e w5 ⟨rfl, hb5⟩
  have HV := Lib.hid (HV.out.kept hb5)
  have hb := hb.trans (hb5.mono hb.size)
  clear hb5
  go_wp2_with fail
  refine (isV [98, 97, 110, 97, 110] HV.out (by decide) (by decide) false ⟨fun h => (by cases h), fun ⟨b, hb1, hb2⟩ => (by have h1 := hb1.len; have h2 := congrArg List.length hb2; rw [List.length_map, h1] at h2; revert h2; decide)⟩).mono ?_; rintro e w6 ⟨rfl, hb6⟩
  have hb := hb.trans (hb6.mono hb.size)
  clear hb6 HV
  go_wp2_with fail
  refine (isV [] (IsL.nil w6) (by decide) (by decide) true ⟨fun _ => ⟨[], ⟨rfl, by decide, by decide⟩, rfl⟩, fun _ => rfl⟩).mono ?_; rintro e w7 ⟨rfl, hb7⟩
  have hb := hb.trans (hb7.mono hb.size)
  clear hb7
  go_wp2_with fail
  refine (ranksV (litU _ [1, 1] _ _ (by decide)) (by decide)).mono ?_; rintro e w8 ⟨u, rfl, hu, hb8⟩
  have hb : Below w.heap.size w w8 := (hb.alloc hb.size _).trans (hb8.mono (by have := hb.size; simp; omega))
  have HU := Lib.hid (show IsL w8 u [-1, 0] from (show ranksL [1, 1] = [-1, 0] from by decide +kernel) ▸ hu)
  clear hb8 hu
  go_wp2_with fail
  refine (intsV (HU.out.alloc _) (litU _ [-1, 0] _ _ (by decide)) true (by decide)).mono ?_; rintro e w9 ⟨rfl, hb9⟩
  have hb : Below w.heap.size w w9 := (hb.alloc hb.size _).trans (hb9.mono (by have := hb.size; simp; omega))
  clear hb9
  go_wp2_with fail
  go_ret
  exact ⟨rfl, hb⟩
end Go.Proofs.Ytpkidedepcnoaaa
