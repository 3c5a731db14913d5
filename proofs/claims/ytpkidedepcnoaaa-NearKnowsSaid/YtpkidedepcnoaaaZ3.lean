/- Layer 21: New. -/
import Derived.Test.YtpkidedepcnoaaaZ2
namespace Go.Proofs.Ytpkidedepcnoaaa
open Go.ChangeShapes Go.WideShapes Go.ChangeAt Go.RowKit
set_option linter.unusedVariables false
set_option linter.unusedSimpArgs false
set_option maxRecDepth 100000
/-- A finder: the ends in order, what neighbours share, the ranks. -/
def IsFin (w : World) (g : Nat) (L : List UInt8) (a : List Nat) : Prop :=
  ∃ v u r, w.heap[g]? = some (.cells #[v, u, r] 60 (0, 0)) ∧ IsSuf L a ∧ IsL w v (nI a) ∧ IsL w u (nI (rowL L a)) ∧ IsL w r (ranksL (nI a))
theorem IsL_mk {w : World} {p : Option Addr} {l : List Int} (h : IsInts w p l) (c : Nat) : IsL w (.slice p l.length c) l := ⟨p, c, rfl, h⟩
set_option maxHeartbeats 1600000 in
theorem cNew (L : List UInt8) (w : World) (hL : L.length ≤ 10000) :
    Calls Try.prog 24 #[.string (sM L)] w fun e w' => ∃ g a, e = .returned (.pointer (some ⟨g, 0, none⟩)) ∧ IsFin w' g L a ∧ w.heap.size ≤ g ∧ Below w.heap.size w w' := by
  have hS : (sM L).size = L.length := sM_size L
  have h1 : ¬ (134217728 : Int) < L.length := by omega
  have CS := Lib.hid (fun W => sortV L W hL)
  go_enter Try.func24, Try.ntmps24
  go_wp2_with fail
  refine (CS.out _).mono ?_; rintro e w1 ⟨v, a, rfl, hs, hv, hb⟩
  have HS := Lib.hid hs
  obtain ⟨pv, cv, rfl, hv⟩ := hv
  have HV := Lib.hid (IsL_mk hv cv)
  have HB := Lib.hid hb
  have HAL := Lib.hid (show (nI a).length ≤ 1000000 by rw [nI_len, hs.len]; omega)
  clear hs hv hb CS
  go_wp2_with fail
  refine (cRow L _ a _ HV.out HS.out hL).mono ?_; rintro e w2 ⟨u, rfl, hu, hb2⟩
  obtain ⟨pu, cu, rfl, hu⟩ := hu
  have HU := Lib.hid (IsL_mk hu cu)
  have HV := Lib.hid (HV.out.kept hb2)
  have HB := Lib.hid (HB.out.trans (hb2.mono HB.out.size))
  clear hu hb2
  go_wp2_with fail
  refine (ranksV HV.out HAL.out).mono ?_; rintro e w3 ⟨r, rfl, hr, hb3⟩
  obtain ⟨pr, cr, rfl, hr⟩ := hr
  have HR := Lib.hid (IsL_mk hr cr)
  have HU := Lib.hid (HU.out.kept hb3)
  have HV := Lib.hid (HV.out.kept hb3)
  have HB := Lib.hid (HB.out.trans (hb3.mono HB.out.size))
  clear hr hb3
  go_wp2_with fail
  go_ret
  exact ⟨w3.heap.size, a, rfl, ⟨_, _, _, heap_alloc_new w3 _, HS.out, HV.out.alloc _, HU.out.alloc _, HR.out.alloc _⟩, HB.out.size, HB.out.alloc HB.out.size _⟩
end Go.Proofs.Ytpkidedepcnoaaa
