/- It is proved that the law 'SplitLeast' of the program returns true for every input, with no condition, and leaves what was handed in as it was. The frame was written by a program; the walk is by hand. -/
import Derived.Test.YtlcdjilmfjdmhaaRows
import Derived.WalkKit
import Derived.ProofKit
import Derived.OpenShut
import Derived.ShutString
import Derived.ChangeOld
import Derived.Below
import Derived.Test.YtlcdjilmfjdmhaaBase
import Derived.Test.YtlcdjilmfjdmhaaA9
namespace Go.Proofs.Ytlcdjilmfjdmhaa.splitLeast
open Go.ChangeShapes Go.WideShapes Go.ChangeAt Go.RowKit Go.Deep
open Go.ChangeMaps (open_string shut_string)
set_option linter.unusedVariables false
set_option maxRecDepth 100000

theorem own : ownKnob Try.prog.godebug = none := by kernel_rfl
theorem laidOut : laidOutB Try.prog = true := by kernel_rfl

theorem least_short (L : List UInt8) (most fee : Int) (w : World) (hL : L.length ≤ 11) :
    Calls Try.prog 7 #[.string (sM L), .int .i64 most, .int .i64 fee] w fun e w' => e = .returned (.bool true) ∧ Below w.heap.size w w' := by
  have hS : (sM L).size = L.length := sM_size L
  have hl : ¬ (11 : Int) < L.length := by omega
  by_cases hm : 1 ≤ most ∧ most ≤ 65536 ∧ 0 ≤ fee ∧ fee ≤ 1048576 ∧ (sM L).size ≤ 4096
  · obtain ⟨m, rfl⟩ := Int.eq_ofNat_of_zero_le (show 0 ≤ most by omega)
    have CM := Lib.hid (fun W => cMay (sM L) m fee W true (decide_eq_true hm).symm)
    obtain ⟨h1, h2, h3, h4, -⟩ := hm
    have CS := Lib.hid (cSplit L m L.length fee w rfl (by omega) (by omega) (by omega) h3 h4)
    have CB := Lib.hid (fun W => dBest m fee (by omega) (by omega) h3 h4 L.length L (Nat.le_refl _) (by omega) W)
    have CC := Lib.hid (fun W => cCost L fee W (by omega) h3 h4)
    have DC := Lib.hid (fun W => dCost L fee W (by omega) h3 h4)
    have HPl := Lib.hid (show ((Split.pts (costF fee) m L).map (fun x : Nat => (x : Int))).length ≤ 70368744177664 by
      have := Split.pts_pos (costF fee) m (by omega) _ L (Nat.le_refl _)
      rw [List.length_map]; omega)
    obtain ⟨V, hV⟩ : ∃ V, costV fee L = V := ⟨_, rfl⟩
    obtain ⟨S, hSS⟩ : ∃ V, Split.lst (costF fee) m L = V := ⟨_, rfl⟩
    obtain ⟨P, hP⟩ : ∃ V, (Split.pts (costF fee) m L).map (fun x : Nat => (x : Int)) = V := ⟨_, rfl⟩
    rw [hV] at CC DC
    rw [hSS, hP] at CS CB
    rw [hP] at HPl
    obtain ⟨n, hn⟩ : ∃ n, L.length = n := ⟨_, rfl⟩
    rw [hn] at hS hl
    clear hV hSS hP hL hn
    go_enter Try.func7, Try.ntmps7
    go_wp2_with fail
    refine CS.out.mono ?_; rintro e w1 ⟨v, rfl, hv, hb⟩
    have HV := Lib.hid hv
    clear hv CS
    go_wp2_with fail
    refine (CM.out _).mono ?_; rintro e w2 ⟨rfl, rfl⟩
    go_wp2_with fail
    refine (CB.out _).mono ?_; rintro e w3 ⟨u, rfl, hu, hb3⟩
    have HU := Lib.hid (hu.isL HPl.out)
    have HV := Lib.hid (HV.out.kept hb3)
    have hb := hb.trans (hb3.mono hb.size)
    clear hu hb3 CB
    go_wp2_with fail
    refine (intsV53 HV.out HU.out true (by simp)).mono ?_; rintro e w4 ⟨rfl, hb4⟩
    have hb := hb.trans (hb4.mono hb.size)
    clear hb4
    go_wp2_with fail
    refine (CC.out _).mono ?_; rintro e w5 ⟨rfl, hb5⟩
    have hb := hb.trans (hb5.mono hb.size)
    clear hb5
    go_wp2_with fail
    refine (DC.out _).mono ?_; rintro e w6 ⟨rfl, hb6⟩
    have hb := hb.trans (hb6.mono hb.size)
    clear hb6
    go_wp2_with fail
    refine (awake53 _).mono ?_; rintro e w7 ⟨rfl, hb7⟩
    have hb := hb.trans (hb7.mono hb.size)
    clear hb7
    go_wp2_with fail
    go_ret
    exact ⟨rfl, hb⟩
  · have CM := Lib.hid (fun W => cMay (sM L) most fee W false (decide_eq_false hm).symm)
    have CE := Lib.hid (fun W => cSplitErr (sM L) most fee W (by omega))
    obtain ⟨n, hn⟩ : ∃ n, L.length = n := ⟨_, rfl⟩
    rw [hn] at hS hl
    clear hm hL hn
    go_enter Try.func7, Try.ntmps7
    go_wp2_with fail
    refine (CE.out _).mono ?_; rintro e w1 ⟨rfl, rfl⟩
    go_wp2_with fail
    refine (CM.out _).mono ?_; rintro e w2 ⟨rfl, rfl⟩
    go_wp2_with fail
    refine (awake53 _).mono ?_; rintro e w7 ⟨rfl, hb7⟩
    go_wp2_with fail
    go_ret
    exact ⟨rfl, hb7⟩

set_option maxHeartbeats 3200000 in
theorem walk (a0 : ByteArray) (a1 : Int) (a2 : Int) (w : World) (w0 : a0.size ≤ maxLen) (w1 : (Lit.int .i64 a1).wf = true) (w2 : (Lit.int .i64 a2).wf = true) :
    Calls Try.prog 7 #[.string a0, .int .i64 a1, .int .i64 a2] w fun e w' => e = .returned (.bool true) ∧ Below w.heap.size w w' := by
  rw [← sM_self a0]
  generalize a0.data.toList = L at *
  have hS : (sM L).size = L.length := sM_size L
  by_cases hlong : 11 < L.length
  · have hlong1 : (11 : Int) < L.length := by omega
    go_enter Try.func7, Try.ntmps7
    go_wp2_with fail
    refine (awake53 _).mono ?_; rintro e w1 ⟨rfl, hb⟩
    go_wp2_with fail
    go_ret
    exact ⟨rfl, hb⟩
  · exact least_short L a1 a2 w (by omega)

theorem lifted (os : Os) (started : os.Started) (H : Type) (enc : TypeId × Value → H) :
    ReturnsInHanded {} Try.checked os 7 .any (Rows.splitLeastSpec.pre6 enc Try.prog Try.f7 Rows.splitLeastRow.domain false) (Rows.splitLeastSpec.post enc Try.prog Try.f7 false true false false) := by
  refine returnsInHanded_of_change (C := Try.checked) own started (by kernel_rfl) Try.func7
    (ChangeSpec.witness6 (enc := enc) (C := Try.checked) false ⟨#[], #[.string ByteArray.empty, .int .i64 0, .int .i64 0], []⟩ 8 (by kernel_rfl) (by kernel_rfl) (by kernel_rfl) (by kernel_rfl)) ?_
  intro W base args ds gs before hval0 hW hcnd _
  have hval : ∀ (j : Nat) t v, Try.f7.params[j]? = some t → args[j]? = some v → Value.okWide Try.prog W .any base t v := hval0
  have hW' := hW
  obtain ⟨p, q, hA0, hV, rfl, hfz, hnd⟩ := hW
  have hA : DataW.TrodAll enc Try.prog W 0 (fun _ => true) true Try.f7.params.toList args.toList ds p := hA0
  rw [Try.params7] at hA hval
  obtain ⟨v0, vs0, d0, ds0, p0, q0, hargs, rfl, rfl, h0, r0⟩ := trodAll_cons hA
  obtain ⟨v1, vs1, d1, ds1, p1, q1, rfl, rfl, rfl, h1, r1⟩ := trodAll_cons r0
  obtain ⟨v2, vs2, d2, ds2, p2, q2, rfl, rfl, rfl, h2, r2⟩ := trodAll_cons r1
  obtain ⟨rfl, rfl, rfl⟩ := trodAll_nil r2
  obtain rfl : args = #[v0, v1, v2] := by cases args; simp_all
  obtain ⟨rfl, rfl⟩ := trodVars_none hV
  have k0 := h0
  have lt0 : ∀ x ∈ p0, x.block < W.heap.size := by obtain ⟨m, hm⟩ := k0; exact DataW.trod_lt m _ _ _ hm
  obtain ⟨a0, rfl, rfl, rfl, w0⟩ := open_string Try.underlying9 (hval 0 9 v0 rfl rfl) h0
  have k1 := h1
  have lt1 : ∀ x ∈ p1, x.block < W.heap.size := by obtain ⟨m, hm⟩ := k1; exact DataW.trod_lt m _ _ _ hm
  obtain ⟨a1, rfl, rfl, rfl, w1⟩ := open_int Try.underlying3 (hval 1 3 v1 rfl rfl) h1
  have k2 := h2
  have lt2 : ∀ x ∈ p2, x.block < W.heap.size := by obtain ⟨m, hm⟩ := k2; exact DataW.trod_lt m _ _ _ hm
  obtain ⟨a2, rfl, rfl, rfl, w2⟩ := open_int Try.underlying3 (hval 2 3 v2 rfl rfl) h2
  clear hA0 hval0
  refine (walk a0 a1 a2 W w0 w1 w2).mono fun e W' ⟨he, bel⟩ => ?_
  subst he
  exact ⟨_, rfl, _, _, _, [], _, [], hW', trodAll_mk1 (shut_bool Try.underlying4 _), (trodAll_cons_mk (Below.trod laidOut (by kernel_rfl) (of_decide_eq_true (by kernel_rfl)) k0 bel lt0) (trodAll_cons_mk (Below.trod laidOut (by kernel_rfl) (of_decide_eq_true (by kernel_rfl)) k1 bel lt1) (trodAll_cons_mk (Below.trod laidOut (by kernel_rfl) (of_decide_eq_true (by kernel_rfl)) k2 bel lt2) trodAll_mk0))), rfl, bel.frame _, fun h => by cases h⟩

theorem over : Rows.splitLeastRow.holds Try.pinned (OpenSpec.ofChange Rows.splitLeastSpec) :=
  OpenClaim.holds_of_wide 7 Try.f7 rfl rfl rfl rfl rfl rfl rfl ⟨rfl, rfl, rfl, rfl, rfl⟩ rfl rfl rfl rfl rfl (by kernel_rfl) Try.func7 (by kernel_rfl)
    (of_decide_eq_true (by kernel_rfl)) (by unfold Func.isWrapper; first | (rw [if_pos (by decide +kernel)]; kernel_rfl) | (rw [if_neg (by decide +kernel)]; exact ⟨rfl, rfl⟩))
    (fun os started H enc _ => lifted os started H enc)

theorem proved : Rows.SplitLeastSaid := over
#print axioms proved
end Go.Proofs.Ytlcdjilmfjdmhaa.splitLeast
