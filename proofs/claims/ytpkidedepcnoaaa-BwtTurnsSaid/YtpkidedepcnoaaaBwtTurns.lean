/- It is proved that the law 'BwtTurns' of the program returns true for every input, with no condition, and leaves what was handed in as it was. The frame was written by a program; the walk is by hand. -/
import Derived.Test.YtpkidedepcnoaaaRows
import Derived.WalkKit
import Derived.ProofKit
import Derived.OpenShut
import Derived.ShutString
import Derived.ChangeOld
import Derived.Below
import Derived.Test.YtpkidedepcnoaaaBase
import Derived.Test.YtpkidedepcnoaaaY13
namespace Go.Proofs.Ytpkidedepcnoaaa.bwtTurns
open Go.ChangeShapes Go.WideShapes Go.ChangeAt Go.RowKit Go.Deep
open Go.ChangeMaps (open_string shut_string)
set_option linter.unusedVariables false
set_option maxRecDepth 100000

theorem own : ownKnob Try.prog.godebug = none := by kernel_rfl
theorem laidOut : laidOutB Try.prog = true := by kernel_rfl

set_option maxHeartbeats 3200000 in
theorem turns_walk (L T : List UInt8) (z : Int) (w : World) (hL : L.length ≤ 150) (hT : T.length ≤ 60) :
    Calls Try.prog 10 #[.string (sM L), .string (sM T), .int .i64 z] w fun e w' => e = .returned (.bool true) ∧ Below w.heap.size w w' := by
  have hS : (sM L).size = L.length := sM_size L
  have hST : (sM T).size = T.length := sM_size T
  have CT := Lib.hid (fun W => cTurnB L W (by omega))
  have DT := Lib.hid (fun W => dTurnB L W (by omega))
  obtain ⟨s, k, hsk⟩ := backs T z (by omega)
  have CB := Lib.hid (fun W => (hsk W).1)
  have DB := Lib.hid (fun W => (hsk W).2)
  have h1 : ¬ (150 : Int) < L.length := by omega
  have h2 : ¬ (60 : Int) < T.length := by omega
  clear hsk
  go_enter Try.func10, Try.ntmps10
  go_wp2_with fail
  refine (CT.out _).mono ?_; rintro e w1 ⟨a, at_, rfl, hs, ha, h0, hb⟩
  have HX := Lib.hid (And.intro hs (And.intro ha h0))
  have HB := Lib.hid hb
  clear hs ha h0 hb CT
  go_wp2_with fail
  refine (DT.out _).mono ?_; rintro e w2 ⟨a', at', rfl, hs, ha, h0, hb2⟩
  obtain rfl := hs.unique HX.out.1
  obtain rfl := Pr_inj hs _ _ ha HX.out.2.1 (by rw [h0, HX.out.2.2])
  have HB := Lib.hid (HB.out.trans (hb2.mono HB.out.size))
  clear hs ha h0 hb2 DT HX
  go_wp2_with fail
  refine (CB.out _).mono ?_; rintro e w3 ⟨rfl, hb3⟩
  have HB := Lib.hid (HB.out.trans (hb3.mono HB.out.size))
  clear hb3 CB
  go_wp2_with fail
  refine (DB.out _).mono ?_; rintro e w4 ⟨rfl, hb4⟩
  have HB := Lib.hid (HB.out.trans (hb4.mono HB.out.size))
  clear hb4 DB
  go_wp2_with fail
  refine (awake48 _).mono ?_; rintro e w5 ⟨rfl, hb5⟩
  have HB := Lib.hid (HB.out.trans (hb5.mono HB.out.size))
  clear hb5
  go_wp2_with fail
  go_ret
  exact ⟨rfl, HB.out⟩

set_option maxHeartbeats 3200000 in
theorem walk (a0 : ByteArray) (a1 : ByteArray) (a2 : Int) (w : World) (w0 : a0.size ≤ maxLen) (w1 : a1.size ≤ maxLen) (w2 : (Lit.int .i64 a2).wf = true) :
    Calls Try.prog 10 #[.string a0, .string a1, .int .i64 a2] w fun e w' => e = .returned (.bool true) ∧ Below w.heap.size w w' := by
  by_cases hlong : 150 < a0.size
  · go_enter Try.func10, Try.ntmps10
    go_wp2_with fail
    refine (awake48 _).mono ?_; rintro e w1 ⟨rfl, hb⟩
    go_wp2_with fail
    go_ret
    exact ⟨rfl, hb⟩
  · by_cases hlong2 : 60 < a1.size
    · have h1 : (60 : Int) < a1.size := by omega
      go_enter Try.func10, Try.ntmps10
      go_wp2_with fail
      refine (awake48 _).mono ?_; rintro e w1 ⟨rfl, hb⟩
      go_wp2_with fail
      go_ret
      exact ⟨rfl, hb⟩
    · rw [← sM_self a0] at hlong ⊢
      rw [← sM_self a1] at hlong2 ⊢
      generalize a0.data.toList = L at *
      generalize a1.data.toList = T at *
      rw [sM_size] at hlong hlong2
      exact turns_walk L T a2 w (by omega) (by omega)

theorem lifted (os : Os) (started : os.Started) (H : Type) (enc : TypeId × Value → H) :
    ReturnsInHanded {} Try.checked os 10 .any (Rows.bwtTurnsSpec.pre6 enc Try.prog Try.f10 Rows.bwtTurnsRow.domain false) (Rows.bwtTurnsSpec.post enc Try.prog Try.f10 false true false false) := by
  refine returnsInHanded_of_change (C := Try.checked) own started (by kernel_rfl) Try.func10
    (ChangeSpec.witness6 (enc := enc) (C := Try.checked) false ⟨#[], #[.string ByteArray.empty, .string ByteArray.empty, .int .i64 0], []⟩ 8 (by kernel_rfl) (by kernel_rfl) (by kernel_rfl) (by kernel_rfl)) ?_
  intro W base args ds gs before hval0 hW hcnd _
  have hval : ∀ (j : Nat) t v, Try.f10.params[j]? = some t → args[j]? = some v → Value.okWide Try.prog W .any base t v := hval0
  have hW' := hW
  obtain ⟨p, q, hA0, hV, rfl, hfz, hnd⟩ := hW
  have hA : DataW.TrodAll enc Try.prog W 0 (fun _ => true) true Try.f10.params.toList args.toList ds p := hA0
  rw [Try.params10] at hA hval
  obtain ⟨v0, vs0, d0, ds0, p0, q0, hargs, rfl, rfl, h0, r0⟩ := trodAll_cons hA
  obtain ⟨v1, vs1, d1, ds1, p1, q1, rfl, rfl, rfl, h1, r1⟩ := trodAll_cons r0
  obtain ⟨v2, vs2, d2, ds2, p2, q2, rfl, rfl, rfl, h2, r2⟩ := trodAll_cons r1
  obtain ⟨rfl, rfl, rfl⟩ := trodAll_nil r2
  obtain rfl : args = #[v0, v1, v2] := by cases args; simp_all
  obtain ⟨rfl, rfl⟩ := trodVars_none hV
  have k0 := h0
  have lt0 : ∀ x ∈ p0, x.block < W.heap.size := by obtain ⟨m, hm⟩ := k0; exact DataW.trod_lt m _ _ _ hm
  obtain ⟨a0, rfl, rfl, rfl, w0⟩ := open_string Try.underlying9 (hval 0 9 v0 rfl rfl) h0
  have k1 := h1
  have lt1 : ∀ x ∈ p1, x.block < W.heap.size := by obtain ⟨m, hm⟩ := k1; exact DataW.trod_lt m _ _ _ hm
  obtain ⟨a1, rfl, rfl, rfl, w1⟩ := open_string Try.underlying9 (hval 1 9 v1 rfl rfl) h1
  have k2 := h2
  have lt2 : ∀ x ∈ p2, x.block < W.heap.size := by obtain ⟨m, hm⟩ := k2; exact DataW.trod_lt m _ _ _ hm
  obtain ⟨a2, rfl, rfl, rfl, w2⟩ := open_int Try.underlying3 (hval 2 3 v2 rfl rfl) h2
  clear hA0 hval0
  refine (walk a0 a1 a2 W w0 w1 w2).mono fun e W' ⟨he, bel⟩ => ?_
  subst he
  exact ⟨_, rfl, _, _, _, [], _, [], hW', trodAll_mk1 (shut_bool Try.underlying4 _), (trodAll_cons_mk (Below.trod laidOut (by kernel_rfl) (of_decide_eq_true (by kernel_rfl)) k0 bel lt0) (trodAll_cons_mk (Below.trod laidOut (by kernel_rfl) (of_decide_eq_true (by kernel_rfl)) k1 bel lt1) (trodAll_cons_mk (Below.trod laidOut (by kernel_rfl) (of_decide_eq_true (by kernel_rfl)) k2 bel lt2) trodAll_mk0))), rfl, bel.frame _, fun h => by cases h⟩

theorem over : Rows.bwtTurnsRow.holds Try.pinned (OpenSpec.ofChange Rows.bwtTurnsSpec) :=
  OpenClaim.holds_of_wide 10 Try.f10 rfl rfl rfl rfl rfl rfl rfl ⟨rfl, rfl, rfl, rfl, rfl⟩ rfl rfl rfl rfl rfl (by kernel_rfl) Try.func10 (by kernel_rfl)
    (of_decide_eq_true (by kernel_rfl)) (by unfold Func.isWrapper; first | (rw [if_pos (by decide +kernel)]; kernel_rfl) | (rw [if_neg (by decide +kernel)]; exact ⟨rfl, rfl⟩))
    (fun os started H enc _ => lifted os started H enc)

theorem proved : Rows.BwtTurnsSaid := over
#print axioms proved
end Go.Proofs.Ytpkidedepcnoaaa.bwtTurns
