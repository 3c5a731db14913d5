/- It is proved that the law 'CrcParts' of the program returns true for every input, with no condition, and leaves what was handed in as it was. The frame was written by a program; the walk is by hand. -/
import Derived.Test.YtfemcehglolnjaaRows
import Derived.WalkKit
import Derived.ProofKit
import Derived.OpenShut
import Derived.ShutString
import Derived.ChangeOld
import Derived.Below
import Derived.Test.YtfemcehglolnjaaBase
import Derived.Test.YtfemcehglolnjaaCs
namespace Go.Proofs.Ytfemcehglolnjaa.crcParts
open Go.ChangeShapes Go.WideShapes Go.ChangeAt Go.RowKit Go.Deep
open Go.ChangeMaps (open_string shut_string)
set_option linter.unusedVariables false
set_option maxRecDepth 100000

theorem own : ownKnob Try.prog.godebug = none := by kernel_rfl
theorem laidOut : laidOutB Try.prog = true := by kernel_rfl

open CrcMath

set_option maxHeartbeats 1600000 in
theorem walk (a0 : ByteArray) (a1 : ByteArray) (w : World) (w0 : a0.size ≤ maxLen) (w1 : a1.size ≤ maxLen) :
    Calls Try.prog 4 #[.string a0, .string a1] w fun e w' => e = .returned (.bool true) ∧ Below w.heap.size w w' := by
  have h1 := Lib.hid (cSum a0 w0)
  have h2 := Lib.hid (fun X hX => cAdd X hX a1 w1)
  have h3 := Lib.hid (fun hs => cSum (a0 ++ a1) hs)
  have hP : Hid (add (add 0 a0.data.toList) a1.data.toList = add 0 (a0 ++ a1).data.toList) := by
    show _ = _
    rw [ByteArray.data_append, Array.toList_append, add_append _ _ _ (by decide)]
  have hR32 : add 0 a0.data.toList < 4294967296 := flip_lt _
  obtain ⟨R, hR⟩ : ∃ R, add 0 a0.data.toList = R := ⟨_, rfl⟩
  obtain ⟨S, hS⟩ : ∃ S, add R a1.data.toList = S := ⟨_, rfl⟩
  rw [hR] at h1 hP hR32
  rw [hS] at hP
  have h2' := Lib.hid (h2.out R hR32)
  rw [hS] at h2'
  rw [← hP.out] at h3
  clear hR hS hP h2
  unfold maxLen at w0 w1
  by_cases hl : 4000 < a0.size
  · go_enter Try.func4, Try.ntmps4
    go_wp2_with fail
    refine (awake05 _).mono ?_; rintro e w2 ⟨rfl, hb⟩
    go_wp2_with fail
    go_ret
    exact ⟨rfl, hb⟩
  · by_cases hl2 : 4000 < a1.size
    · go_enter Try.func4, Try.ntmps4
      go_wp2_with fail
      refine (awake05 _).mono ?_; rintro e w2 ⟨rfl, hb⟩
      go_wp2_with fail
      go_ret
      exact ⟨rfl, hb⟩
    · have hlen : (a0.size : Int) + (a1.size : Int) ≤ 8000 := by omega
      have h3' := Lib.hid (h3.out (by rw [ByteArray.size_append]; unfold maxLen; omega))
      clear h3
      go_enter Try.func4, Try.ntmps4
      go_wp2_with fail
      refine (h1.out _).mono ?_; rintro e v1 ⟨rfl, hb1⟩
      go_wp2_with fail
      refine (h2'.out _).mono ?_; rintro e v2 ⟨rfl, hb2⟩
      have c2 := hb1.trans (hb2.mono hb1.size); clear hb1 hb2
      go_wp2_with fail
      refine (h3'.out _).mono ?_; rintro e v3 ⟨rfl, hb3⟩
      have c3 := c2.trans (hb3.mono c2.size); clear c2 hb3
      go_wp2_with fail
      refine (awake05 _).mono ?_; rintro e v5 ⟨rfl, hb5⟩
      have c5 := c3.trans (hb5.mono c3.size); clear c3 hb5
      go_wp2_with fail
      go_ret
      exact ⟨rfl, c5⟩

theorem lifted (os : Os) (started : os.Started) (H : Type) (enc : TypeId × Value → H) :
    ReturnsInHanded {} Try.checked os 4 .any (Rows.crcPartsSpec.pre6 enc Try.prog Try.f4 Rows.crcPartsRow.domain false) (Rows.crcPartsSpec.post enc Try.prog Try.f4 false true false false) := by
  refine returnsInHanded_of_change (C := Try.checked) own started (by kernel_rfl) Try.func4
    (ChangeSpec.witness6 (enc := enc) (C := Try.checked) false ⟨#[], #[.string ByteArray.empty, .string ByteArray.empty], []⟩ 8 (by kernel_rfl) (by kernel_rfl) (by kernel_rfl) (by kernel_rfl)) ?_
  intro W base args ds gs before hval0 hW hcnd _
  have hval : ∀ (j : Nat) t v, Try.f4.params[j]? = some t → args[j]? = some v → Value.okWide Try.prog W .any base t v := hval0
  have hW' := hW
  obtain ⟨p, q, hA0, hV, rfl, hfz, hnd⟩ := hW
  have hA : DataW.TrodAll enc Try.prog W 0 (fun _ => true) true Try.f4.params.toList args.toList ds p := hA0
  rw [Try.params4] at hA hval
  obtain ⟨v0, vs0, d0, ds0, p0, q0, hargs, rfl, rfl, h0, r0⟩ := trodAll_cons hA
  obtain ⟨v1, vs1, d1, ds1, p1, q1, rfl, rfl, rfl, h1, r1⟩ := trodAll_cons r0
  obtain ⟨rfl, rfl, rfl⟩ := trodAll_nil r1
  obtain rfl : args = #[v0, v1] := by cases args; simp_all
  obtain ⟨rfl, rfl⟩ := trodVars_none hV
  have k0 := h0
  have lt0 : ∀ x ∈ p0, x.block < W.heap.size := by obtain ⟨m, hm⟩ := k0; exact DataW.trod_lt m _ _ _ hm
  obtain ⟨a0, rfl, rfl, rfl, w0⟩ := open_string Try.underlying9 (hval 0 9 v0 rfl rfl) h0
  have k1 := h1
  have lt1 : ∀ x ∈ p1, x.block < W.heap.size := by obtain ⟨m, hm⟩ := k1; exact DataW.trod_lt m _ _ _ hm
  obtain ⟨a1, rfl, rfl, rfl, w1⟩ := open_string Try.underlying9 (hval 1 9 v1 rfl rfl) h1
  clear hA0 hval0
  refine (walk a0 a1 W w0 w1).mono fun e W' ⟨he, bel⟩ => ?_
  subst he
  exact ⟨_, rfl, _, _, _, [], _, [], hW', trodAll_mk1 (shut_bool Try.underlying4 _), (trodAll_cons_mk (Below.trod laidOut (by kernel_rfl) (of_decide_eq_true (by kernel_rfl)) k0 bel lt0) (trodAll_cons_mk (Below.trod laidOut (by kernel_rfl) (of_decide_eq_true (by kernel_rfl)) k1 bel lt1) trodAll_mk0)), rfl, bel.frame _, fun h => by cases h⟩

theorem over : Rows.crcPartsRow.holds Try.pinned (OpenSpec.ofChange Rows.crcPartsSpec) :=
  OpenClaim.holds_of_wide 4 Try.f4 rfl rfl rfl rfl rfl rfl rfl ⟨rfl, rfl, rfl, rfl, rfl⟩ rfl rfl rfl rfl rfl (by kernel_rfl) Try.func4 (by kernel_rfl)
    (of_decide_eq_true (by kernel_rfl)) (by unfold Func.isWrapper; first | (rw [if_pos (by decide +kernel)]; kernel_rfl) | (rw [if_neg (by decide +kernel)]; exact ⟨rfl, rfl⟩))
    (fun os started H enc _ => lifted os started H enc)

theorem proved : Rows.CrcPartsSaid := over
#print axioms proved
end Go.Proofs.Ytfemcehglolnjaa.crcParts
