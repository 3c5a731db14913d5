/- It is proved that the law 'VarintReads' of the program returns true for every input, with no condition, and leaves what was handed in as it was. The frame was written by a program; the walk is by hand. -/
import Derived.Test.YtnpbjnhjgoafpaaRows
import Derived.WalkKit
import Derived.ProofKit
import Derived.OpenShut
import Derived.ShutString
import Derived.ChangeOld
import Derived.Below
import Derived.Test.YtnpbjnhjgoafpaaVd
namespace Go.Proofs.Ytnpbjnhjgoafpaa.varintReads
open Go.ChangeShapes Go.WideShapes Go.ChangeAt Go.RowKit
open Go.ChangeMaps (open_string shut_string)
set_option linter.unusedVariables false
set_option maxRecDepth 100000

theorem own : ownKnob Try.prog.godebug = none := by kernel_rfl
theorem laidOut : laidOutB Try.prog = true := by kernel_rfl

theorem rd_err (l : List UInt8) : (rd l).1 ≠ 0 → (rd l).2.1 = 0 := by
  have h : ∀ f i p acc l, (rdF f i p acc l).1 ≠ 0 → (rdF f i p acc l).2.1 = 0 := by
    intro f
    induction f with
    | zero => intros; rfl
    | succ f ih =>
      intro i p acc l
      cases l with
      | nil => intros; rfl
      | cons b l =>
        simp only [rdF]
        split
        · exact ih _ _ _ _
        · split
          · intro h; exact absurd rfl h
          · intros; rfl
  exact h 5 0 1 0 l
theorem vb0 : vb 0 = [0] := rfl

theorem walk (a0 : ByteArray) (w : World) (w0 : a0.size ≤ maxLen) :
    Calls Try.prog 10 #[.string a0] w fun e w' => e = .returned (.bool true) ∧ Below w.heap.size w w' := by
  by_cases hs : 1000 < a0.size
  · go_enter Try.func10, Try.ntmps10
    go_wp2_with fail
    refine (awake3 _).mono ?_; rintro e w3 ⟨rfl, hb3⟩
    go_wp2_with fail
    go_ret
    exact ⟨rfl, hb3⟩
  · obtain ⟨⟨e, n, c⟩, hr⟩ : ∃ r, rd a0.data.toList = r := ⟨_, rfl⟩
    by_cases he : e = 0
    · subst he
      have ho := rd_ok _ _ _ hr
      have hcat : ((⟨(vb n).toArray⟩ : ByteArray) ++ a0.extract c a0.size) = a0 := by
        rw [ho.2.2, take_extract]
        apply ByteArray.ext
        rw [← Array.toList_inj]
        have : a0.data.size = a0.size := rfl
        simp [this]
      obtain ⟨R, hR⟩ : ∃ R, R = (if 0 = 0 then a0.extract c a0.size else ⟨#[]⟩) := ⟨_, rfl⟩
      obtain ⟨V, hV⟩ : ∃ V, (⟨(vb n).toArray⟩ : ByteArray) = V := ⟨_, rfl⟩
      rw [hV] at hcat
      rw [if_pos rfl] at hR
      rw [← hR] at hcat
      have hsz : V.size ≤ 5 := by rw [← hV]; exact vb_len5 n ho.2.1
      have hsr : R.size ≤ 1000 := by have := congrArg ByteArray.size hcat; rw [ByteArray.size_append] at this; omega
      have heq : ((V ++ R).toList == a0.toList) = true := by rw [hcat]; simp
      have HR := Lib.hid hr; have HV := Lib.hid hV; have HRR := Lib.hid hR; have HO := Lib.hid ho
      clear hr hV hR ho hcat
      go_enter Try.func10, Try.ntmps10
      go_wp2_with fail
      refine (read_at a0 w0 0 n c R HR.out HRR.out _).mono ?_; rintro e w1 ⟨rfl, hb1⟩
      go_wp2_with fail
      refine (refRead_at a0 w0 0 n c R HR.out HRR.out _).mono ?_; rintro e w2 ⟨rfl, hb2⟩
      go_wp2_with fail
      refine (put_at n n V rfl HO.out.2.1 HV.out _).mono ?_; rintro e w3 ⟨rfl, hb3⟩
      go_wp2_with fail
      refine (awake3 _).mono ?_; rintro e w4 ⟨rfl, hb4⟩
      go_wp2_with fail
      go_ret
      exact ⟨rfl, ((hb1.trans (hb2.mono hb1.size)).trans (hb3.mono (by have := hb1.size; have := hb2.size; omega))).trans (hb4.mono (by have := hb1.size; have := hb2.size; have := hb3.size; omega))⟩
    · have hz : n = 0 := by have := rd_err a0.data.toList; rw [hr] at this; exact this he
      subst hz
      have hv : (⟨#[]⟩ : ByteArray) = if e = 0 then a0.extract c a0.size else ⟨#[]⟩ := by rw [if_neg he]
      have HR := Lib.hid hr; have HV := Lib.hid hv; clear hr hv
      have hne : ((e : Int) == 0) = false := by rw [beq_eq_false_iff_ne]; omega
      have hne' : ((e : Int) != 0) = true := by rw [bne_iff_ne]; omega
      go_enter Try.func10, Try.ntmps10
      go_wp2_with fail
      refine (read_at a0 w0 e 0 c ⟨#[]⟩ HR.out HV.out _).mono ?_; rintro e w1 ⟨rfl, hb1⟩
      go_wp2_with fail
      refine (refRead_at a0 w0 _ 0 c ⟨#[]⟩ HR.out HV.out _).mono ?_; rintro e w2 ⟨rfl, hb2⟩
      go_wp2_with fail
      refine (put_at 0 0 ⟨#[0]⟩ rfl (by decide) (by decide) _).mono ?_; rintro e w3 ⟨rfl, hb3⟩
      go_wp2_with fail
      refine (awake3 _).mono ?_; rintro e w4 ⟨rfl, hb4⟩
      go_wp2_with fail
      go_ret
      exact ⟨rfl, ((hb1.trans (hb2.mono hb1.size)).trans (hb3.mono (by have := hb1.size; have := hb2.size; omega))).trans (hb4.mono (by have := hb1.size; have := hb2.size; have := hb3.size; omega))⟩

theorem lifted (os : Os) (started : os.Started) (H : Type) (enc : TypeId × Value → H) :
    ReturnsInHanded {} Try.checked os 10 .any (Rows.varintReadsSpec.pre6 enc Try.prog Try.f10 Rows.varintReadsRow.domain false) (Rows.varintReadsSpec.post enc Try.prog Try.f10 false true false false) := by
  refine returnsInHanded_of_change (C := Try.checked) own started (by kernel_rfl) Try.func10
    (ChangeSpec.witness6 (enc := enc) (C := Try.checked) false ⟨#[], #[.string ByteArray.empty], []⟩ 8 (by kernel_rfl) (by kernel_rfl) (by kernel_rfl) (by kernel_rfl)) ?_
  intro W base args ds gs before hval0 hW hcnd _
  have hval : ∀ (j : Nat) t v, Try.f10.params[j]? = some t → args[j]? = some v → Value.okWide Try.prog W .any base t v := hval0
  have hW' := hW
  obtain ⟨p, q, hA0, hV, rfl, hfz, hnd⟩ := hW
  have hA : DataW.TrodAll enc Try.prog W 0 (fun _ => true) true Try.f10.params.toList args.toList ds p := hA0
  rw [Try.params10] at hA hval
  obtain ⟨v0, vs0, d0, ds0, p0, q0, hargs, rfl, rfl, h0, r0⟩ := trodAll_cons hA
  obtain ⟨rfl, rfl, rfl⟩ := trodAll_nil r0
  obtain rfl : args = #[v0] := by cases args; simp_all
  obtain ⟨rfl, rfl⟩ := trodVars_none hV
  have k0 := h0
  have lt0 : ∀ x ∈ p0, x.block < W.heap.size := by obtain ⟨m, hm⟩ := k0; exact DataW.trod_lt m _ _ _ hm
  obtain ⟨a0, rfl, rfl, rfl, w0⟩ := open_string Try.underlying9 (hval 0 9 v0 rfl rfl) h0
  clear hA0 hval0
  refine (walk a0 W w0).mono fun e W' ⟨he, bel⟩ => ?_
  subst he
  exact ⟨_, rfl, _, _, _, [], _, [], hW', trodAll_mk1 (shut_bool Try.underlying4 _), (trodAll_cons_mk (Below.trod laidOut (by kernel_rfl) (of_decide_eq_true (by kernel_rfl)) k0 bel lt0) trodAll_mk0), rfl, bel.frame _, fun h => by cases h⟩

theorem over : Rows.varintReadsRow.holds Try.pinned (OpenSpec.ofChange Rows.varintReadsSpec) :=
  OpenClaim.holds_of_wide 10 Try.f10 rfl rfl rfl rfl rfl rfl rfl ⟨rfl, rfl, rfl, rfl, rfl⟩ rfl rfl rfl rfl rfl (by kernel_rfl) Try.func10 (by kernel_rfl)
    (of_decide_eq_true (by kernel_rfl)) (by unfold Func.isWrapper; first | (rw [if_pos (by decide +kernel)]; kernel_rfl) | (rw [if_neg (by decide +kernel)]; exact ⟨rfl, rfl⟩))
    (fun os started H enc _ => lifted os started H enc)

theorem proved : Rows.VarintReadsSaid := over
#print axioms proved
end Go.Proofs.Ytnpbjnhjgoafpaa.varintReads
