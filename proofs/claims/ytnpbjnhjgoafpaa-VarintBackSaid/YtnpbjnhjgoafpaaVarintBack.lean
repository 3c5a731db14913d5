/- It is proved that the law 'VarintBack' of the program returns true for every input, with no condition, and leaves what was handed in as it was. The frame was written by a program; the walk is by hand. -/
import Derived.Test.YtnpbjnhjgoafpaaRows
import Derived.WalkKit
import Derived.ProofKit
import Derived.OpenShut
import Derived.ShutString
import Derived.ChangeOld
import Derived.Below
import Derived.Test.YtnpbjnhjgoafpaaVd
namespace Go.Proofs.Ytnpbjnhjgoafpaa.varintBack
open Go.ChangeShapes Go.WideShapes Go.ChangeAt Go.RowKit
open Go.ChangeMaps (open_string shut_string)
set_option linter.unusedVariables false
set_option maxRecDepth 100000

theorem own : ownKnob Try.prog.godebug = none := by kernel_rfl
theorem laidOut : laidOutB Try.prog = true := by kernel_rfl



theorem walk (a0 : Int) (a1 : ByteArray) (w : World) (w0 : (Lit.int .u32 a0).wf = true) (w1 : a1.size ≤ maxLen) :
    Calls Try.prog 11 #[.int .u32 a0, .string a1] w fun e w' => e = .returned (.bool true) ∧ Below w.heap.size w w' := by
  obtain ⟨n, rfl⟩ := Int.eq_ofNat_of_zero_le (bounds_u32 w0).1
  have hn : n ≤ 4294967295 := by have := (bounds_u32 w0).2; omega
  by_cases hs : 500 < a1.size
  · go_enter Try.func11, Try.ntmps11
    go_wp2_with fail
    refine (awake3 _).mono ?_; rintro e w3 ⟨rfl, hb3⟩
    go_wp2_with fail
    go_ret
    exact ⟨rfl, hb3⟩
  · obtain ⟨V, hV⟩ : ∃ V, (⟨(vb n).toArray⟩ : ByteArray) = V := ⟨_, rfl⟩
    have hl : (vb n).length = V.size := by rw [← hV]; rfl
    have hl5 : V.size ≤ 5 := by rw [← hl]; exact vb_len5 n hn
    have hd : V.data.toList = vb n := by rw [← hV]
    have hcat : (V ++ a1).data.toList = vb n ++ a1.data.toList := by rw [ByteArray.data_append]; simp [hd]
    have hr := rd_vb n a1.data.toList hn
    rw [← hcat, hl] at hr
    have hx : a1 = (V ++ a1).extract V.size (V ++ a1).size := by
      apply bytes_inj
      rw [Lib.extract_to_end, hcat, ← hl]; simp
    have hsz : (V ++ a1).size ≤ maxLen := by rw [ByteArray.size_append]; unfold maxLen; omega
    have hsh : ∀ i, i < V.size → rd (V.extract 0 i).data.toList = (3, 0, 0) := fun i hi => by
      rw [← take_extract, hd]; exact rd_short n i hn (by omega)
    have HV := Lib.hid hV; have HR := Lib.hid hr; have HX := Lib.hid hx; have HSH := Lib.hid hsh; have HSZ := Lib.hid hsz
    clear hV hl hd hcat hr hx hsh hsz
    go_enter Try.func11, Try.ntmps11
    go_wp2_with fail
    refine (put_at n n V rfl hn HV.out _).mono ?_; rintro e w1 ⟨rfl, hb1⟩
    go_wp2_with fail
    refine (read_at (V ++ a1) HSZ.out 0 n V.size a1 HR.out HX.out _).mono ?_; rintro e w2 ⟨rfl, hb2⟩
    go_wp2_with fail
    have hb2' : Below w.heap.size w w2 := hb1.trans (hb2.mono hb1.size)
    clear hb1 hb2
    go_loopw [10] (fun i wr => ∃ k : Nat, k ≤ V.size ∧ i = .int .i64 k ∧ Below w.heap.size w wr) (fun i _ => V.size - (intOf i).toNat)
    case atStart => exact ⟨0, Nat.zero_le _, rfl, hb2'⟩
    case round =>
      clear hb2'
      obtain ⟨k, hk, rfl, hbk⟩ := hrel
      by_cases hlt : k < V.size
      · have hks : (V.extract 0 k).size ≤ maxLen := by rw [ByteArray.size_extract]; unfold maxLen; omega
        have HK := Lib.hid hks; clear hks
        have hkI : (k : Int) ≤ (V.size : Int) := by omega
        go_wp2_with fail
        refine (read_at (V.extract 0 k) HK.out 3 0 0 ⟨#[]⟩ (HSH.out k hlt) rfl _).mono ?_; rintro e w3 ⟨rfl, hb3⟩
        go_wp2
        go_roundw
        case rel => exact ⟨k + 1, by omega, by go_num, hbk.trans (hb3.mono hbk.size)⟩
        case measure => simp [intOf]; omega
      · go_wp2_with fail
        refine (awake3 _).mono ?_; rintro e w4 ⟨rfl, hb4⟩
        go_wp2_with fail
        go_ret
        exact ⟨rfl, hbk.trans (hb4.mono hbk.size)⟩

theorem lifted (os : Os) (started : os.Started) (H : Type) (enc : TypeId × Value → H) :
    ReturnsInHanded {} Try.checked os 11 .any (Rows.varintBackSpec.pre6 enc Try.prog Try.f11 Rows.varintBackRow.domain false) (Rows.varintBackSpec.post enc Try.prog Try.f11 false true false false) := by
  refine returnsInHanded_of_change (C := Try.checked) own started (by kernel_rfl) Try.func11
    (ChangeSpec.witness6 (enc := enc) (C := Try.checked) false ⟨#[], #[.int .u32 0, .string ByteArray.empty], []⟩ 8 (by kernel_rfl) (by kernel_rfl) (by kernel_rfl) (by kernel_rfl)) ?_
  intro W base args ds gs before hval0 hW hcnd _
  have hval : ∀ (j : Nat) t v, Try.f11.params[j]? = some t → args[j]? = some v → Value.okWide Try.prog W .any base t v := hval0
  have hW' := hW
  obtain ⟨p, q, hA0, hV, rfl, hfz, hnd⟩ := hW
  have hA : DataW.TrodAll enc Try.prog W 0 (fun _ => true) true Try.f11.params.toList args.toList ds p := hA0
  rw [Try.params11] at hA hval
  obtain ⟨v0, vs0, d0, ds0, p0, q0, hargs, rfl, rfl, h0, r0⟩ := trodAll_cons hA
  obtain ⟨v1, vs1, d1, ds1, p1, q1, rfl, rfl, rfl, h1, r1⟩ := trodAll_cons r0
  obtain ⟨rfl, rfl, rfl⟩ := trodAll_nil r1
  obtain rfl : args = #[v0, v1] := by cases args; simp_all
  obtain ⟨rfl, rfl⟩ := trodVars_none hV
  have k0 := h0
  have lt0 : ∀ x ∈ p0, x.block < W.heap.size := by obtain ⟨m, hm⟩ := k0; exact DataW.trod_lt m _ _ _ hm
  obtain ⟨a0, rfl, rfl, rfl, w0⟩ := open_int Try.underlying72 (hval 0 72 v0 rfl rfl) h0
  have k1 := h1
  have lt1 : ∀ x ∈ p1, x.block < W.heap.size := by obtain ⟨m, hm⟩ := k1; exact DataW.trod_lt m _ _ _ hm
  obtain ⟨a1, rfl, rfl, rfl, w1⟩ := open_string Try.underlying9 (hval 1 9 v1 rfl rfl) h1
  clear hA0 hval0
  refine (walk a0 a1 W w0 w1).mono fun e W' ⟨he, bel⟩ => ?_
  subst he
  exact ⟨_, rfl, _, _, _, [], _, [], hW', trodAll_mk1 (shut_bool Try.underlying4 _), (trodAll_cons_mk (Below.trod laidOut (by kernel_rfl) (of_decide_eq_true (by kernel_rfl)) k0 bel lt0) (trodAll_cons_mk (Below.trod laidOut (by kernel_rfl) (of_decide_eq_true (by kernel_rfl)) k1 bel lt1) trodAll_mk0)), rfl, bel.frame _, fun h => by cases h⟩

theorem over : Rows.varintBackRow.holds Try.pinned (OpenSpec.ofChange Rows.varintBackSpec) :=
  OpenClaim.holds_of_wide 11 Try.f11 rfl rfl rfl rfl rfl rfl rfl ⟨rfl, rfl, rfl, rfl, rfl⟩ rfl rfl rfl rfl rfl (by kernel_rfl) Try.func11 (by kernel_rfl)
    (of_decide_eq_true (by kernel_rfl)) (by unfold Func.isWrapper; first | (rw [if_pos (by decide +kernel)]; kernel_rfl) | (rw [if_neg (by decide +kernel)]; exact ⟨rfl, rfl⟩))
    (fun os started H enc _ => lifted os started H enc)

theorem proved : Rows.VarintBackSaid := over
#print axioms proved
end Go.Proofs.Ytnpbjnhjgoafpaa.varintBack
