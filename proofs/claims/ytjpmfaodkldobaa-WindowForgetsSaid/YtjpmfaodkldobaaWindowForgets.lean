/- It is proved that the law 'WindowForgets' of the program returns true for every input, with no condition, and leaves what was handed in as it was. The frame was written by a program; the walk is by hand. -/
import Derived.Test.YtjpmfaodkldobaaRows
import Derived.WalkKit
import Derived.ProofKit
import Derived.OpenShut
import Derived.ShutString
import Derived.ChangeOld
import Derived.Below
import Derived.Test.YtjpmfaodkldobaaBase
import Derived.Test.YtjpmfaodkldobaaW6
namespace Go.Proofs.Ytjpmfaodkldobaa.windowForgets
open Go.ChangeShapes Go.WideShapes Go.ChangeAt Go.RowKit Go.Deep
open Go.ChangeMaps (open_string shut_string)
set_option linter.unusedVariables false
set_option maxRecDepth 100000

theorem own : ownKnob Try.prog.godebug = none := by kernel_rfl
theorem laidOut : laidOutB Try.prog = true := by kernel_rfl

theorem lst_lst (n : Nat) (s t : List UInt8) : lastN n (lastN n ([] ++ s) ++ t) = lastN n (s ++ t) := by rw [List.nil_append, ← lastN_append]
theorem lst_one (n : Nat) (s t : List UInt8) : lastN n ([] ++ lastN n (s ++ t)) = lastN n (s ++ t) := by rw [List.nil_append, lastN_lastN _ _ _ (Nat.le_refl _)]
theorem lastI_pos (m : Nat) (L : List UInt8) : lastI ((m : Int) + 1) L = lastN (m + 1) L := by
  unfold lastI
  rw [if_neg (by omega)]
  congr 1
theorem sOf_size (l : List UInt8) : (sOf l).size = l.length := by unfold sOf; simp [ByteArray.size]
theorem sOf_list (l : List UInt8) : (sOf l).data.toList = l := by unfold sOf; simp
theorem data_app (a b : ByteArray) : (a ++ b).data.toList = a.data.toList ++ b.data.toList := by simp

set_option maxHeartbeats 6400000 in
theorem walk (a0 : Int) (b1_0 : ByteArray) (b1_1 : ByteArray) (b2_0 : Int) (b2_1 : Int) (b2_2 : Int) (b2_3 : ByteArray) (w : World) (w0 : (Lit.int .u8 a0).wf = true) (w1_0 : b1_0.size ≤ maxLen) (w1_1 : b1_1.size ≤ maxLen) (w2_0 : (Lit.int .i64 b2_0).wf = true) (w2_1 : (Lit.int .i64 b2_1).wf = true) (w2_2 : (Lit.int .i64 b2_2).wf = true) (w2_3 : b2_3.size ≤ maxLen) :
    Calls Try.prog 8 #[.int .u8 a0, .agg #[.string b1_0, .string b1_1], .agg #[.int .i64 b2_0, .int .i64 b2_1, .int .i64 b2_2, .string b2_3]] w fun e w' => e = .returned (.bool true) ∧ Below w.heap.size w w' := by
  by_cases hl1 : 1000 < b1_0.size
  · have hli : (1000 : Int) < (b1_0.size : Int) := by omega
    go_enter Try.func8, Try.ntmps8
    go_wp2_with fail
    go_region
    all_goals (
      go_wp2_with fail
      refine (awake29 _).mono ?_; rintro e w4 ⟨rfl, hb4⟩
      go_wp2_with fail
      go_ret
      exact ⟨rfl, (below_dn (((Below.refl _ _).alloc (Nat.le_refl _) _).alloc (by simp) _) _).trans (hb4.mono (by simp; omega))⟩)
  by_cases hl2 : 1000 < b1_1.size
  · have hli : (1000 : Int) < (b1_1.size : Int) := by omega
    go_enter Try.func8, Try.ntmps8
    go_wp2_with fail
    go_region
    all_goals (
      go_wp2_with fail
      refine (awake29 _).mono ?_; rintro e w4 ⟨rfl, hb4⟩
      go_wp2_with fail
      go_ret
      exact ⟨rfl, (below_dn (((Below.refl _ _).alloc (Nat.le_refl _) _).alloc (by simp) _) _).trans (hb4.mono (by simp; omega))⟩)
  have hab : 0 ≤ a0 ∧ a0 ≤ 255 := bounds_u8 w0
  obtain ⟨A, rfl⟩ : ∃ m : Nat, a0 = m := ⟨a0.toNat, by omega⟩
  have hA : A ≤ 255 := by omega
  clear w0 hab
  go_enter Try.func8, Try.ntmps8
  go_wp2_with fail
  go_region
  simp only [Exit.then]
  rename_i hK
  refine hK _ _ ?_
  clear hK
  have hbW : Below w.heap.size w ((w.alloc (.cells #[.string b1_0, .string b1_1] 67)).alloc (.cells #[.int .i64 b2_0, .int .i64 b2_1, .int .i64 b2_2, .string b2_3] 61)).drew := (((Below.refl _ _).alloc (Nat.le_refl _) _).alloc (by simp) _).drew
  have h5 := heap_two_last w (.cells #[.string b1_0, .string b1_1] 67) (.cells #[.int .i64 b2_0, .int .i64 b2_1, .int .i64 b2_2, .string b2_3] 61)
  have h5' : ((w.alloc (.cells #[.string b1_0, .string b1_1] 67)).alloc (.cells #[.int .i64 b2_0, .int .i64 b2_1, .int .i64 b2_2, .string b2_3] 61)).drew.heap[w.heap.size + 1]? = some (.cells #[.int .i64 b2_0, .int .i64 b2_1, .int .i64 b2_2, .string b2_3] 61 (0, 0)) := h5
  clear h5
  revert hbW h5'
  generalize ((w.alloc (.cells #[.string b1_0, .string b1_1] 67)).alloc (.cells #[.int .i64 b2_0, .int .i64 b2_1, .int .i64 b2_2, .string b2_3] 61)).drew = W
  intro hbW h5
  have HBW := Lib.hid hbW
  have lW := block_lt h5
  have HC1 := Lib.hid (cell_in h5 1)
  have HC2 := Lib.hid (cell_in h5 2)
  clear hbW h5
  go_wp2_with fail
  refine (wnNew _ W (by omega)).mono ?_; rintro e w1 ⟨rfl, hw1, hb1, hz1⟩
  have hw1_ := Lib.hid hw1
  have hb1_ := Lib.hid hb1
  clear hw1 hb1
  go_wp2_with fail
  refine (wnNew _ w1 (by omega)).mono ?_; rintro e w2 ⟨rfl, hw2, hb2, -⟩
  rw [show ((A : Int) + 1).toNat = A + 1 by omega] at hw1_ hw2
  have ht0 := two_new hw1_.out hb1_.out hz1 hw2 hb2
  rw [hz1] at ht0
  have ht := Lib.hid ht0
  clear ht0
  clear hw1_ hb1_ hw2 hb2
  go_wp2_with fail
  refine (tPut W _ _ _ _ _ _ b1_0 ht.out (by omega) _ rfl).mono ?_; rintro e w3 ⟨rfl, h3⟩
  have ht := Lib.hid h3
  clear h3
  go_wp2_with fail
  refine (tPut W _ _ _ _ _ _ b1_1 ht.out (by omega) _ rfl).mono ?_; rintro e w4 ⟨rfl, h3⟩
  rw [lst_lst] at h3
  have ht := Lib.hid h3
  clear h3
  go_wp2_with fail
  refine (lLast (b1_0 ++ b1_1) _ (by simp; omega) _).mono ?_; rintro e w5 ⟨rfl, rfl⟩
  rw [data_app, lastI_pos]
  have hHlen := lastN_len (A + 1) (b1_0.data.toList ++ b1_1.data.toList)
  rw [List.length_append, show b1_0.data.toList.length = b1_0.size by simp, show b1_1.data.toList.length = b1_1.size by simp] at hHlen
  have H1 := lst_one (A + 1) b1_0.data.toList b1_1.data.toList
  obtain ⟨H, hHd⟩ : ∃ H, lastN (A + 1) (b1_0.data.toList ++ b1_1.data.toList) = H := ⟨_, rfl⟩
  rw [hHd] at ht hHlen H1
  rw [hHd]
  clear hHd
  have hHsz : H.length ≤ 1000000 := by omega
  have HHlen := Lib.hid hHsz
  have HH1 := Lib.hid H1
  clear hHlen H1 hHsz
  go_wp2_with fail
  refine (tPut W _ _ _ _ _ _ (sOf H) ht.out.symm (by rw [sOf_size]; have := HHlen.out; omega) H (by rw [sOf_list]; exact HH1.out)).mono ?_; rintro e w6 ⟨rfl, h3⟩
  have ht := Lib.hid h3.symm
  obtain ⟨_, _, -, -, -, -, -, hbw⟩ := h3
  have d1 : w6.cell? ⟨w.heap.size + 1, 1, none⟩ = some (.int .i64 b2_1) := (hbw.cell (p := ⟨w.heap.size + 1, 1, none⟩) lW).trans HC1.out
  have d2 : w6.cell? ⟨w.heap.size + 1, 2, none⟩ = some (.int .i64 b2_2) := (hbw.cell (p := ⟨w.heap.size + 1, 2, none⟩) lW).trans HC2.out
  clear hbw
  obtain ⟨T, E, hTE⟩ : ∃ T E, copyS H b2_1 b2_2 = (T, E) := ⟨_, _, rfl⟩
  have HTE := Lib.hid hTE
  clear hTE
  go_wp2_with fail
  refine (tCopy W _ _ _ _ _ _ b2_1 b2_2 ht.out T E HTE.out).mono ?_; rintro e w7 ⟨rfl, h3⟩
  have ht := Lib.hid h3
  obtain ⟨_, _, -, -, -, -, -, hbw⟩ := h3
  have d1 : w7.cell? ⟨w.heap.size + 1, 1, none⟩ = some (.int .i64 b2_1) := (hbw.cell (p := ⟨w.heap.size + 1, 1, none⟩) lW).trans HC1.out
  have d2 : w7.cell? ⟨w.heap.size + 1, 2, none⟩ = some (.int .i64 b2_2) := (hbw.cell (p := ⟨w.heap.size + 1, 2, none⟩) lW).trans HC2.out
  clear hbw
  go_wp2_with fail
  refine (tCopy W _ _ _ _ _ _ b2_1 b2_2 ht.out.symm T E HTE.out).mono ?_; rintro e w8 ⟨rfl, h3⟩
  have ht := Lib.hid h3.symm
  clear h3 d1 d2
  have hsl := sOf_toList
  go_wp2_with fail
  refine (tLast W _ _ _ _ _ _ _ ht.out _ rfl).mono ?_; rintro e w9 ⟨rfl, h3⟩
  have ht := Lib.hid h3
  clear h3
  go_wp2_with fail
  refine (tLast W _ _ _ _ _ _ _ ht.out.symm _ rfl).mono ?_; rintro e w10 ⟨rfl, h3⟩
  have ht := Lib.hid h3.symm
  clear h3
  go_wp2_with fail
  refine (tHave W _ _ _ _ _ _ ht.out _ rfl).mono ?_; rintro e w11 ⟨rfl, h3⟩
  have ht := Lib.hid h3
  clear h3
  go_wp2_with fail
  refine (tHave W _ _ _ _ _ _ ht.out.symm _ rfl).mono ?_; rintro e w12 ⟨rfl, h3⟩
  obtain ⟨_, _, -, -, -, -, -, hbw⟩ := h3
  have hb12 := HBW.out.trans (hbw.mono HBW.out.size)
  clear hbw
  go_wp2_with fail
  refine (awake29 _).mono ?_; rintro e w13 ⟨rfl, hb4⟩
  go_wp2_with fail
  go_ret
  exact ⟨rfl, hb12.trans (hb4.mono hb12.size)⟩

theorem lifted (os : Os) (started : os.Started) (H : Type) (enc : TypeId × Value → H) :
    ReturnsInHanded {} Try.checked os 8 .any (Rows.windowForgetsSpec.pre6 enc Try.prog Try.f8 Rows.windowForgetsRow.domain false) (Rows.windowForgetsSpec.post enc Try.prog Try.f8 false true false false) := by
  refine returnsInHanded_of_change (C := Try.checked) own started (by kernel_rfl) Try.func8
    (ChangeSpec.witness6 (enc := enc) (C := Try.checked) false ⟨#[], #[.int .u8 0, .agg #[.string ByteArray.empty, .string ByteArray.empty], .agg #[.int .i64 0, .int .i64 0, .int .i64 0, .string ByteArray.empty]], []⟩ 8 (by kernel_rfl) (by kernel_rfl) (by kernel_rfl) (by kernel_rfl)) ?_
  intro W base args ds gs before hval0 hW hcnd _
  have hval : ∀ (j : Nat) t v, Try.f8.params[j]? = some t → args[j]? = some v → Value.okWide Try.prog W .any base t v := hval0
  have hW' := hW
  obtain ⟨p, q, hA0, hV, rfl, hfz, hnd⟩ := hW
  have hA : DataW.TrodAll enc Try.prog W 0 (fun _ => true) true Try.f8.params.toList args.toList ds p := hA0
  rw [Try.params8] at hA hval
  obtain ⟨v0, vs0, d0, ds0, p0, q0, hargs, rfl, rfl, h0, r0⟩ := trodAll_cons hA
  obtain ⟨v1, vs1, d1, ds1, p1, q1, rfl, rfl, rfl, h1, r1⟩ := trodAll_cons r0
  obtain ⟨v2, vs2, d2, ds2, p2, q2, rfl, rfl, rfl, h2, r2⟩ := trodAll_cons r1
  obtain ⟨rfl, rfl, rfl⟩ := trodAll_nil r2
  obtain rfl : args = #[v0, v1, v2] := by cases args; simp_all
  obtain ⟨rfl, rfl⟩ := trodVars_none hV
  have k0 := h0
  have lt0 : ∀ x ∈ p0, x.block < W.heap.size := by obtain ⟨m, hm⟩ := k0; exact DataW.trod_lt m _ _ _ hm
  obtain ⟨a0, rfl, rfl, rfl, w0⟩ := open_int Try.underlying5 (hval 0 5 v0 rfl rfl) h0
  have k1 := h1
  have lt1 : ∀ x ∈ p1, x.block < W.heap.size := by obtain ⟨m, hm⟩ := k1; exact DataW.trod_lt m _ _ _ hm
  obtain ⟨l, rfl, hl, hcs⟩ := agg_array Try.underlying67 (by kernel_rfl) (by kernel_rfl) (hval 1 67 v1 rfl rfl) h1
  obtain ⟨x0, x1, rfl⟩ := len2 l hl
  obtain ⟨n0, c, y, hc, hy⟩ := hcs 0 (by decide)
  simp only [List.getElem?_cons_zero, Option.some.injEq] at hc
  subst hc
  obtain ⟨b1_0, hc, -, w1_0⟩ := DataW.trod_string Try.underlying9 hy
  simp only [List.cons.injEq, and_true] at hc
  subst hc
  clear hy
  obtain ⟨n1, c, y, hc, hy⟩ := hcs 1 (by decide)
  simp only [List.getElem?_cons_zero, List.getElem?_cons_succ, Option.some.injEq] at hc
  subst hc
  obtain ⟨b1_1, hc, -, w1_1⟩ := DataW.trod_string Try.underlying9 hy
  simp only [List.cons.injEq, and_true] at hc
  subst hc
  clear hy
  clear hl hcs
  have k2 := h2
  have lt2 : ∀ x ∈ p2, x.block < W.heap.size := by obtain ⟨m, hm⟩ := k2; exact DataW.trod_lt m _ _ _ hm
  obtain ⟨l, rfl, hl, hcs⟩ := agg_struct Try.underlying61 (by kernel_rfl) (by kernel_rfl) (hval 2 61 v2 rfl rfl) h2
  obtain ⟨x0, x1, x2, x3, rfl⟩ := len4 l hl
  obtain ⟨n0, c, y, hc, hy⟩ := hcs 0 _ rfl
  simp only [List.getElem?_cons_zero, Option.some.injEq] at hc
  subst hc
  obtain ⟨b2_0, hc, -, w2_0⟩ := DataW.trod_int Try.underlying3 hy
  simp only [List.cons.injEq, and_true] at hc
  subst hc
  clear hy
  obtain ⟨n1, c, y, hc, hy⟩ := hcs 1 _ rfl
  simp only [List.getElem?_cons_zero, List.getElem?_cons_succ, Option.some.injEq] at hc
  subst hc
  obtain ⟨b2_1, hc, -, w2_1⟩ := DataW.trod_int Try.underlying3 hy
  simp only [List.cons.injEq, and_true] at hc
  subst hc
  clear hy
  obtain ⟨n2, c, y, hc, hy⟩ := hcs 2 _ rfl
  simp only [List.getElem?_cons_zero, List.getElem?_cons_succ, Option.some.injEq] at hc
  subst hc
  obtain ⟨b2_2, hc, -, w2_2⟩ := DataW.trod_int Try.underlying3 hy
  simp only [List.cons.injEq, and_true] at hc
  subst hc
  clear hy
  obtain ⟨n3, c, y, hc, hy⟩ := hcs 3 _ rfl
  simp only [List.getElem?_cons_zero, List.getElem?_cons_succ, Option.some.injEq] at hc
  subst hc
  obtain ⟨b2_3, hc, -, w2_3⟩ := DataW.trod_string Try.underlying9 hy
  simp only [List.cons.injEq, and_true] at hc
  subst hc
  clear hy
  clear hl hcs
  clear hA0 hval0
  refine (walk a0 b1_0 b1_1 b2_0 b2_1 b2_2 b2_3 W w0 w1_0 w1_1 w2_0 w2_1 w2_2 w2_3).mono fun e W' ⟨he, bel⟩ => ?_
  subst he
  exact ⟨_, rfl, _, _, _, [], _, [], hW', trodAll_mk1 (shut_bool Try.underlying4 _), (trodAll_cons_mk (Below.trod laidOut (by kernel_rfl) (of_decide_eq_true (by kernel_rfl)) k0 bel lt0) (trodAll_cons_mk (Below.trod laidOut (by kernel_rfl) (of_decide_eq_true (by kernel_rfl)) k1 bel lt1) (trodAll_cons_mk (Below.trod laidOut (by kernel_rfl) (of_decide_eq_true (by kernel_rfl)) k2 bel lt2) trodAll_mk0))), rfl, bel.frame _, fun h => by cases h⟩

theorem over : Rows.windowForgetsRow.holds Try.pinned (OpenSpec.ofChange Rows.windowForgetsSpec) :=
  OpenClaim.holds_of_wide 8 Try.f8 rfl rfl rfl rfl rfl rfl rfl ⟨rfl, rfl, rfl, rfl, rfl⟩ rfl rfl rfl rfl rfl (by kernel_rfl) Try.func8 (by kernel_rfl)
    (of_decide_eq_true (by kernel_rfl)) (by unfold Func.isWrapper; first | (rw [if_pos (by decide +kernel)]; kernel_rfl) | (rw [if_neg (by decide +kernel)]; exact ⟨rfl, rfl⟩))
    (fun os started H enc _ => lifted os started H enc)

theorem proved : Rows.WindowForgetsSaid := over
#print axioms proved
end Go.Proofs.Ytjpmfaodkldobaa.windowForgets
