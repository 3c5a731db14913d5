/- It is proved that the law 'CrcOne' of the program returns true for every input, with no condition, and leaves what was handed in as it was. The frame was written by a program; the walk is by hand. -/
import Derived.Test.YtfemcehglolnjaaRows
import Derived.WalkKit
import Derived.ProofKit
import Derived.OpenShut
import Derived.ShutString
import Derived.ChangeOld
import Derived.Below
import Derived.Test.YtfemcehglolnjaaBase
import Derived.Test.YtfemcehglolnjaaCs
namespace Go.Proofs.Ytfemcehglolnjaa.crcOne
open Go.ChangeShapes Go.WideShapes Go.ChangeAt Go.RowKit Go.Deep
open Go.ChangeMaps (open_string shut_string)
set_option linter.unusedVariables false
set_option maxRecDepth 100000

theorem own : ownKnob Try.prog.godebug = none := by kernel_rfl
theorem laidOut : laidOutB Try.prog = true := by kernel_rfl

open CrcMath
theorem marked_set (w : World) (ROW : Array Value) (t : TypeId) (fr : Nat × Nat) (K : Nat) (u : Value) : ((w.alloc (.cells ROW t fr)).setCell ⟨w.heap.size, K, none⟩ u).heap[w.heap.size]? = some (.cells (ROW.setIfInBounds K u) t fr) := by
  have h := heap_alloc_new w (.cells ROW t fr)
  rw [setCell_eq_setRow _ w.heap.size K ROW t fr u h]
  exact setRow_heap _ _ _ _ _ _ h
theorem set_split (l : List UInt8) (k : Nat) (x : UInt8) (h : k < l.length) : l.set k x = l.take k ++ x :: l.drop (k + 1) := by
  rw [List.set_eq_take_append_cons_drop, if_pos h]
theorem get_split (l : List UInt8) (k : Nat) (h : k < l.length) : l = l.take k ++ l.getD k 0 :: l.drop (k + 1) := by
  have e : l.getD k 0 = l[k] := by simp [List.getD_eq_getElem?_getD, h]
  rw [e, ← List.drop_eq_getElem_cons h, List.take_append_drop]
theorem bytesRow_get (s : ByteArray) (cap j : Nat) (h : j < s.size) : (bytesRow s cap)[j]? = some (.int .u8 ((s.data.toList.getD j 0).toNat : Int)) := by
  have h' : j < s.data.size := h
  unfold bytesRow
  rw [Array.getElem?_append_left (by simpa using h'), Array.getElem?_map, Array.getElem?_eq_getElem h']
  simp only [Array.getElem?_toList, List.getD_eq_getElem?_getD, Array.getElem?_eq_getElem h', Option.map_some, Option.getD_some]

set_option maxHeartbeats 1600000 in
theorem walk (a0 : ByteArray) (a1 : Int) (a2 : Int) (w : World) (w0 : a0.size ≤ maxLen) (w1 : (Lit.int .u16 a1).wf = true) (w2 : (Lit.int .u8 a2).wf = true) :
    Calls Try.prog 5 #[.string a0, .int .u16 a1, .int .u8 a2] w fun e w' => e = .returned (.bool true) ∧ Below w.heap.size w w' := by
  obtain ⟨m0, m1⟩ := bounds_u16 w1
  obtain ⟨x0, x1⟩ := bounds_u8 w2
  by_cases hbad : a0.size = 0 ∨ 4000 < a0.size
  · rcases hbad with hl | hl
    · have hl' : ((a0.size : Int) == 0) = true := by simp [hl]
      have hl2 : a0 = ByteArray.empty := ByteArray.ext (Array.eq_empty_of_size_eq_zero (by have : a0.data.size = a0.size := rfl; omega))
      subst hl2
      clear hl hl'
      go_enter Try.func5, Try.ntmps5
      go_wp2_with fail
      refine (awake05 _).mono ?_; rintro e w2 ⟨rfl, hb⟩
      go_wp2_with fail
      go_ret
      exact ⟨rfl, hb⟩
    · have hl0 : ((a0.size : Int) == 0) = false := by rw [beq_eq_false_iff_ne]; omega
      go_enter Try.func5, Try.ntmps5
      go_wp2_with fail
      refine (awake05 _).mono ?_; rintro e w2 ⟨rfl, hb⟩
      go_wp2_with fail
      go_ret
      exact ⟨rfl, hb⟩
  · have hl1 : 0 < a0.size := by omega
    have hl2 : a0.size ≤ 4000 := by omega
    have hl0 : ((a0.size : Int) == 0) = false := by rw [beq_eq_false_iff_ne]; omega
    clear hbad
    obtain ⟨K, hK⟩ : ∃ K : Nat, a1 % (a0.size : Int) = K := ⟨(a1 % (a0.size : Int)).toNat, by have := Int.emod_nonneg a1 (show (a0.size : Int) ≠ 0 by omega); omega⟩
    have hK1 : K < a0.size := by have := Int.emod_lt_of_pos a1 (show 0 < (a0.size : Int) by omega); omega
    have hcv := run_bytes_of_string (P := Try.prog) w 9 29 5 a0 Try.underlying9 Try.underlying29 Try.underlying5
    obtain ⟨cap, hcap⟩ : ∃ cap, grownCap w a0.size 0 5 = cap := ⟨_, rfl⟩
    have hge : a0.size ≤ cap := by rw [← hcap]; exact grownCap_ge w a0.size 0 5
    rw [hcap] at hcv
    clear hcap
    obtain ⟨ROW, hROW⟩ : ∃ ROW, bytesRow a0 cap = ROW := ⟨_, rfl⟩
    have hget : ∀ j, j < a0.size → ROW[j]? = some (.int .u8 ((a0.data.toList.getD j 0).toNat : Int)) := fun j hj => by rw [← hROW]; exact bytesRow_get a0 cap j hj
    have hrs : a0.size ≤ ROW.size := by
      have := (Array.getElem?_eq_some_iff.1 (hget (a0.size - 1) (by omega))).1
      omega
    rw [hROW] at hcv
    obtain ⟨N, hN⟩ : ∃ N, ROW.size = N := ⟨_, rfl⟩
    rw [hN] at hcv hrs
    have HG := Lib.hid hget
    obtain ⟨B, hB⟩ : ∃ B : Nat, (a0.data.toList.getD K 0).toNat = B := ⟨_, rfl⟩
    have hB8 : B < 256 := by rw [← hB]; exact (a0.data.toList.getD K 0).toNat_lt
    have hgk := hget K hK1
    rw [hB] at hgk
    have hcell : (w.alloc (.cells ROW 5 (N, N + 1))).cell? ⟨w.heap.size, K, none⟩ = some (.int .u8 (B : Int)) := cell_lit (heap_alloc_new w _) K _ hgk
    have hfz : (w.alloc (.cells ROW 5 (N, N + 1))).frozen? ⟨w.heap.size, K, none⟩ = false := by
      rw [World.frozen?_alloc_mark]; simp; omega
    obtain ⟨X, hX, hX8⟩ : ∃ X : Nat, a2 = X ∧ X < 256 := ⟨a2.toNat, by omega, by omega⟩
    subst hX
    have hlen : a0.data.toList.length = a0.size := by simp
    have hcv2 := run_convert_bytes_back (P := Try.prog) ((w.alloc (.cells ROW 5 (N, N + 1))).setCell ⟨w.heap.size, K, none⟩ (.int .u8 (X : Int))).drew 29 9 5 ⟨w.heap.size, 0, none⟩ cap (a0.data.toList.set K (UInt8.ofNat X)) Try.underlying29 Try.underlying5 Try.underlying9 (fun j hj => by
      have hj' : j < a0.size := by simpa using hj
      refine cells_of (off := 0) (cs := (a0.data.toList.set K (UInt8.ofNat X)).map fun b => Value.int .u8 (b.toNat : Int)) (fun i hi => ?_) j _ (by rw [List.getElem?_map, List.getElem?_eq_getElem hj]; rfl)
      have hi' : i < a0.size := by simpa using hi
      rw [Nat.zero_add]
      show ((w.alloc (.cells ROW 5 (N, N + 1))).setCell ⟨w.heap.size, K, none⟩ (.int .u8 (X : Int))).cell? ⟨w.heap.size, i, none⟩ = _
      have hb : ((w.alloc (.cells ROW 5 (N, N + 1))).setCell ⟨w.heap.size, K, none⟩ (.int .u8 (X : Int))).heap[w.heap.size]? = some (.cells (ROW.setIfInBounds K (.int .u8 (X : Int))) 5 (N, N + 1)) := marked_set w ROW 5 (N, N + 1) K _
      rw [cell_in hb, Array.getElem?_setIfInBounds, List.getElem?_map, List.getElem?_set]
      by_cases e : K = i
      · subst e
        rw [if_pos rfl, if_pos (by omega), if_pos rfl, if_pos (by omega)]
        simp; omega
      · rw [if_neg e, if_neg e, hget i hi', List.getElem?_eq_getElem (by simpa using hi')]
        simp [List.getD_eq_getElem?_getD, hi'])
    rw [List.length_set, hlen] at hcv2
    have hsz : (⟨(a0.data.toList.set K (UInt8.ofNat X)).toArray⟩ : ByteArray).size ≤ maxLen := by
      show (a0.data.toList.set K (UInt8.ofNat X)).toArray.size ≤ _
      rw [List.size_toArray, List.length_set, hlen]; unfold maxLen; omega
    have h1 := cSum ⟨(a0.data.toList.set K (UInt8.ofNat X)).toArray⟩ hsz
    have h2 := cSum a0 w0
    have hone : (((add 0 (a0.data.toList.set K (UInt8.ofNat X)) : Nat) : Int) == ((add 0 a0.data.toList : Nat) : Int)) = ((B : Int) == (X : Int)) := by
      have hs := set_split a0.data.toList K (UInt8.ofNat X) (by omega)
      have hg := get_split a0.data.toList K (by omega)
      have h := one_other 0 (a0.data.toList.take K) (UInt8.ofNat X) (a0.data.toList.getD K 0) (a0.data.toList.drop (K + 1)) (by decide)
      rw [← hs, ← hg] at h
      rw [Bool.eq_iff_iff, beq_iff_eq, beq_iff_eq]
      constructor
      · intro e
        have e2 := h.1 (by exact_mod_cast e)
        rw [← hB, ← e2]
        simp; omega
      · intro e
        have e2 : add 0 (a0.data.toList.set K (UInt8.ofNat X)) = add 0 a0.data.toList := h.2 (by
          apply UInt8.toNat_inj.1
          rw [hB]; simp; omega)
        rw [e2]
    obtain ⟨R1, hR1⟩ : ∃ R, add 0 (a0.data.toList.set K (UInt8.ofNat X)) = R := ⟨_, rfl⟩
    obtain ⟨R2, hR2⟩ : ∃ R, add 0 a0.data.toList = R := ⟨_, rfl⟩
    rw [hR1, hR2] at hone
    rw [hR2] at h2
    have H1 := Lib.hid h1; have H2 := Lib.hid h2
    have HO := Lib.hid hone; have HQ := Lib.hid hR1
    obtain ⟨S1, hS1⟩ : ∃ S1 : ByteArray, (⟨(a0.data.toList.set K (UInt8.ofNat X)).toArray⟩ : ByteArray) = S1 := ⟨_, rfl⟩
    rw [hS1] at hcv2 H1
    have HS := Lib.hid hS1
    have H1' : Hid (∀ w, Calls Try.prog 16 #[.string S1] w fun e w' => e = .returned (.int .u32 R1) ∧ Below w.heap.size w w') := by
      have := H1.out
      rw [← hS1] at this
      show ∀ w, _
      intro w
      have := this w
      rw [hS1] at this
      have e : add 0 S1.data.toList = R1 := by rw [← hS1]; exact hR1
      rwa [e] at this
    clear h1 h2 hone hR1 hR2 hS1 H1 hlen hsz
    clear hget hgk hB hN hROW
    go_enter Try.func5, Try.ntmps5
    go_wp2_with fail
    refine (H1'.out _).mono ?_; rintro e v1 ⟨rfl, hb1⟩
    have hz1 := hb1.size
    have hc1 : Below w.heap.size w v1 := Below.trans (by go_grown) (hb1.mono (by simp))
    clear hb1
    go_wp2_with fail
    refine (H2.out _).mono ?_; rintro e v2 ⟨rfl, hb2⟩
    have hc2 := hc1.trans (hb2.mono hc1.size)
    clear hb2
    have he : ((R1 : Int) == (R2 : Int)) = ((B : Int) == (X : Int)) := HO.out
    go_wp2_with fail
    refine (awake05 _).mono ?_; rintro e v3 ⟨rfl, hb3⟩
    have hc3 := hc2.trans (hb3.mono hc2.size)
    go_wp2_with fail
    go_ret
    exact ⟨rfl, hc3⟩

theorem lifted (os : Os) (started : os.Started) (H : Type) (enc : TypeId × Value → H) :
    ReturnsInHanded {} Try.checked os 5 .any (Rows.crcOneSpec.pre6 enc Try.prog Try.f5 Rows.crcOneRow.domain false) (Rows.crcOneSpec.post enc Try.prog Try.f5 false true false false) := by
  refine returnsInHanded_of_change (C := Try.checked) own started (by kernel_rfl) Try.func5
    (ChangeSpec.witness6 (enc := enc) (C := Try.checked) false ⟨#[], #[.string ByteArray.empty, .int .u16 0, .int .u8 0], []⟩ 8 (by kernel_rfl) (by kernel_rfl) (by kernel_rfl) (by kernel_rfl)) ?_
  intro W base args ds gs before hval0 hW hcnd _
  have hval : ∀ (j : Nat) t v, Try.f5.params[j]? = some t → args[j]? = some v → Value.okWide Try.prog W .any base t v := hval0
  have hW' := hW
  obtain ⟨p, q, hA0, hV, rfl, hfz, hnd⟩ := hW
  have hA : DataW.TrodAll enc Try.prog W 0 (fun _ => true) true Try.f5.params.toList args.toList ds p := hA0
  rw [Try.params5] at hA hval
  obtain ⟨v0, vs0, d0, ds0, p0, q0, hargs, rfl, rfl, h0, r0⟩ := trodAll_cons hA
  obtain ⟨v1, vs1, d1, ds1, p1, q1, rfl, rfl, rfl, h1, r1⟩ := trodAll_cons r0
  obtain ⟨v2, vs2, d2, ds2, p2, q2, rfl, rfl, rfl, h2, r2⟩ := trodAll_cons r1
  obtain ⟨rfl, rfl, rfl⟩ := trodAll_nil r2
  obtain rfl : args = #[v0, v1, v2] := by cases args; simp_all
  obtain ⟨rfl, rfl⟩ := trodVars_none hV
  have k0 := h0
  have lt0 : ∀ x ∈ p0, x.block < W.heap.size := by obtain ⟨m, hm⟩ := k0; exact DataW.trod_lt m _ _ _ hm
  obtain ⟨a0, rfl, rfl, rfl, w0⟩ := open_string Try.underlying9 (hval 0 9 v0 rfl rfl) h0
  have k1 := h1
  have lt1 : ∀ x ∈ p1, x.block < W.heap.size := by obtain ⟨m, hm⟩ := k1; exact DataW.trod_lt m _ _ _ hm
  obtain ⟨a1, rfl, rfl, rfl, w1⟩ := open_int Try.underlying28 (hval 1 28 v1 rfl rfl) h1
  have k2 := h2
  have lt2 : ∀ x ∈ p2, x.block < W.heap.size := by obtain ⟨m, hm⟩ := k2; exact DataW.trod_lt m _ _ _ hm
  obtain ⟨a2, rfl, rfl, rfl, w2⟩ := open_int Try.underlying5 (hval 2 5 v2 rfl rfl) h2
  clear hA0 hval0
  refine (walk a0 a1 a2 W w0 w1 w2).mono fun e W' ⟨he, bel⟩ => ?_
  subst he
  exact ⟨_, rfl, _, _, _, [], _, [], hW', trodAll_mk1 (shut_bool Try.underlying4 _), (trodAll_cons_mk (Below.trod laidOut (by kernel_rfl) (of_decide_eq_true (by kernel_rfl)) k0 bel lt0) (trodAll_cons_mk (Below.trod laidOut (by kernel_rfl) (of_decide_eq_true (by kernel_rfl)) k1 bel lt1) (trodAll_cons_mk (Below.trod laidOut (by kernel_rfl) (of_decide_eq_true (by kernel_rfl)) k2 bel lt2) trodAll_mk0))), rfl, bel.frame _, fun h => by cases h⟩

theorem over : Rows.crcOneRow.holds Try.pinned (OpenSpec.ofChange Rows.crcOneSpec) :=
  OpenClaim.holds_of_wide 5 Try.f5 rfl rfl rfl rfl rfl rfl rfl ⟨rfl, rfl, rfl, rfl, rfl⟩ rfl rfl rfl rfl rfl (by kernel_rfl) Try.func5 (by kernel_rfl)
    (of_decide_eq_true (by kernel_rfl)) (by unfold Func.isWrapper; first | (rw [if_pos (by decide +kernel)]; kernel_rfl) | (rw [if_neg (by decide +kernel)]; exact ⟨rfl, rfl⟩))
    (fun os started H enc _ => lifted os started H enc)

theorem proved : Rows.CrcOneSaid := over
#print axioms proved
end Go.Proofs.Ytfemcehglolnjaa.crcOne
