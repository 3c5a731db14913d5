/- It is proved that the law 'WindowPlays' of the program returns true for every input, with no condition, and leaves what was handed in as it was. The frame was written by a program; the walk is by hand. -/
import Derived.Test.YtjpmfaodkldobaaRows
import Derived.WalkKit
import Derived.ProofKit
import Derived.OpenShut
import Derived.ShutString
import Derived.ChangeOld
import Derived.Below
import Derived.Test.YtjpmfaodkldobaaBase
import Derived.Test.YtjpmfaodkldobaaB2
import Derived.Test.YtjpmfaodkldobaaW9
import Derived.Test.YtjpmfaodkldobaaB2
namespace Go.Proofs.Ytjpmfaodkldobaa.windowPlays
open Go.ChangeShapes Go.WideShapes Go.ChangeAt Go.RowKit Go.Deep
open Go.ChangeMaps (open_string shut_string)
set_option linter.unusedVariables false
set_option maxRecDepth 100000

theorem own : ownKnob Try.prog.godebug = none := by kernel_rfl
theorem laidOut : laidOutB Try.prog = true := by kernel_rfl

/-- What the walk is told of the slice of structs that came in at place 1: nil, or elements at their places. -/
def IsRows1 (w : World) (a : Option Addr) (len cap : Nat) (F0 : Nat → Int) (F1 : Nat → Int) (F2 : Nat → Int) (F3 : Nat → ByteArray) : Prop :=
  (a = none ∧ len = 0 ∧ cap = 0) ∨ ∃ x, a = some x ∧ len ≤ cap ∧ cap ≤ maxLen ∧ ∀ i, i < len → (w.cell? ((x.add (i * 4)).add 0) = some (.int .i64 (F0 i)) ∧ (Lit.int .i64 (F0 i)).wf = true) ∧ (w.cell? ((x.add (i * 4)).add 1) = some (.int .i64 (F1 i)) ∧ (Lit.int .i64 (F1 i)).wf = true) ∧ (w.cell? ((x.add (i * 4)).add 2) = some (.int .i64 (F2 i)) ∧ (Lit.int .i64 (F2 i)).wf = true) ∧ (w.cell? ((x.add (i * 4)).add 3) = some (.string (F3 i)) ∧ (F3 i).size ≤ maxLen)

theorem lastIZ (Z : Nat) (L : List UInt8) (h : 1 ≤ Z) : lastI (Z : Int) L = lastN Z L := by unfold lastI; rw [if_neg (by omega), Int.toNat_natCast]
theorem lastIZ2 (Z : Nat) (L : List UInt8) (h : 1 ≤ Z) : lastI (Z : Int) (lastN Z L) = lastN Z L := by rw [lastIZ Z _ h, lastN_lastN _ _ _ (Nat.le_refl _)]

set_option maxHeartbeats 6400000 in
theorem walk (a0 : Int) (a1 : Option Addr) (len1 cap1 : Nat) (F1_0 : Nat → Int) (F1_1 : Nat → Int) (F1_2 : Nat → Int) (F1_3 : Nat → ByteArray) (a2 : Int) (w : World) (w0 : (Lit.int .i64 a0).wf = true) (w1 : IsRows1 w a1 len1 cap1 F1_0 F1_1 F1_2 F1_3) (w2 : (Lit.int .i64 a2).wf = true) :
    Calls Try.prog 7 #[.int .i64 a0, .slice a1 len1 cap1, .int .i64 a2] w fun e w' => e = .returned (.bool true) ∧ Below w.heap.size w w' := by
  by_cases hl : 60 < len1
  · have hli : (60 : Int) < (len1 : Int) := by omega
    go_enter Try.func7, Try.ntmps7
    go_wp2_with fail
    refine (awake29 _).mono ?_; rintro e w1 ⟨rfl, hb⟩
    go_wp2_with fail
    go_ret
    exact ⟨rfl, hb⟩
  by_cases hs : 5000 < a0
  · go_enter Try.func7, Try.ntmps7
    go_wp2_with fail
    refine (awake29 _).mono ?_; rintro e w1 ⟨rfl, hb⟩
    go_wp2_with fail
    go_ret
    exact ⟨rfl, hb⟩
  by_cases h1 : a0 < 1
  · have C1 := Lib.hid (wnNewBad a0 w (.inl h1))
    go_enter Try.func7, Try.ntmps7
    go_wp2_with fail
    refine C1.out.mono ?_; rintro e w2 ⟨rfl, rfl⟩
    go_wp2_with fail
    refine (awake29 _).mono ?_; rintro e w4 ⟨rfl, hb4⟩
    go_wp2_with fail
    go_ret
    exact ⟨rfl, hb4⟩
  obtain ⟨Z, rfl⟩ : ∃ m : Nat, a0 = m := ⟨a0.toNat, by omega⟩
  have C1 := Lib.hid (wnNew (Z : Int) w (by omega))
  rw [Int.toNat_natCast] at C1
  have hZ : 1 ≤ Z ∧ Z ≤ 5000 := by omega
  have w1_ := Lib.hid w1
  clear w1
  clear w0 w2
  go_enter Try.func7, Try.ntmps7
  go_wp2_with fail
  refine C1.out.mono ?_; rintro e w3 ⟨rfl, hw3, hb3, -⟩
  have hm0 := Lib.hid (mine_new hw3 hb3)
  clear hw3 hb3 C1
  go_wp2_with fail
  go_loopw [9, 10] (fun u i wr => ∃ (k : Nat) (A : ByteArray), k ≤ len1 ∧ i = .int .i64 k ∧ u = .string A ∧ A.size ≤ 1000 * k ∧ Mine w wr Z (lastN Z A.data.toList)) (fun _ i _ => len1 - (intOf i).toNat)
  case atStart => exact ⟨0, ⟨#[]⟩, Nat.zero_le _, rfl, rfl, by simp [ByteArray.size], by have h9 := hm0.out; simpa [lastN] using h9⟩
  case round =>
    clear hm0
    obtain ⟨k, A, hk, rfl, rfl, hAs, hm⟩ := hrel
    have hb := (show Below w.heap.size w wr by obtain ⟨v, _, _, hb⟩ := hm; exact hb)
    have hZi := lastIZ Z A.data.toList (by omega)
    by_cases hlt : k < len1
    · rcases w1_.out with ⟨-, h0, -⟩ | ⟨x, rfl, hlc, hcm, hc⟩
      · omega
      obtain ⟨⟨q0, m0⟩, ⟨q1, m1⟩, ⟨q2, m2⟩, q3, m3⟩ := hc k hlt
      clear hc m0 m1 m2
      obtain ⟨K, hK⟩ : ∃ K, F1_0 k = K := ⟨_, rfl⟩
      obtain ⟨N, hN⟩ : ∃ N, F1_1 k = N := ⟨_, rfl⟩
      obtain ⟨D, hD⟩ : ∃ D, F1_2 k = D := ⟨_, rfl⟩
      obtain ⟨S, hS⟩ : ∃ S, F1_3 k = S := ⟨_, rfl⟩
      rw [hK] at q0
      rw [hN] at q1
      rw [hD] at q2
      rw [hS] at q3 m3
      clear hK hN hD hS
      have e0 : (x.add (k * 4)).add 0 = x.add (k * 4) := by simp [Addr.add]
      rw [e0] at q0
      have e1 : (x.add (k * 4)).add 1 = ⟨(x.add (k * 4)).block, (x.add (k * 4)).off + 1, none⟩ := rfl
      rw [e1] at q1
      have e2 : (x.add (k * 4)).add 2 = ⟨(x.add (k * 4)).block, (x.add (k * 4)).off + 2, none⟩ := rfl
      rw [e2] at q2
      have e3 : (x.add (k * 4)).add 3 = ⟨(x.add (k * 4)).block, (x.add (k * 4)).off + 3, none⟩ := rfl
      rw [e3] at q3
      clear e0 e1 e2 e3
      have hqb := cell_block q0
      have p0 : wr.cell? (x.add (k * 4)) = _ := (hb.cell hqb).trans q0
      have p1 : wr.cell? ⟨(x.add (k * 4)).block, (x.add (k * 4)).off + 1, none⟩ = _ := (hb.cell (p := ⟨(x.add (k * 4)).block, (x.add (k * 4)).off + 1, none⟩) hqb).trans q1
      have p2 : wr.cell? ⟨(x.add (k * 4)).block, (x.add (k * 4)).off + 2, none⟩ = _ := (hb.cell (p := ⟨(x.add (k * 4)).block, (x.add (k * 4)).off + 2, none⟩) hqb).trans q2
      have p3 : wr.cell? ⟨(x.add (k * 4)).block, (x.add (k * 4)).off + 3, none⟩ = _ := (hb.cell (p := ⟨(x.add (k * 4)).block, (x.add (k * 4)).off + 3, none⟩) hqb).trans q3
      clear q0 q1 q2 q3 hb hZi
      by_cases hSz : 1000 < S.size
      · have HM := Lib.hid hm
        clear hm
        go_wp2_with fail
        go_roundw
        case rel => exact ⟨k + 1, A, by omega, by go_num, rfl, by omega, HM.out⟩
        case measure => simp [intOf]; omega
      · have CO := Lib.hid (oneT w wr Z A S K N D hm (by omega) (by omega) hZ)
        clear hm
        go_wp2_with fail
        refine CO.out.mono ?_; rintro e w4 ⟨A', rfl, hA', hm⟩
        have hm := Lib.hid hm
        clear CO p0 p1 p2 p3
        have HZi := Lib.hid (lastIZ Z A'.data.toList (by omega))
        have hAb : A'.size ≤ 1000 * (k + 1) := by omega
        have hsl := sOf_toList
        by_cases hmin : A'.size < Z
        · have HLn := Lib.hid (show ((lastN Z A'.data.toList).length : Int) = (A'.size : Int) by rw [lastN_len]; simp; omega)
          go_wp2_with fail
          refine (mHave w _ _ _ hm.out _ HLn.out).mono ?_; rintro e w5 ⟨rfl, h3⟩
          have hm := Lib.hid h3
          clear h3
          go_wp2_with fail
          refine (mLast w _ _ _ _ hm.out _ rfl).mono ?_; rintro e w6 ⟨rfl, h3⟩
          have hm := Lib.hid h3
          clear h3
          go_wp2_with fail
          refine (lLast A' Z (by omega) _).mono ?_; rintro e w7 ⟨rfl, rfl⟩
          rw [HZi.out]
          go_wp2_with fail
          refine (lLast (sOf (lastN Z A'.data.toList)) _ (by rw [sOf_size2, lastN_len]; omega) _).mono ?_; rintro e w8 ⟨rfl, rfl⟩
          rw [sOf_list2]
          go_wp2_with fail
          go_roundw
          case rel => exact ⟨k + 1, A', by omega, by go_num, rfl, hAb, hm.out⟩
          case measure => simp [intOf]; omega
        · have HLn := Lib.hid (show ((lastN Z A'.data.toList).length : Int) = (Z : Int) by rw [lastN_len]; simp; omega)
          go_wp2_with fail
          refine (mHave w _ _ _ hm.out _ HLn.out).mono ?_; rintro e w5 ⟨rfl, h3⟩
          have hm := Lib.hid h3
          clear h3
          go_wp2_with fail
          refine (mLast w _ _ _ _ hm.out _ rfl).mono ?_; rintro e w6 ⟨rfl, h3⟩
          have hm := Lib.hid h3
          clear h3
          go_wp2_with fail
          refine (lLast A' Z (by omega) _).mono ?_; rintro e w7 ⟨rfl, rfl⟩
          rw [HZi.out]
          go_wp2_with fail
          refine (lLast (sOf (lastN Z A'.data.toList)) _ (by rw [sOf_size2, lastN_len]; omega) _).mono ?_; rintro e w8 ⟨rfl, rfl⟩
          rw [sOf_list2]
          go_wp2_with fail
          go_roundw
          case rel => exact ⟨k + 1, A', by omega, by go_num, rfl, hAb, hm.out⟩
          case measure => simp [intOf]; omega
    · obtain rfl : k = len1 := by omega
      have hm := Lib.hid hm
      have HZi := Lib.hid hZi
      have HZ2 := Lib.hid (lastIZ2 Z A.data.toList (by omega))
      clear hb hZi
      have hsl := sOf_toList
      go_wp2_with fail
      refine (mLast w _ _ _ _ hm.out _ HZ2.out).mono ?_; rintro e w5 ⟨rfl, h3⟩
      have hm := Lib.hid h3
      clear h3
      go_wp2_with fail
      refine (lLast A Z (by omega) _).mono ?_; rintro e w6 ⟨rfl, rfl⟩
      rw [HZi.out]
      go_wp2_with fail
      refine (awake29 _).mono ?_; rintro e w7 ⟨rfl, hb4⟩
      go_wp2_with fail
      go_ret
      obtain ⟨_, _, _, hb⟩ := hm.out
      exact ⟨rfl, hb.trans (hb4.mono hb.size)⟩

theorem lifted (os : Os) (started : os.Started) (H : Type) (enc : TypeId × Value → H) :
    ReturnsInHanded {} Try.checked os 7 .any (Rows.windowPlaysSpec.pre6 enc Try.prog Try.f7 Rows.windowPlaysRow.domain false) (Rows.windowPlaysSpec.post enc Try.prog Try.f7 false true false false) := by
  refine returnsInHanded_of_change (C := Try.checked) own started (by kernel_rfl) Try.func7
    (ChangeSpec.witness6 (enc := enc) (C := Try.checked) false ⟨#[], #[.int .i64 0, .slice none 0 0, .int .i64 0], []⟩ 8 (by kernel_rfl) (by kernel_rfl) (by kernel_rfl) (by kernel_rfl)) ?_
  intro W base args ds gs before hval0 hW hcnd _
  have hval : ∀ (j : Nat) t v, Try.f7.params[j]? = some t → args[j]? = some v → Value.okWide Try.prog W .any base t v := hval0
  have hW' := hW
  obtain ⟨p, q, hA0, hV, rfl, hfz, hnd⟩ := hW
  have hA : DataW.TrodAll enc Try.prog W 0 (fun _ => true) true Try.f7.params.toList args.toList ds p := hA0
  rw [Try.params7] at hA hval
  obtain ⟨v0, vs0, d0, ds0, p0, q0, hargs, rfl, rfl, h0, r0⟩ := trodAll_cons hA
  obtain ⟨v1, vs1, d1, ds1, p1, q1, rfl, rfl, rfl, h1, r1⟩ := trodAll_cons r0
  obtain ⟨v2, vs2, d2, ds2, p2, q2, rfl, rfl, rfl, h2, r2⟩ := trodAll_cons r1
  obtain ⟨rfl, rfl, rfl⟩ := trodAll_nil r2
  obtain rfl : args = #[v0, v1, v2] := by cases args; simp_all
  obtain ⟨rfl, rfl⟩ := trodVars_none hV
  have k0 := h0
  have lt0 : ∀ x ∈ p0, x.block < W.heap.size := by obtain ⟨m, hm⟩ := k0; exact DataW.trod_lt m _ _ _ hm
  obtain ⟨a0, rfl, rfl, rfl, w0⟩ := open_int Try.underlying3 (hval 0 3 v0 rfl rfl) h0
  obtain ⟨a1, len1, cap1, rfl⟩ := okWide_slice Try.underlying56 (hval 1 56 v1 rfl rfl)
  have k1 := h1
  have lt1 : ∀ x ∈ p1, x.block < W.heap.size := by obtain ⟨m, hm⟩ := k1; exact DataW.trod_lt m _ _ _ hm
  obtain ⟨F1_0, F1_1, F1_2, F1_3, w1⟩ : ∃ F0 F1 F2 F3, IsRows1 W a1 len1 cap1 F0 F1 F2 F3 := by
    obtain ⟨fuel, hf⟩ := h1
    rcases open_rows Try.underlying56 Try.underlying61 (by kernel_rfl) (by kernel_rfl) hf with hcs | ⟨x, l, c, hcs, hl, hm, hr⟩
    · simp [Value.cells] at hcs
      obtain ⟨rfl, rfl, rfl⟩ := hcs
      exact ⟨fun _ => 0, fun _ => 0, fun _ => 0, fun _ => ByteArray.empty, .inl ⟨rfl, rfl, rfl⟩⟩
    · simp [Value.cells] at hcs
      obtain ⟨rfl, rfl, rfl⟩ := hcs
      obtain ⟨G0, g0⟩ := hr.int 0 _ rfl Try.underlying3
      obtain ⟨G1, g1⟩ := hr.int 1 _ rfl Try.underlying3
      obtain ⟨G2, g2⟩ := hr.int 2 _ rfl Try.underlying3
      obtain ⟨G3, g3⟩ := hr.string 3 _ rfl Try.underlying9
      exact ⟨G0, G1, G2, G3, .inr ⟨_, rfl, hl, hm, fun i hi => ⟨g0 i hi, g1 i hi, g2 i hi, g3 i hi⟩⟩⟩
  have k2 := h2
  have lt2 : ∀ x ∈ p2, x.block < W.heap.size := by obtain ⟨m, hm⟩ := k2; exact DataW.trod_lt m _ _ _ hm
  obtain ⟨a2, rfl, rfl, rfl, w2⟩ := open_int Try.underlying3 (hval 2 3 v2 rfl rfl) h2
  clear hA0 hval0
  refine (walk a0 a1 len1 cap1 F1_0 F1_1 F1_2 F1_3 a2 W w0 w1 w2).mono fun e W' ⟨he, bel⟩ => ?_
  subst he
  exact ⟨_, rfl, _, _, _, [], _, [], hW', trodAll_mk1 (shut_bool Try.underlying4 _), (trodAll_cons_mk (Below.trod laidOut (by kernel_rfl) (of_decide_eq_true (by kernel_rfl)) k0 bel lt0) (trodAll_cons_mk (Below.trod laidOut (by kernel_rfl) (of_decide_eq_true (by kernel_rfl)) k1 bel lt1) (trodAll_cons_mk (Below.trod laidOut (by kernel_rfl) (of_decide_eq_true (by kernel_rfl)) k2 bel lt2) trodAll_mk0))), rfl, bel.frame _, fun h => by cases h⟩

theorem over : Rows.windowPlaysRow.holds Try.pinned (OpenSpec.ofChange Rows.windowPlaysSpec) :=
  OpenClaim.holds_of_wide 7 Try.f7 rfl rfl rfl rfl rfl rfl rfl ⟨rfl, rfl, rfl, rfl, rfl⟩ rfl rfl rfl rfl rfl (by kernel_rfl) Try.func7 (by kernel_rfl)
    (of_decide_eq_true (by kernel_rfl)) (by unfold Func.isWrapper; first | (rw [if_pos (by decide +kernel)]; kernel_rfl) | (rw [if_neg (by decide +kernel)]; exact ⟨rfl, rfl⟩))
    (fun os started H enc _ => lifted os started H enc)

theorem proved : Rows.WindowPlaysSaid := over
#print axioms proved
end Go.Proofs.Ytjpmfaodkldobaa.windowPlays
