import Derived.Test.YtopiiickeojpmaaRows
import Derived.WalkKit
import Derived.ProofKit
import Derived.OpenShut
import Derived.ShutString
import Derived.ChangeOld
import Derived.Below
import Derived.Test.YtopiiickeojpmaaJ01
import Derived.Test.YtopiiickeojpmaaJ24
/- It is proved that the law 'LensPuts' of the program returns true for every input, with no condition, and leaves what was handed in as it was. The frame was written by a program; the walk is by hand. -/
namespace Go.Proofs.Ytopiiickeojpmaa.lensPuts
open Go.ChangeShapes Go.WideShapes Go.ChangeAt Go.RowKit Go.Deep
open Go.ChangeMaps (open_string shut_string)
set_option linter.unusedVariables false
set_option maxRecDepth 100000

theorem own : ownKnob Try.prog.godebug = none := by kernel_rfl
theorem laidOut : laidOutB Try.prog = true := by kernel_rfl

/-- What the walk is told of a slice of integers that came in: nil, or a row of 'cap' cells that hold the numbers zs, each fitting its kind. -/
def IsRow (k : IntKind) (w : World) (a : Option Addr) (len cap : Nat) (zs : List Int) : Prop :=
  (a = none ∧ len = 0 ∧ cap = 0 ∧ zs = []) ∨
  ∃ x, a = some x ∧ len ≤ cap ∧ cap ≤ maxLen ∧ zs.length = cap ∧ (∀ i, i < zs.length → w.cell? (x.add i) = some (.int k (zs.getD i 0))) ∧ ∀ n ∈ zs, (Lit.int k n).wf = true

open Bits hiding packF pack_length
open RunsMath KraftMath CanonMath TurnMath Pm
theorem ints_of {w : World} {a : Option Addr} {len cap : Nat} {zs : List Int} (h : IsRow .i64 w a len cap zs) : ∃ l : List Int, l.length = len ∧ len ≤ maxLen ∧ (l.length ≤ 70368744177664 → IsInts w a l) := by
  rcases h with ⟨rfl, rfl, rfl, rfl⟩ | ⟨x, rfl, hlc, hcm, hz, hc, -⟩
  · exact ⟨[], rfl, Nat.zero_le _, fun _ => ⟨by simp, .inl rfl⟩⟩
  · have e : (zs.take len).length = len := by rw [List.length_take]; omega
    refine ⟨zs.take len, e, by omega, fun h11 => ⟨by omega, .inr ⟨x, rfl, fun i hi => ?_⟩⟩⟩
    rw [e] at hi
    rw [hc i (by omega)]
    simp [List.getD, hi]
theorem okB_next {l : List Int} {i : Nat} (h : i < l.length) : okB (l.take (i + 1)) = (okB (l.take i) && (decide (0 ≤ l.getD i 0) && decide (l.getD i 0 ≤ 15))) := by
  rw [List.take_succ_eq_append_getElem h, List.getD_eq_getElem?_getD, List.getElem?_eq_getElem h]
  unfold okB
  rw [List.all_append]
  simp
theorem size_bad (v : Value) (E : Int) (hE : E ≠ 0) (w : World) (C : ∀ W, Below w.heap.size w W → Calls Try.prog 23 #[v] W fun e w' => e = .returned (.int .i64 E) ∧ w' = W) :
    Calls Try.prog 10 #[v] w fun e w' => e = .returned (.int .i64 0) ∧ Below w.heap.size w w' := by
  have CN := Lib.hid (wNew w)
  have CP := Lib.hid (fun (W : World) (g : Nat) (h : Below w.heap.size w W) => cPutBad ⟨g, 0, none⟩ v E hE W (C W h))
  have CL := Lib.hid (fun W g B bits (h : IsWriter W g B bits) => wLen W g B bits h)
  clear hE C
  go_enter Try.func10, Try.ntmps10
  go_wp2_with fail
  refine CN.out.mono ?_; rintro e w1 ⟨rfl, hw, hbw, hz, hf⟩
  have HW := Lib.hid (show Wr w.heap.size w w1 w.heap.size w.heap.size [] from ⟨hw, hbw, hf⟩)
  have C := Lib.hid (CP.out w1 w.heap.size hbw)
  clear hw hbw hz hf CN CP
  go_wp2_with fail
  refine C.out.mono ?_; rintro e w2 ⟨rfl, h2⟩; rw [h2]; clear h2 w2
  go_wp2_with fail
  refine (CL.out _ _ _ _ HW.out.wr).mono ?_; rintro e w3 ⟨rfl, k, rfl⟩
  go_wp2_with fail
  go_ret
  exact ⟨rfl, below_dn HW.out.old k⟩
def badL (l : List Int) : Int := if okB l then 0 else 2
set_option maxHeartbeats 6400000 in
theorem lensputs_bad (a0 : Option Addr) (c0 : Nat) (l : List Int) (U : Nat) (E : Int) (hE : chkL l = E) (h0 : E ≠ 0) (hU : U < 256) (hl : l.length ≤ 1100) (w : World) (hi : IsInts w a0 l) :
    Calls Try.prog 3 #[.slice a0 l.length c0, .int .u8 U] w fun e w' => e = .returned (.bool true) ∧ Below w.heap.size w w' := by
  have CK : ∀ W, Below w.heap.size w W → Calls Try.prog 23 #[.slice a0 l.length c0] W fun e w' => e = .returned (.int .i64 E) ∧ w' = W := by
    intro W hb
    by_cases h : l.length = 0 ∨ 1024 < l.length
    · have : E = 5 := by rw [← hE]; unfold chkL; rw [if_pos h]
      rw [this]
      exact cCheckLim a0 c0 l.length h (by omega) W
    · exact cCheckIn a0 c0 l (by omega) (by omega) W (hi.kept hb) E hE
  have CN := Lib.hid (wNew w)
  obtain ⟨n, hn⟩ : ∃ n, U % 8 = n := ⟨_, rfl⟩
  have hn8 : n < 8 := by omega
  have hni : (U : Int) % 8 = (n : Int) := by omega
  have CPW := Lib.hid (fun W g B (h : IsWriter W g B []) => show Calls Try.prog 7 #[.pointer (some ⟨g, 0, none⟩), .int .u64 0, .int .i64 n] W fun e w' => e = .returned (.int .i64 0) ∧ PenW W w' g B (bitsOf 0 n) from
    (wPut W g B [] 0 n h (by omega) (Nat.two_pow_pos n) (by simp; omega)).mono fun e w' h => ⟨h.1, h.2.1, h.2.2.1, h.2.2.2⟩)
  have CP := Lib.hid (fun (W : World) (g : Nat) (h : Below w.heap.size w W) => cPutBad ⟨g, 0, none⟩ (.slice a0 l.length c0) E h0 W (CK W h))
  have CL := Lib.hid (fun W g B (h : IsWriter W g B (bitsOf 0 n)) => show Calls Try.prog 9 #[.pointer (some ⟨g, 0, none⟩)] W fun e w' => e = .returned (.int .i64 n) ∧ ∃ k, w' = W.drewN k from by
    have := wLen W g B _ h
    rw [bitsOf_length] at this
    exact this)
  have CS := Lib.hid (fun (W : World) (hb : Below w.heap.size w W) => size_bad (.slice a0 l.length c0) E h0 W (fun W' h => CK W' (hb.trans (h.mono hb.size))))
  have HI := Lib.hid hi
  have HE := Lib.hid hE
  have hlen : (l.length : Int) ≤ 1100 := by omega
  clear CK hi hE hn
  go_enter Try.func3, Try.ntmps3
  go_wp2_with fail
  refine CN.out.mono ?_; rintro e w1 ⟨rfl, hw, hbw, hz, hf⟩
  have HW := Lib.hid (show Wr w.heap.size w w1 w.heap.size w.heap.size [] from ⟨hw, hbw, hf⟩)
  have hsz := hbw.size
  clear hw hbw hz hf CN
  go_wp2_with fail
  refine (CPW.out w1 _ _ HW.out.wr).mono ?_; rintro e w2 ⟨rfl, hp2⟩
  have HW2 := Lib.hid (HW.out.pen hp2 hsz)
  have hsz2 : w.heap.size ≤ w2.heap.size := Nat.le_trans hsz hp2.2.1.size
  have C3 := Lib.hid (CP.out w2 w.heap.size HW2.out.old)
  clear hp2 HW hsz CPW CP
  go_wp2_with fail
  refine C3.out.mono ?_; rintro e w3 ⟨rfl, h3⟩; rw [h3]; clear h3 w3 C3
  go_wp2_with fail
  go_loopw [8, 9] (fun bv iv wr => ∃ i : Nat, iv = .int .i64 i ∧ i ≤ l.length ∧ bv = .int .i64 (badL (l.take i)) ∧ Hid (∃ k, wr = w2.drewN k)) (fun _ iv _ => l.length - (intOf iv).toNat)
  case atStart => exact ⟨0, rfl, Nat.zero_le _, rfl, Lib.hid ⟨0, rfl⟩⟩
  case round =>
    obtain ⟨i, rfl, hi, rfl, hwr⟩ := hrel
    by_cases hlt : i < l.length
    · obtain ⟨k, hk⟩ := hwr.out
      have hbr : Below w2.heap.size w2 wr := by rw [hk]; exact below_dn (Below.refl _ _) k
      obtain ⟨x, hx, -, cx⟩ := (HI.out.kept (HW2.out.old.trans (hbr.mono hsz2))).at i hlt
      subst hx
      have c0 := cx i hlt
      have hnx := okB_next hlt
      obtain ⟨V, hV⟩ : ∃ V, l.getD i 0 = V := ⟨_, rfl⟩
      rw [hV] at c0 hnx
      have HNX := Lib.hid hnx
      have hii : (i : Int) < (l.length : Int) := by omega
      have hi0 : (0 : Int) ≤ (i : Int) := by omega
      clear cx hnx hV hk hbr
      by_cases hv : V < 0 ∨ 15 < V
      · have hz : badL (l.take (i + 1)) = 2 := by
          unfold badL
          rw [HNX.out, if_neg]
          simp only [Bool.and_eq_true, decide_eq_true_eq]
          omega
        have HZ := Lib.hid hz
        by_cases hv0 : V < 0
        · clear hv
          go_wp2_with fail
          go_roundw
          case rel => exact ⟨i + 1, by go_num, by omega, by rw [HZ.out], hwr⟩
          case measure => simp [intOf]; omega
        · have hv1 : 15 < V := by omega
          clear hv
          go_wp2_with fail
          go_roundw
          case rel => exact ⟨i + 1, by go_num, by omega, by rw [HZ.out], hwr⟩
          case measure => simp [intOf]; omega
      · have hz : badL (l.take (i + 1)) = badL (l.take i) := by
          unfold badL
          rw [HNX.out, decide_eq_true (show 0 ≤ V by omega), decide_eq_true (show V ≤ 15 by omega)]
          simp
        have HZ := Lib.hid hz
        have hv0 : ¬ V < 0 := by omega
        have hv1 : ¬ 15 < V := by omega
        clear hv
        go_wp2_with fail
        go_roundw
        case rel => exact ⟨i + 1, by go_num, by omega, by rw [HZ.out], hwr⟩
        case measure => simp [intOf]; omega
    · obtain rfl : i = l.length := by omega
      have hii : ¬ (l.length : Int) < (l.length : Int) := by omega
      obtain ⟨k, hk⟩ := hwr.out
      have HWr := Lib.hid (show Wr w.heap.size w wr w.heap.size w.heap.size (bitsOf 0 n) by rw [hk]; exact HW2.out.below (below_dn (Below.refl _ _) k) hsz2)
      have hszr := HWr.out.old.size
      rw [List.take_length]
      clear hwr hk HW2 hsz2
      have hcs := HE.out
      unfold chkL at hcs
      by_cases hout : l.length = 0 ∨ 1024 < l.length
      · rw [if_pos hout] at hcs
        subst hcs
        obtain ⟨BV, hBV⟩ : ∃ BV, badL l = BV := ⟨_, rfl⟩
        rw [hBV]
        clear hBV HE HI h0
        rcases hout with hz0 | hz1
        · have hl0 : ((l.length : Int) == 0) = true := by rw [beq_iff_eq]; omega
          rw [hz0] at CS
          go_wp2_with fail
          refine (CL.out _ _ _ HWr.out.wr).mono ?_; rintro e w4 ⟨rfl, k4, h4⟩
          have HB4 := Lib.hid (show Below w.heap.size w w4 by rw [h4]; exact below_dn HWr.out.old k4)
          have hsz4 := HB4.out.size
          clear h4 HWr hszr CL
          go_wp2_with fail
          refine (CS.out w4 HB4.out).mono ?_; rintro e w5 ⟨rfl, hb5⟩
          have HB5 := Lib.hid (HB4.out.trans (hb5.mono hsz4))
          have hsz5 := HB5.out.size
          clear hb5 HB4 hsz4 CS
          go_wp2_with fail
          refine (awake13 _).mono ?_; rintro e w6 ⟨rfl, hb6⟩
          have HB6 := Lib.hid (HB5.out.trans (hb6.mono hsz5))
          clear hb6 HB5 hsz5
          go_wp2_with fail
          go_ret
          exact ⟨rfl, HB6.out⟩
        · have hl0 : ((l.length : Int) == 0) = false := by rw [beq_eq_false_iff_ne]; omega
          have hl1 : (1024 : Int) < (l.length : Int) := by omega
          go_wp2_with fail
          refine (CL.out _ _ _ HWr.out.wr).mono ?_; rintro e w4 ⟨rfl, k4, h4⟩
          have HB4 := Lib.hid (show Below w.heap.size w w4 by rw [h4]; exact below_dn HWr.out.old k4)
          have hsz4 := HB4.out.size
          clear h4 HWr hszr CL
          go_wp2_with fail
          refine (CS.out w4 HB4.out).mono ?_; rintro e w5 ⟨rfl, hb5⟩
          have HB5 := Lib.hid (HB4.out.trans (hb5.mono hsz4))
          have hsz5 := HB5.out.size
          clear hb5 HB4 hsz4 CS
          go_wp2_with fail
          refine (awake13 _).mono ?_; rintro e w6 ⟨rfl, hb6⟩
          have HB6 := Lib.hid (HB5.out.trans (hb6.mono hsz5))
          clear hb6 HB5 hsz5
          go_wp2_with fail
          go_ret
          exact ⟨rfl, HB6.out⟩
      · rw [if_neg hout] at hcs
        have hok : okB l = false := by
          rcases h : okB l with _ | _
          · rfl
          · rw [h] at hcs; simp at hcs; exact absurd hcs.symm h0
        rw [if_pos hok] at hcs
        subst hcs
        have hbv : badL l = 2 := by unfold badL; rw [hok]; rfl
        rw [hbv]
        have hl0 : ((l.length : Int) == 0) = false := by rw [beq_eq_false_iff_ne]; omega
        have hl1 : ¬ (1024 : Int) < (l.length : Int) := by omega
        clear hok hbv HE HI h0 hout
        go_wp2_with fail
        refine (CL.out _ _ _ HWr.out.wr).mono ?_; rintro e w4 ⟨rfl, k4, h4⟩
        have HB4 := Lib.hid (show Below w.heap.size w w4 by rw [h4]; exact below_dn HWr.out.old k4)
        have hsz4 := HB4.out.size
        clear h4 HWr hszr CL
        go_wp2_with fail
        refine (CS.out w4 HB4.out).mono ?_; rintro e w5 ⟨rfl, hb5⟩
        have HB5 := Lib.hid (HB4.out.trans (hb5.mono hsz4))
        have hsz5 := HB5.out.size
        clear hb5 HB4 hsz4 CS
        go_wp2_with fail
        refine (awake13 _).mono ?_; rintro e w6 ⟨rfl, hb6⟩
        have HB6 := Lib.hid (HB5.out.trans (hb6.mono hsz5))
        clear hb6 HB5 hsz5
        go_wp2_with fail
        go_ret
        exact ⟨rfl, HB6.out⟩

set_option maxHeartbeats 3200000 in
theorem walk (a0 : Option Addr) (len0 cap0 : Nat) (z0 : List Int) (a1 : Int) (w : World) (w0 : IsRow .i64 w a0 len0 cap0 z0) (w1 : (Lit.int .u8 a1).wf = true) :
    Calls Try.prog 3 #[.slice a0 len0 cap0, .int .u8 a1] w fun e w' => e = .returned (.bool true) ∧ Below w.heap.size w w' := by
  obtain ⟨l, hl, hmax, h0⟩ := ints_of w0
  clear w0
  subst hl
  unfold maxLen at hmax
  obtain ⟨b0, b1⟩ := bounds_u8 w1
  clear w1
  obtain ⟨U, rfl⟩ : ∃ U : Nat, a1 = (U : Int) := ⟨a1.toNat, by omega⟩
  by_cases hlong : 1100 < l.length
  · go_enter Try.func3, Try.ntmps3
    go_wp2_with fail
    refine (awake13 _).mono ?_; rintro e w1 ⟨rfl, hb⟩
    go_wp2_with fail
    go_ret
    exact ⟨rfl, hb⟩
  · have hi := h0 (by omega)
    by_cases hE : chkL l = 0
    · have hc := hE
      unfold chkL at hc
      by_cases hout : l.length = 0 ∨ 1024 < l.length
      · rw [if_pos hout] at hc
        exact absurd hc (by decide)
      · rw [if_neg hout] at hc
        have hok : okB l = true := by
          rcases h : okB l with _ | _
          · rw [h] at hc; simp at hc
          · rfl
        exact lensputs_ok a0 cap0 l U (fun e => hout (.inl (by rw [e]; rfl))) hok (by omega) (by omega) w hi
    · exact lensputs_bad a0 cap0 l U (chkL l) rfl hE (by omega) (by omega) w hi

theorem lifted (os : Os) (started : os.Started) (H : Type) (enc : TypeId × Value → H) :
    ReturnsInHanded {} Try.checked os 3 .any (Rows.lensPutsSpec.pre6 enc Try.prog Try.f3 Rows.lensPutsRow.domain false) (Rows.lensPutsSpec.post enc Try.prog Try.f3 false true false false) := by
  refine returnsInHanded_of_change (C := Try.checked) own started (by kernel_rfl) Try.func3
    (ChangeSpec.witness6 (enc := enc) (C := Try.checked) false ⟨#[], #[.slice none 0 0, .int .u8 0], []⟩ 8 (by kernel_rfl) (by kernel_rfl) (by kernel_rfl) (by kernel_rfl)) ?_
  intro W base args ds gs before hval0 hW hcnd _
  have hval : ∀ (j : Nat) t v, Try.f3.params[j]? = some t → args[j]? = some v → Value.okWide Try.prog W .any base t v := hval0
  have hW' := hW
  obtain ⟨p, q, hA0, hV, rfl, hfz, hnd⟩ := hW
  have hA : DataW.TrodAll enc Try.prog W 0 (fun _ => true) true Try.f3.params.toList args.toList ds p := hA0
  rw [Try.params3] at hA hval
  obtain ⟨v0, vs0, d0, ds0, p0, q0, hargs, rfl, rfl, h0, r0⟩ := trodAll_cons hA
  obtain ⟨v1, vs1, d1, ds1, p1, q1, rfl, rfl, rfl, h1, r1⟩ := trodAll_cons r0
  obtain ⟨rfl, rfl, rfl⟩ := trodAll_nil r1
  obtain rfl : args = #[v0, v1] := by cases args; simp_all
  obtain ⟨rfl, rfl⟩ := trodVars_none hV
  obtain ⟨a0, len0, cap0, rfl⟩ := okWide_slice Try.underlying22 (hval 0 22 v0 rfl rfl)
  have k0 := h0
  have lt0 : ∀ x ∈ p0, x.block < W.heap.size := by obtain ⟨m, hm⟩ := k0; exact DataW.trod_lt m _ _ _ hm
  obtain ⟨z0, w0⟩ : ∃ zs, IsRow .i64 W a0 len0 cap0 zs := by
    obtain ⟨fuel, hf⟩ := h0
    rcases open_ints Try.underlying22 Try.underlying3 (by kernel_rfl) hf with ⟨hcs, _⟩ | ⟨x, l, c, zs, hcs, _, hl, hm, hz, _, hcell, hwz⟩
    · simp [Value.cells] at hcs
      obtain ⟨rfl, rfl, rfl⟩ := hcs
      exact ⟨[], .inl ⟨rfl, rfl, rfl, rfl⟩⟩
    · simp [Value.cells] at hcs
      obtain ⟨rfl, rfl, rfl⟩ := hcs
      exact ⟨zs, .inr ⟨_, rfl, hl, hm, by simpa using hz, hcell, hwz⟩⟩
  have k1 := h1
  have lt1 : ∀ x ∈ p1, x.block < W.heap.size := by obtain ⟨m, hm⟩ := k1; exact DataW.trod_lt m _ _ _ hm
  obtain ⟨a1, rfl, rfl, rfl, w1⟩ := open_int Try.underlying5 (hval 1 5 v1 rfl rfl) h1
  clear hA0 hval0
  refine (walk a0 len0 cap0 z0 a1 W w0 w1).mono fun e W' ⟨he, bel⟩ => ?_
  subst he
  exact ⟨_, rfl, _, _, _, [], _, [], hW', trodAll_mk1 (shut_bool Try.underlying4 _), (trodAll_cons_mk (Below.trod laidOut (by kernel_rfl) (of_decide_eq_true (by kernel_rfl)) k0 bel lt0) (trodAll_cons_mk (Below.trod laidOut (by kernel_rfl) (of_decide_eq_true (by kernel_rfl)) k1 bel lt1) trodAll_mk0)), rfl, bel.frame _, fun h => by cases h⟩

theorem over : Rows.lensPutsRow.holds Try.pinned (OpenSpec.ofChange Rows.lensPutsSpec) :=
  OpenClaim.holds_of_wide 3 Try.f3 rfl rfl rfl rfl rfl rfl rfl ⟨rfl, rfl, rfl, rfl, rfl⟩ rfl rfl rfl rfl rfl (by kernel_rfl) Try.func3 (by kernel_rfl)
    (of_decide_eq_true (by kernel_rfl)) (by unfold Func.isWrapper; first | (rw [if_pos (by decide +kernel)]; kernel_rfl) | (rw [if_neg (by decide +kernel)]; exact ⟨rfl, rfl⟩))
    (fun os started H enc _ => lifted os started H enc)

theorem proved : Rows.LensPutsSaid := over
#print axioms proved
end Go.Proofs.Ytopiiickeojpmaa.lensPuts
