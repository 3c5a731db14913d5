/- It is proved that the law 'WeightBetween' of the program returns true for every input, with no condition, and leaves what was handed in as it was. The frame was written by a program; the walk is by hand. -/
import Derived.Test.YtflggmbgfdglcaaRows
import Derived.WalkKit
import Derived.ProofKit
import Derived.OpenShut
import Derived.ShutString
import Derived.ChangeOld
import Derived.Below
import Derived.Test.YtflggmbgfdglcaaBase
import Derived.Test.YtflggmbgfdglcaaB4
import Derived.Test.YtflggmbgfdglcaaAO11
namespace Go.Proofs.Ytflggmbgfdglcaa.weightBetween
open Go.ChangeShapes Go.WideShapes Go.ChangeAt Go.RowKit Go.Deep
open Go.ChangeMaps (open_string shut_string)
set_option linter.unusedVariables false
set_option maxRecDepth 100000

theorem own : ownKnob Try.prog.godebug = none := by kernel_rfl
theorem laidOut : laidOutB Try.prog = true := by kernel_rfl

/-- What the walk is told of a slice of integers that came in: nil, or a row of 'cap' cells that hold the numbers zs, each fitting its kind. -/
def IsRow (k : IntKind) (w : World) (a : Option Addr) (len cap : Nat) (zs : List Int) : Prop :=
  (a = none ∧ len = 0 ∧ cap = 0 ∧ zs = []) ∨
  ∃ x, a = some x ∧ len ≤ cap ∧ cap ≤ maxLen ∧ zs.length = cap ∧ (∀ i, i < zs.length → w.cell? (x.add i) = some (.int k (zs.getD i 0))) ∧ ∀ n ∈ zs, (Lit.int k n).wf = true

open Ieee
theorem ints_of {w : World} {a : Option Addr} {len cap : Nat} {zs : List Int} (h : IsRow .i64 w a len cap zs) : ∃ l : List Int, l.length = len ∧ len ≤ maxLen ∧ (l.length ≤ 70368744177664 → IsInts w a l) := by
  rcases h with ⟨rfl, rfl, rfl, rfl⟩ | ⟨x, rfl, hlc, hcm, hz, hc, -⟩
  · exact ⟨[], rfl, Nat.zero_le _, fun _ => ⟨by simp, .inl rfl⟩⟩
  · have e : (zs.take len).length = len := by rw [List.length_take]; omega
    refine ⟨zs.take len, e, by omega, fun h11 => ⟨by omega, .inr ⟨x, rfl, fun i hi => ?_⟩⟩⟩
    rw [e] at hi
    rw [hc i (by omega)]
    simp [List.getD, hi]
theorem mixL_zero {old now : List Int} (ho : fineW old = true) (hn : fineW now = true) (hl : old.length = now.length) : mixL old now (clampC 0) = old := by
  rw [show clampC 0 = 0 by decide +kernel]
  refine List.ext_getElem (by rw [mixL_len]) fun i h1 h2 => ?_
  have e1 := mixL_at old now 0 i h2
  have g1 := fineW_at ho i h2
  have g2 := fineW_at hn i (by omega)
  obtain ⟨p, -, -, -, -, -, -, q⟩ := mul_ok (now.getD i 0 - old.getD i 0) (by omega) 0 zero_frac
  rw [q _ _ zeroF_read, List.getD_eq_getElem?_getD, List.getElem?_eq_getElem h1, List.getD_eq_getElem?_getD, List.getElem?_eq_getElem h2] at e1
  simpa using e1
theorem mixL_one {old now : List Int} (ho : fineW old = true) (hn : fineW now = true) (hl : old.length = now.length) : mixL old now (clampC 4607182418800017408) = now := by
  rw [show clampC 4607182418800017408 = 4607182418800017408 by decide +kernel]
  refine List.ext_getElem (by rw [mixL_len]; exact hl) fun i h1 h2 => ?_
  have e1 := mixL_at old now 4607182418800017408 i (by omega)
  have g1 := fineW_at ho i (by omega)
  have g2 := fineW_at hn i h2
  obtain ⟨p, -, -, -, -, -, q, -⟩ := mul_ok (now.getD i 0 - old.getD i 0) (by omega) 4607182418800017408 one_frac
  rw [q _ _ oneF_read (by decide) (by decide), List.getD_eq_getElem?_getD, List.getElem?_eq_getElem h1] at e1
  simp only [Option.getD_some] at e1
  rw [e1]
  have : now.getD i 0 = now[i] := by rw [List.getD_eq_getElem?_getD, List.getElem?_eq_getElem h2]; rfl
  omega
theorem mixL_between {old now : List Int} {x : Nat} (h : isN x = false) (ho : fineW old = true) (hn : fineW now = true) (hl : old.length = now.length) (i : Nat) (hi : i < old.length) :
    (old.getD i 0 ≤ now.getD i 0 → old.getD i 0 ≤ (mixL old now (clampC x)).getD i 0 ∧ (mixL old now (clampC x)).getD i 0 ≤ now.getD i 0) ∧ (now.getD i 0 < old.getD i 0 → now.getD i 0 ≤ (mixL old now (clampC x)).getD i 0 ∧ (mixL old now (clampC x)).getD i 0 ≤ old.getD i 0) := by
  have e1 := mixL_at old now (clampC x) i hi
  have g1 := fineW_at ho i hi
  have g2 := fineW_at hn i (by omega)
  obtain ⟨p, -, -, q1, q2, q3, -, -⟩ := mul_ok (now.getD i 0 - old.getD i 0) (by omega) (clampC x) (frac_or x h).2.1
  rw [e1]
  refine ⟨fun hc => ?_, fun hc => ?_⟩
  · have := q2 (by omega)
    omega
  · have := q3 (by omega)
    omega
set_option maxHeartbeats 3200000 in
theorem between_err (a b : Option Addr) (la lb ca cb : Nat) (x : Nat) (w : World) (hla : la ≤ 300) (hlb : lb ≤ 300) (E : Int) (hE : E ≠ 0)
    (C : Calls Try.prog 15 #[.slice a la ca, .slice b lb cb, .float .f64 x] w fun e w' => e = .returned (.tuple #[.slice none 0 0, .int .i64 E]) ∧ Below w.heap.size w w') :
    Calls Try.prog 5 #[.slice a la ca, .slice b lb cb, .float .f64 x] w fun e w' => e = .returned (.bool true) ∧ Below w.heap.size w w' := by
  have CC := Lib.hid C
  have hEb : (E != 0) = true := by rw [bne_iff_ne]; exact hE
  clear C hE
  go_enter Try.func5, Try.ntmps5
  go_wp2_with fail
  refine CC.out.mono ?_; rintro e w1 ⟨rfl, hb1⟩
  go_wp2_with fail
  refine (awake14 _).mono ?_; rintro e w6 ⟨rfl, hb6⟩
  go_wp2_with fail
  go_ret
  exact ⟨rfl, hb1.trans (hb6.mono hb1.size)⟩
set_option maxHeartbeats 6400000 in
theorem between_ok (a b : Option Addr) (ca cb : Nat) (old now : List Int) (x : Nat) (w : World) (h1 : old.length ≤ 300) (ha : IsInts w a old) (hb : IsInts w b now) (hN : isN x = false) (hl : old.length = now.length) (ho : fineW old = true) (hn : fineW now = true) :
    Calls Try.prog 5 #[.slice a old.length ca, .slice b now.length cb, .float .f64 x] w fun e w' => e = .returned (.bool true) ∧ Below w.heap.size w w' := by
  have CX := Lib.hid (cMixOk a b ca cb old now x hN hl h1 w ha hb ho hn)
  have C0 := Lib.hid (fun W (hW : Below w.heap.size w W) => by
    have := cMixOk a b ca cb old now 0 (by decide +kernel) hl h1 W (ha.kept hW) (hb.kept hW) ho hn
    rw [mixL_zero ho hn hl] at this
    exact this)
  have C1 := Lib.hid (fun W (hW : Below w.heap.size w W) => by
    have := cMixOk a b ca cb old now 4607182418800017408 (by decide +kernel) hl h1 W (ha.kept hW) (hb.kept hW) ho hn
    rw [mixL_one ho hn hl] at this
    exact this)
  have HBT := Lib.hid (fun i hi => mixL_between hN ho hn hl i hi)
  have HML := Lib.hid (mixL_len old now (clampC x))
  obtain ⟨ml, hml⟩ : ∃ ml, mixL old now (clampC x) = ml := ⟨_, rfl⟩
  rw [hml] at CX HBT HML
  obtain ⟨LN, hLN⟩ : ∃ LN, now.length = LN := ⟨_, rfl⟩
  have HLN := Lib.hid hLN
  have HLL := Lib.hid (show old.length = LN by omega)
  rw [hLN] at CX C0 C1 ⊢
  have HA := Lib.hid ha
  have HB := Lib.hid hb
  have hLN3 : LN ≤ 300 := by omega
  clear ha hb hN hl ho hn hml hLN
  go_enter Try.func5, Try.ntmps5
  go_wp2_with fail
  refine CX.out.mono ?_; rintro e w1 ⟨v1, rfl, hv1, hb1⟩
  have HB1 := Lib.hid hb1
  have HV1 := Lib.hid hv1
  clear hb1 hv1 CX
  go_wp2_with fail
  refine (C0.out _ HB1.out).mono ?_; rintro e w2 ⟨v2, rfl, hv2, hb2⟩
  have HB2 := Lib.hid (HB1.out.trans (hb2.mono HB1.out.size))
  have HV1 := Lib.hid (HV1.out.kept hb2)
  have HV2 := Lib.hid hv2
  clear hb2 hv2 C0 HB1
  go_wp2_with fail
  refine (C1.out _ HB2.out).mono ?_; rintro e w3 ⟨v3, rfl, hv3, hb3⟩
  have HB3 := Lib.hid (HB2.out.trans (hb3.mono HB2.out.size))
  have HV1 := Lib.hid (HV1.out.kept hb3)
  have HV2 := Lib.hid (HV2.out.kept hb3)
  have HV3 := Lib.hid hv3
  clear hb3 hv3 C1 HB2
  obtain ⟨am, cm, rfl, hm⟩ := HV1.out
  have HM := Lib.hid hm
  have HA3 := Lib.hid (HA.out.kept HB3.out)
  have HBB3 := Lib.hid (HB.out.kept HB3.out)
  rw [HML.out]
  clear hm HV1
  go_wp2_with fail
  go_loopw [13] (fun iv wr => ∃ k : Nat, k ≤ old.length ∧ iv = .int .i64 k ∧ ∃ n, wr = w3.drewN n) (fun iv _ => old.length - (intOf iv).toNat)
  case atStart => exact ⟨0, Nat.zero_le _, rfl, 0, rfl⟩
  case round =>
    obtain ⟨k, hk, rfl, n, rfl⟩ := hrel
    by_cases hlt : k < old.length
    · obtain ⟨xm, rfl, -, cxm⟩ := HM.out.at k (by rw [HML.out]; exact hlt)
      obtain ⟨xa, rfl, -, cxa⟩ := HA3.out.at k hlt
      obtain ⟨xb, rfl, -, cxb⟩ := HBB3.out.at k (by rw [HLN.out, ← HLL.out]; exact hlt)
      have cm1 : (w3.drewN n).cell? (xm.add k) = _ := cxm k (by rw [HML.out]; exact hlt)
      have ca1 : (w3.drewN n).cell? (xa.add k) = _ := cxa k hlt
      have cb1 : (w3.drewN n).cell? (xb.add k) = _ := cxb k (by rw [HLN.out, ← HLL.out]; exact hlt)
      obtain ⟨b1, b2⟩ := HBT.out k hlt
      obtain ⟨O, hO⟩ : ∃ O, old.getD k 0 = O := ⟨_, rfl⟩
      obtain ⟨N, hN⟩ : ∃ N, now.getD k 0 = N := ⟨_, rfl⟩
      obtain ⟨M, hM⟩ : ∃ M, ml.getD k 0 = M := ⟨_, rfl⟩
      rw [hM] at cm1
      rw [hO] at ca1
      rw [hN] at cb1
      rw [hO, hN, hM] at b1 b2
      have hki : (k : Int) < (old.length : Int) := by omega
      have hki2 : (k : Int) < (LN : Int) := by rw [← HLL.out]; exact hki
      have hk0 : (0 : Int) ≤ (k : Int) := by omega
      have HS0 := Lib.hid (show (w3.drewN n).cell? (xm.add k) = some (.int .i64 M) ∧ (w3.drewN n).cell? (xa.add k) = some (.int .i64 O) ∧ (w3.drewN n).cell? (xb.add k) = some (.int .i64 N) from ⟨cm1, ca1, cb1⟩)
      clear cxm cxa cxb hO hN hM
      by_cases hc : N < O
      · obtain ⟨p1, p2⟩ := b2 hc
        have q1 : ¬ M < N := by omega
        have q2 : ¬ O < M := by omega
        have q3 : ¬ O < N := by omega
        have d1 : decide (M < N) = false := decide_eq_false q1
        have d2 : decide (O < M) = false := decide_eq_false q2
        clear b1 b2 p1 p2
        go_wp2_with fail
        go_region_held3 (fun V => V.cell? (xm.add k) = some (.int .i64 M) ∧ V.cell? (xa.add k) = some (.int .i64 O) ∧ V.cell? (xb.add k) = some (.int .i64 N)) (first | exact HS0.out | fail) (fail)
        go_wp2_with fail
        go_roundw
        case rel => exact ⟨k + 1, by omega, by go_num, by first | exact ⟨_, rfl⟩ | exact ⟨_, World.drewN_drewN _ _ _⟩⟩
        case measure => simp [intOf]; omega
      · obtain ⟨p1, p2⟩ := b1 (by omega)
        have q1 : ¬ M < O := by omega
        have q2 : ¬ N < M := by omega
        have d1 : decide (M < O) = false := decide_eq_false q1
        have d2 : decide (N < M) = false := decide_eq_false q2
        have hif1 : (if N < O then N else O) = O := if_neg hc
        have hif2 : (if O < N then N else O) = N := by
          by_cases h : O < N
          · rw [if_pos h]
          · rw [if_neg h]; omega
        clear hc
        clear b1 b2 p1 p2
        go_wp2_with fail
        go_region_held3 (fun V => V.cell? (xm.add k) = some (.int .i64 M) ∧ V.cell? (xa.add k) = some (.int .i64 O) ∧ V.cell? (xb.add k) = some (.int .i64 N)) (first | exact HS0.out | fail) (fail)
        go_wp2_with fail
        go_roundw
        case rel => exact ⟨k + 1, by omega, by go_num, by first | exact ⟨_, rfl⟩ | exact ⟨_, World.drewN_drewN _ _ _⟩⟩
        case measure => simp [intOf]; omega
    · obtain rfl : k = old.length := by omega
      have hki : ¬ (old.length : Int) < (old.length : Int) := by omega
      obtain ⟨w5, hw5⟩ : ∃ w5, w3.drewN n = w5 := ⟨_, rfl⟩
      have HB5 := Lib.hid (show Below w.heap.size w w5 by rw [← hw5]; exact below_dn HB3.out n)
      have HV2 := Lib.hid (show IsL w5 v2 old by rw [← hw5]; exact HV2.out)
      have HV3 := Lib.hid (show IsL w5 v3 now by rw [← hw5]; exact HV3.out)
      have HA5 := Lib.hid (show IsInts w5 a old by rw [← hw5]; exact HA3.out)
      have HN5 := Lib.hid (show IsInts w5 b now by rw [← hw5]; exact HBB3.out)
      rw [hw5]
      clear hw5 hlt hk
      go_wp2_with fail
      refine (intsL HV2.out ⟨_, _, rfl, HA5.out⟩ true (by simp)).mono ?_; rintro e w6 ⟨rfl, n6, rfl⟩
      go_wp2_with fail
      refine (intsL (HV3.out.drewN n6) ⟨_, cb, by rw [HLN.out], HN5.out.drewN n6⟩ true (by simp)).mono ?_; rintro e w7 ⟨rfl, n7, rfl⟩
      have HB7 := Lib.hid (below_dn (below_dn HB5.out n6) n7)
      go_wp2_with fail
      refine (awake14 _).mono ?_; rintro e w8 ⟨rfl, hb8⟩
      go_wp2_with fail
      go_ret
      exact ⟨rfl, (show Below w.heap.size w (w5.drewN (n6 + n7)) from below_dn HB5.out _).trans (hb8.mono (show w.heap.size ≤ w5.heap.size from HB5.out.size))⟩
theorem nil_below {f : Nat} {args : Array Value} {E : Int} {W : World} (h : Calls Try.prog f args W fun e w' => e = .returned (.tuple #[.slice none 0 0, .int .i64 E]) ∧ w' = W) : Calls Try.prog f args W fun e w' => e = .returned (.tuple #[.slice none 0 0, .int .i64 E]) ∧ Below W.heap.size W w' :=
  h.mono (by rintro e w' ⟨rfl, rfl⟩; exact ⟨rfl, Below.refl _ _⟩)
theorem between_all (a b : Option Addr) (ca cb : Nat) (old now : List Int) (x : Nat) (w : World) (h1 : old.length ≤ 300) (h2 : now.length ≤ 300) (ha : IsInts w a old) (hb : IsInts w b now) :
    Calls Try.prog 5 #[.slice a old.length ca, .slice b now.length cb, .float .f64 x] w fun e w' => e = .returned (.bool true) ∧ Below w.heap.size w w' := by
  by_cases hN : isN x = true
  · exact between_err a b _ _ ca cb x w h1 h2 8 (by decide) (nil_below (cMixN a b _ _ ca cb x hN w))
  · rw [Bool.not_eq_true] at hN
    by_cases hl : old.length = now.length
    · by_cases hf : (fineW old && fineW now) = true
      · rw [Bool.and_eq_true] at hf
        exact between_ok a b ca cb old now x w h1 ha hb hN hl hf.1 hf.2
      · rw [Bool.not_eq_true] at hf
        exact between_err a b _ _ ca cb x w h1 h2 2 (by decide) (cMixF a b ca cb old now x hN hl h1 w ha hb hf)
    · exact between_err a b _ _ ca cb x w h1 h2 1 (by decide) (nil_below (cMixL a b _ _ ca cb x hN hl w))

set_option maxHeartbeats 3200000 in
theorem walk (a0 : Option Addr) (len0 cap0 : Nat) (z0 : List Int) (a1 : Option Addr) (len1 cap1 : Nat) (z1 : List Int) (a2 : Nat) (w : World) (w0 : IsRow .i64 w a0 len0 cap0 z0) (w1 : IsRow .i64 w a1 len1 cap1 z1) (w2 : (Lit.float .f64 a2).wf = true) :
    Calls Try.prog 5 #[.slice a0 len0 cap0, .slice a1 len1 cap1, .float .f64 a2] w fun e w' => e = .returned (.bool true) ∧ Below w.heap.size w w' := by
  obtain ⟨old, hl, hmax, h0⟩ := ints_of w0
  obtain ⟨now, hm, hmax2, h1⟩ := ints_of w1
  subst hl
  subst hm
  unfold maxLen at hmax hmax2
  by_cases hlong : 300 < old.length
  · go_enter Try.func5, Try.ntmps5
    go_wp2_with fail
    refine (awake14 _).mono ?_; rintro e w1 ⟨rfl, hb⟩
    go_wp2_with fail
    go_ret
    exact ⟨rfl, hb⟩
  · by_cases hlong2 : 300 < now.length
    · go_enter Try.func5, Try.ntmps5
      go_wp2_with fail
      refine (awake14 _).mono ?_; rintro e w1 ⟨rfl, hb⟩
      go_wp2_with fail
      go_ret
      exact ⟨rfl, hb⟩
    · exact between_all a0 a1 cap0 cap1 old now a2 w (by omega) (by omega) (h0 (by omega)) (h1 (by omega))

theorem lifted (os : Os) (started : os.Started) (H : Type) (enc : TypeId × Value → H) :
    ReturnsInHanded {} Try.checked os 5 .any (Rows.weightBetweenSpec.pre6 enc Try.prog Try.f5 Rows.weightBetweenRow.domain false) (Rows.weightBetweenSpec.post enc Try.prog Try.f5 false true false false) := by
  refine returnsInHanded_of_change (C := Try.checked) own started (by kernel_rfl) Try.func5
    (ChangeSpec.witness6 (enc := enc) (C := Try.checked) false ⟨#[], #[.slice none 0 0, .slice none 0 0, .float .f64 0], []⟩ 8 (by kernel_rfl) (by kernel_rfl) (by kernel_rfl) (by kernel_rfl)) ?_
  intro W base args ds gs before hval0 hW hcnd _
  have hval : ∀ (j : Nat) t v, Try.f5.params[j]? = some t → args[j]? = some v → Value.okWide Try.prog W .any base t v := hval0
  have hW' := hW
  obtain ⟨p, q, hA0, hV, rfl, hfz, hnd⟩ := hW
  have hA : DataW.TrodAll enc Try.prog W 0 (fun _ => true) true Try.f5.params.toList args.toList ds p := hA0
  rw [Try.params5] at hA hval
  obtain ⟨v0, vs0, d0, ds0, p0, q0, hargs, rfl, rfl, h0, r0⟩ := trodAll_cons hA
  obtain ⟨v1, vs1, d1, ds1, p1, q1, rfl, rfl, rfl, h1, r1⟩ := trodAll_cons r0
  obtain ⟨v2, vs2, d2, ds2, p2, q2, rfl, rfl, rfl, h2, r2⟩ := trodAll_cons r1
  obtain ⟨rfl, rfl, rfl⟩ := trodAll_nil r2
  obtain rfl : args = #[v0, v1, v2] := by cases args; simp_all
  obtain ⟨rfl, rfl⟩ := trodVars_none hV
  obtain ⟨a0, len0, cap0, rfl⟩ := okWide_slice Try.underlying30 (hval 0 30 v0 rfl rfl)
  have k0 := h0
  have lt0 : ∀ x ∈ p0, x.block < W.heap.size := by obtain ⟨m, hm⟩ := k0; exact DataW.trod_lt m _ _ _ hm
  obtain ⟨z0, w0⟩ : ∃ zs, IsRow .i64 W a0 len0 cap0 zs := by
    obtain ⟨fuel, hf⟩ := h0
    rcases open_ints Try.underlying30 Try.underlying3 (by kernel_rfl) hf with ⟨hcs, _⟩ | ⟨x, l, c, zs, hcs, _, hl, hm, hz, _, hcell, hwz⟩
    · simp [Value.cells] at hcs
      obtain ⟨rfl, rfl, rfl⟩ := hcs
      exact ⟨[], .inl ⟨rfl, rfl, rfl, rfl⟩⟩
    · simp [Value.cells] at hcs
      obtain ⟨rfl, rfl, rfl⟩ := hcs
      exact ⟨zs, .inr ⟨_, rfl, hl, hm, by simpa using hz, hcell, hwz⟩⟩
  obtain ⟨a1, len1, cap1, rfl⟩ := okWide_slice Try.underlying30 (hval 1 30 v1 rfl rfl)
  have k1 := h1
  have lt1 : ∀ x ∈ p1, x.block < W.heap.size := by obtain ⟨m, hm⟩ := k1; exact DataW.trod_lt m _ _ _ hm
  obtain ⟨z1, w1⟩ : ∃ zs, IsRow .i64 W a1 len1 cap1 zs := by
    obtain ⟨fuel, hf⟩ := h1
    rcases open_ints Try.underlying30 Try.underlying3 (by kernel_rfl) hf with ⟨hcs, _⟩ | ⟨x, l, c, zs, hcs, _, hl, hm, hz, _, hcell, hwz⟩
    · simp [Value.cells] at hcs
      obtain ⟨rfl, rfl, rfl⟩ := hcs
      exact ⟨[], .inl ⟨rfl, rfl, rfl, rfl⟩⟩
    · simp [Value.cells] at hcs
      obtain ⟨rfl, rfl, rfl⟩ := hcs
      exact ⟨zs, .inr ⟨_, rfl, hl, hm, by simpa using hz, hcell, hwz⟩⟩
  have k2 := h2
  have lt2 : ∀ x ∈ p2, x.block < W.heap.size := by obtain ⟨m, hm⟩ := k2; exact DataW.trod_lt m _ _ _ hm
  obtain ⟨a2, rfl, rfl, rfl, w2⟩ := open_float Try.underlying27 (hval 2 27 v2 rfl rfl) h2
  clear hA0 hval0
  refine (walk a0 len0 cap0 z0 a1 len1 cap1 z1 a2 W w0 w1 w2).mono fun e W' ⟨he, bel⟩ => ?_
  subst he
  exact ⟨_, rfl, _, _, _, [], _, [], hW', trodAll_mk1 (shut_bool Try.underlying4 _), (trodAll_cons_mk (Below.trod laidOut (by kernel_rfl) (of_decide_eq_true (by kernel_rfl)) k0 bel lt0) (trodAll_cons_mk (Below.trod laidOut (by kernel_rfl) (of_decide_eq_true (by kernel_rfl)) k1 bel lt1) (trodAll_cons_mk (Below.trod laidOut (by kernel_rfl) (of_decide_eq_true (by kernel_rfl)) k2 bel lt2) trodAll_mk0))), rfl, bel.frame _, fun h => by cases h⟩

theorem over : Rows.weightBetweenRow.holds Try.pinned (OpenSpec.ofChange Rows.weightBetweenSpec) :=
  OpenClaim.holds_of_wide 5 Try.f5 rfl rfl rfl rfl rfl rfl rfl ⟨rfl, rfl, rfl, rfl, rfl⟩ rfl rfl rfl rfl rfl (by kernel_rfl) Try.func5 (by kernel_rfl)
    (of_decide_eq_true (by kernel_rfl)) (by unfold Func.isWrapper; first | (rw [if_pos (by decide +kernel)]; kernel_rfl) | (rw [if_neg (by decide +kernel)]; exact ⟨rfl, rfl⟩))
    (fun os started H enc _ => lifted os started H enc)

theorem proved : Rows.WeightBetweenSaid := over
#print axioms proved
end Go.Proofs.Ytflggmbgfdglcaa.weightBetween
