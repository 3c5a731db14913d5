/- It is proved that the law 'TansDecodes' of the program returns true for every input, with no condition, and leaves what was handed in as it was. The frame was written by a program; the walk is by hand. -/
import Derived.Test.YtplopddlpoffoaaRows
import Derived.WalkKit
import Derived.ProofKit
import Derived.OpenShut
import Derived.ShutString
import Derived.ChangeOld
import Derived.Below
import Derived.Test.YtplopddlpoffoaaBase
import Derived.Test.YtplopddlpoffoaaAM17
import Derived.Test.YtplopddlpoffoaaB2
namespace Go.Proofs.Ytplopddlpoffoaa.tansDecodes
open Go.ChangeShapes Go.WideShapes Go.ChangeAt Go.RowKit Go.Deep
open Go.ChangeMaps (open_string shut_string)
set_option linter.unusedVariables false
set_option maxRecDepth 100000

theorem own : ownKnob Try.prog.godebug = none := by kernel_rfl
theorem laidOut : laidOutB Try.prog = true := by kernel_rfl

/-- What the walk is told of a slice of integers that came in: nil, or a row of 'cap' cells that hold the numbers zs, each fitting its kind. -/
def IsRow (k : IntKind) (w : World) (a : Option Addr) (len cap : Nat) (zs : List Int) : Prop :=
  (a = none ∧ len = 0 ∧ cap = 0 ∧ zs = []) ∨
  ∃ x, a = some x ∧ len ≤ cap ∧ cap ≤ maxLen ∧ zs.length = cap ∧ (∀ i, i < zs.length → w.cell? (x.add i) = some (.int k (zs.getD i 0))) ∧ ∀ n ∈ zs, (Lit.int k n).wf = true

theorem ints_of {w : World} {a : Option Addr} {len cap : Nat} {zs : List Int} (h : IsRow .i64 w a len cap zs) : ∃ l : List Int, l.length = len ∧ len ≤ maxLen ∧ (l.length ≤ 70368744177664 → IsInts w a l) := by
  rcases h with ⟨rfl, rfl, rfl, rfl⟩ | ⟨x, rfl, hlc, hcm, hz, hc, -⟩
  · exact ⟨[], rfl, Nat.zero_le _, fun _ => ⟨by simp, .inl rfl⟩⟩
  · have e : (zs.take len).length = len := by rw [List.length_take]; omega
    refine ⟨zs.take len, e, by omega, fun h11 => ⟨by omega, .inr ⟨x, rfl, fun i hi => ?_⟩⟩⟩
    rw [e] at hi
    rw [hc i (by omega)]
    simp [List.getD, hi]
theorem decS_len (sy : Nat → Int) (nu : Nat → Nat) (m q : Nat) (bits : List Bool) : ∀ (k t x : Nat) (acc : List Int) (o : List Int) (t2 x2 : Nat), decS sy nu m q bits k t x acc = some (o, t2, x2) → o.length = acc.length + k
  | 0, t, x, acc, o, t2, x2, h => by simp only [decS] at h; injection h with h; injection h with h1 h2; subst h1; simp
  | k + 1, t, x, acc, o, t2, x2, h => by
    simp only [decS] at h
    split at h
    · cases h
    · have := decS_len sy nu m q bits k _ _ _ o t2 x2 h
      rw [this]; simp; omega
theorem decV_len (l : List Int) (m q : Nat) (bits : List Bool) (many : Nat) : (decV l m q bits many).1.length ≤ many := by
  unfold decV
  split
  · simp
  · cases h : decS (fun x => (sprL l q).getD x 0) (fun x => (numL (sprL l q) l x).toNat) m q bits many m (Bits.peek bits m) [] with
    | none => simp [decF]
    | some p =>
      obtain ⟨o, t, x⟩ := p
      have := decS_len _ _ _ _ _ _ _ _ _ _ _ _ h
      simp only [decF]
      split
      · simp at this; simp only; omega
      · simp
def DecP (out : List Int) (E : Int) (W : World) (e : Ending) (w' : World) : Prop := ∃ v, e = .returned (.tuple #[v, .int .i64 E]) ∧ IsL w' v out ∧ Below W.heap.size W w'
theorem both (s : ByteArray) (hs : s.size ≤ 300) (many : Int) (hmany : many ≤ 400 ∨ 1048576 < many) (a : Option Addr) (c : Nat) (l : List Int) (n : Int) : ∃ out E, (∀ W, IsInts W a l → Calls Try.prog 15 #[.string s, .int .i64 many, .slice a l.length c, .int .i64 n] W (DecP out E W)) ∧ (∀ W, IsInts W a l → Calls Try.prog 16 #[.string s, .int .i64 many, .slice a l.length c, .int .i64 n] W (DecP out E W)) := by
  by_cases hE : (sprV l n).2 = 0
  · by_cases hm : many < 0 ∨ 1048576 < many
    · obtain ⟨m, rfl, hm5, hm12, hv, -⟩ := sprV_ok hE
      refine ⟨[], 1, fun W h => (cDecMany s many a c l m (2 ^ m) W h hm5 hm12 rfl hv hm).mono ?_, fun W h => (dDecMany s many a c l m W h hE hm).mono ?_⟩
      · rintro e w' ⟨rfl, hb⟩; exact ⟨_, rfl, IsL.nil _, hb⟩
      · rintro e w' ⟨rfl, hb⟩; exact ⟨_, rfl, IsL.nil _, hb⟩
    · obtain ⟨m, rfl, hm5, hm12, hv, -⟩ := sprV_ok hE
      obtain ⟨mn, rfl⟩ : ∃ mn : Nat, many = mn := ⟨many.toNat, by omega⟩
      obtain ⟨⟨out, E⟩, hD⟩ : ∃ r, decV l m (2 ^ m) (Bits.spread s.data.toList) mn = r := ⟨_, rfl⟩
      have hlen := decV_len l m (2 ^ m) (Bits.spread s.data.toList) mn
      rw [hD] at hlen
      simp only at hlen
      refine ⟨out, E, fun W h => (cDec s (by omega) mn a c l m (2 ^ m) W h hm5 hm12 rfl hv (by omega) out E hD).mono ?_, fun W h => (dDec s (by omega) mn a c l m (2 ^ m) W h hm5 hm12 rfl hv (by omega) out E hD).mono ?_⟩
      · rintro e w' ⟨v, rfl, ho, hb⟩; exact ⟨v, rfl, ho.isL (by omega), hb⟩
      · rintro e w' ⟨v, B, rfl, ho, hb⟩; exact ⟨v, rfl, ho.isL (by omega), hb⟩
  · refine ⟨[], (sprV l n).2, fun W h => (cDecBad s many a c l n W h hE).mono ?_, fun W h => (dDecBad s many a c l n W h hE).mono ?_⟩
    · rintro e w' ⟨rfl, hb⟩; exact ⟨_, rfl, IsL.nil _, hb⟩
    · rintro e w' ⟨rfl, hb⟩; exact ⟨_, rfl, IsL.nil _, hb⟩
set_option maxHeartbeats 3200000 in
theorem dec_walk (s : ByteArray) (hs : s.size ≤ 300) (many : Int) (hmany : many ≤ 400 ∨ 1048576 < many) (a : Option Addr) (c : Nat) (l : List Int) (n : Int) (hl : l.length ≤ 300) (w : World) (h : IsInts w a l) :
    Calls Try.prog 4 #[.string s, .int .i64 many, .agg #[.slice a l.length c, .int .i64 n]] w fun e w' => e = .returned (.bool true) ∧ Below w.heap.size w w' := by
  obtain ⟨out, E, hC, hD⟩ := both s hs many hmany a c l n
  have CC := Lib.hid hC
  have CD := Lib.hid hD
  have HI := Lib.hid h
  have hd1 : decide ((300 : Int) < (s.size : Int)) = false := by simp; omega
  have hd2 : decide ((300 : Int) < (l.length : Int)) = false := by simp; omega
  have hd3 : (decide ((400 : Int) < many) && decide (many ≤ 1048576)) = false := by
    rcases hmany with h | h
    · have : decide ((400 : Int) < many) = false := by simp; omega
      rw [this]; rfl
    · have : decide (many ≤ 1048576) = false := by simp; omega
      rw [this, Bool.and_false]
  have hAL : Below w.heap.size w (w.alloc (.cells #[.slice a l.length c, .int .i64 n] 32)) := (Below.refl _ _).alloc (Nat.le_refl _) _
  have HX := Lib.hid (heap_alloc_new w (.cells #[.slice a l.length c, .int .i64 n] 32))
  clear hC hD h
  by_cases h4 : (400 : Int) < many
  · have hd4 : decide ((400 : Int) < many) = true := by simpa using h4
    have hd5 : decide (many ≤ 1048576) = false := by rw [hd4] at hd3; simpa using hd3
    clear hd3 hmany
    go_enter Try.func4, Try.ntmps4
    go_wp2_with fail
    obtain ⟨gb, hgb⟩ : ∃ gb, w.heap.size = gb := ⟨_, rfl⟩
    obtain ⟨w1, hw1⟩ : ∃ w1, w.alloc (.cells #[.slice a l.length c, .int .i64 n] 32) = w1 := ⟨_, rfl⟩
    rw [hw1] at hAL HX ⊢
    rw [hgb] at HX ⊢
    have HB := Lib.hid (show Below w.heap.size w w1 from hAL)
    have HI1 := Lib.hid (HI.out.kept hAL)
    clear hw1 hAL
    have HGB := Lib.hid hgb
    clear hgb
    refine (CC.out _ HI1.out).mono ?_; rintro e w2 ⟨v2, rfl, hv2, hb2⟩
    have HV2 := Lib.hid hv2
    have HI2 := Lib.hid (HI1.out.kept hb2)
    have HX2 := Lib.hid ((hb2.block gb (block_lt HX.out)).trans HX.out)
    have HB := Lib.hid (HB.out.trans (hb2.mono HB.out.size))
    clear hv2 hb2 CC
    have x0 := cell_lit HX2.out 0 _ rfl
    have x1 := cell_lit HX2.out 1 _ rfl
    go_wp2_with fail
    refine (CD.out _ HI2.out).mono ?_; rintro e w3 ⟨v3, rfl, hv3, hb3⟩
    have HV3 := Lib.hid hv3
    have HV2 := Lib.hid (HV2.out.kept hb3)
    have HB := Lib.hid (HB.out.trans (hb3.mono HB.out.size))
    clear hv3 hb3 CD
    go_wp2_with fail
    refine (intsL HV2.out HV3.out true (by simp)).mono ?_; rintro e w5 ⟨rfl, k5, rfl⟩
    have HB := Lib.hid (below_dn HB.out k5)
    obtain ⟨w5, hw5⟩ : ∃ w5, w3.drewN k5 = w5 := ⟨_, rfl⟩
    rw [hw5] at HB ⊢
    clear hw5
    go_wp2_with fail
    refine (awake59 _).mono ?_; rintro e w7 ⟨rfl, hb7⟩
    go_wp2_with fail
    go_ret
    exact ⟨rfl, HB.out.trans (hb7.mono HB.out.size)⟩
  · have hd4 : decide ((400 : Int) < many) = false := by simpa using h4
    clear hd3 hmany
    go_enter Try.func4, Try.ntmps4
    go_wp2_with fail
    obtain ⟨gb, hgb⟩ : ∃ gb, w.heap.size = gb := ⟨_, rfl⟩
    obtain ⟨w1, hw1⟩ : ∃ w1, w.alloc (.cells #[.slice a l.length c, .int .i64 n] 32) = w1 := ⟨_, rfl⟩
    rw [hw1] at hAL HX ⊢
    rw [hgb] at HX ⊢
    have HB := Lib.hid (show Below w.heap.size w w1 from hAL)
    have HI1 := Lib.hid (HI.out.kept hAL)
    clear hw1 hAL
    have HGB := Lib.hid hgb
    clear hgb
    refine (CC.out _ HI1.out).mono ?_; rintro e w2 ⟨v2, rfl, hv2, hb2⟩
    have HV2 := Lib.hid hv2
    have HI2 := Lib.hid (HI1.out.kept hb2)
    have HX2 := Lib.hid ((hb2.block gb (block_lt HX.out)).trans HX.out)
    have HB := Lib.hid (HB.out.trans (hb2.mono HB.out.size))
    clear hv2 hb2 CC
    have x0 := cell_lit HX2.out 0 _ rfl
    have x1 := cell_lit HX2.out 1 _ rfl
    go_wp2_with fail
    refine (CD.out _ HI2.out).mono ?_; rintro e w3 ⟨v3, rfl, hv3, hb3⟩
    have HV3 := Lib.hid hv3
    have HV2 := Lib.hid (HV2.out.kept hb3)
    have HB := Lib.hid (HB.out.trans (hb3.mono HB.out.size))
    clear hv3 hb3 CD
    go_wp2_with fail
    refine (intsL HV2.out HV3.out true (by simp)).mono ?_; rintro e w5 ⟨rfl, k5, rfl⟩
    have HB := Lib.hid (below_dn HB.out k5)
    obtain ⟨w5, hw5⟩ : ∃ w5, w3.drewN k5 = w5 := ⟨_, rfl⟩
    rw [hw5] at HB ⊢
    clear hw5
    go_wp2_with fail
    refine (awake59 _).mono ?_; rintro e w7 ⟨rfl, hb7⟩
    go_wp2_with fail
    go_ret
    exact ⟨rfl, HB.out.trans (hb7.mono HB.out.size)⟩

set_option maxHeartbeats 3200000 in
theorem walk (a0 : ByteArray) (a1 : Int) (s2_0 : Option Addr) (len2_0 cap2_0 : Nat) (z2_0 : List Int) (b2_1 : Int) (w : World) (w0 : a0.size ≤ maxLen) (w1 : (Lit.int .i64 a1).wf = true) (w2_0 : IsRow .i64 w s2_0 len2_0 cap2_0 z2_0) (w2_1 : (Lit.int .i64 b2_1).wf = true) :
    Calls Try.prog 4 #[.string a0, .int .i64 a1, .agg #[.slice s2_0 len2_0 cap2_0, .int .i64 b2_1]] w fun e w' => e = .returned (.bool true) ∧ Below w.heap.size w w' := by
  obtain ⟨l, hl, hmax, h0⟩ := ints_of w2_0
  subst hl
  unfold maxLen at hmax w0
  by_cases hlong : 300 < a0.size
  · have hd : decide ((300 : Int) < (a0.size : Int)) = true := by simp; omega
    go_enter Try.func4, Try.ntmps4
    go_wp2_with fail
    refine (awake59 _).mono ?_; rintro e w1 ⟨rfl, hb⟩
    go_wp2_with fail
    go_ret
    exact ⟨rfl, ((Below.refl _ _).alloc (Nat.le_refl _) _).trans (hb.mono (by simp))⟩
  · have hd : decide ((300 : Int) < (a0.size : Int)) = false := by simp; omega
    by_cases hlong2 : 300 < l.length
    · have hd2 : decide ((300 : Int) < (l.length : Int)) = true := by simp; omega
      go_enter Try.func4, Try.ntmps4
      go_wp2_with fail
      refine (awake59 _).mono ?_; rintro e w1 ⟨rfl, hb⟩
      go_wp2_with fail
      go_ret
      exact ⟨rfl, ((Below.refl _ _).alloc (Nat.le_refl _) _).trans (hb.mono (by simp))⟩
    · have hd2 : decide ((300 : Int) < (l.length : Int)) = false := by simp; omega
      by_cases hm : 400 < a1 ∧ a1 ≤ 1048576
      · have hd3 : decide (400 < a1) = true := by simp; omega
        have hd4 : decide (a1 ≤ 1048576) = true := by simp; omega
        go_enter Try.func4, Try.ntmps4
        go_wp2_with fail
        refine (awake59 _).mono ?_; rintro e w1 ⟨rfl, hb⟩
        go_wp2_with fail
        go_ret
        exact ⟨rfl, ((Below.refl _ _).alloc (Nat.le_refl _) _).trans (hb.mono (by simp))⟩
      · clear hd hd2
        exact dec_walk a0 (by omega) a1 (by omega) s2_0 cap2_0 l b2_1 (by omega) w (h0 (by omega))

theorem lifted (os : Os) (started : os.Started) (H : Type) (enc : TypeId × Value → H) :
    ReturnsInHanded {} Try.checked os 4 .any (Rows.tansDecodesSpec.pre6 enc Try.prog Try.f4 Rows.tansDecodesRow.domain false) (Rows.tansDecodesSpec.post enc Try.prog Try.f4 false true false false) := by
  refine returnsInHanded_of_change (C := Try.checked) own started (by kernel_rfl) Try.func4
    (ChangeSpec.witness6 (enc := enc) (C := Try.checked) false ⟨#[], #[.string ByteArray.empty, .int .i64 0, .agg #[.slice none 0 0, .int .i64 0]], []⟩ 8 (by kernel_rfl) (by kernel_rfl) (by kernel_rfl) (by kernel_rfl)) ?_
  intro W base args ds gs before hval0 hW hcnd _
  have hval : ∀ (j : Nat) t v, Try.f4.params[j]? = some t → args[j]? = some v → Value.okWide Try.prog W .any base t v := hval0
  have hW' := hW
  obtain ⟨p, q, hA0, hV, rfl, hfz, hnd⟩ := hW
  have hA : DataW.TrodAll enc Try.prog W 0 (fun _ => true) true Try.f4.params.toList args.toList ds p := hA0
  rw [Try.params4] at hA hval
  obtain ⟨v0, vs0, d0, ds0, p0, q0, hargs, rfl, rfl, h0, r0⟩ := trodAll_cons hA
  obtain ⟨v1, vs1, d1, ds1, p1, q1, rfl, rfl, rfl, h1, r1⟩ := trodAll_cons r0
  obtain ⟨v2, vs2, d2, ds2, p2, q2, rfl, rfl, rfl, h2, r2⟩ := trodAll_cons r1
  obtain ⟨rfl, rfl, rfl⟩ := trodAll_nil r2
  obtain rfl : args = #[v0, v1, v2] := by cases args; simp_all
  obtain ⟨rfl, rfl⟩ := trodVars_none hV
  have k0 := h0
  have lt0 : ∀ x ∈ p0, x.block < W.heap.size := by obtain ⟨m, hm⟩ := k0; exact DataW.trod_lt m _ _ _ hm
  obtain ⟨a0, rfl, rfl, rfl, w0⟩ := open_string Try.underlying9 (hval 0 9 v0 rfl rfl) h0
  have k1 := h1
  have lt1 : ∀ x ∈ p1, x.block < W.heap.size := by obtain ⟨m, hm⟩ := k1; exact DataW.trod_lt m _ _ _ hm
  obtain ⟨a1, rfl, rfl, rfl, w1⟩ := open_int Try.underlying3 (hval 1 3 v1 rfl rfl) h1
  have k2 := h2
  have lt2 : ∀ x ∈ p2, x.block < W.heap.size := by obtain ⟨m, hm⟩ := k2; exact DataW.trod_lt m _ _ _ hm
  obtain ⟨l, rfl, hl, hcs⟩ := agg_struct Try.underlying32 (by kernel_rfl) (by kernel_rfl) (hval 2 32 v2 rfl rfl) h2
  obtain ⟨x0, x1, rfl⟩ := len2 l hl
  obtain ⟨n0, c, y, hc, hy⟩ := hcs 0 _ rfl
  simp only [List.getElem?_cons_zero, Option.some.injEq] at hc
  subst hc
  obtain ⟨s2_0, len2_0, cap2_0, z2_0, hc, w2_0⟩ : ∃ (a : Option Addr) (len cap : Nat) (zs : List Int), [x0] = [.slice a len cap] ∧ IsRow .i64 W a len cap zs := by
    rcases open_ints Try.underlying22 Try.underlying3 (by kernel_rfl) hy with ⟨hcs, _⟩ | ⟨x, l, c, zs, hcs, _, hl, hm, hz, _, hcell, hwz⟩
    · exact ⟨none, 0, 0, [], hcs, .inl ⟨rfl, rfl, rfl, rfl⟩⟩
    · exact ⟨_, _, _, zs, hcs, .inr ⟨_, rfl, hl, hm, by simpa using hz, hcell, hwz⟩⟩
  simp only [List.cons.injEq, and_true] at hc
  subst hc
  clear hy
  obtain ⟨n1, c, y, hc, hy⟩ := hcs 1 _ rfl
  simp only [List.getElem?_cons_zero, List.getElem?_cons_succ, Option.some.injEq] at hc
  subst hc
  obtain ⟨b2_1, hc, -, w2_1⟩ := DataW.trod_int Try.underlying3 hy
  simp only [List.cons.injEq, and_true] at hc
  subst hc
  clear hy
  clear hl hcs
  clear hA0 hval0
  refine (walk a0 a1 s2_0 len2_0 cap2_0 z2_0 b2_1 W w0 w1 w2_0 w2_1).mono fun e W' ⟨he, bel⟩ => ?_
  subst he
  exact ⟨_, rfl, _, _, _, [], _, [], hW', trodAll_mk1 (shut_bool Try.underlying4 _), (trodAll_cons_mk (Below.trod laidOut (by kernel_rfl) (of_decide_eq_true (by kernel_rfl)) k0 bel lt0) (trodAll_cons_mk (Below.trod laidOut (by kernel_rfl) (of_decide_eq_true (by kernel_rfl)) k1 bel lt1) (trodAll_cons_mk (Below.trod laidOut (by kernel_rfl) (of_decide_eq_true (by kernel_rfl)) k2 bel lt2) trodAll_mk0))), rfl, bel.frame _, fun h => by cases h⟩

theorem over : Rows.tansDecodesRow.holds Try.pinned (OpenSpec.ofChange Rows.tansDecodesSpec) :=
  OpenClaim.holds_of_wide 4 Try.f4 rfl rfl rfl rfl rfl rfl rfl ⟨rfl, rfl, rfl, rfl, rfl⟩ rfl rfl rfl rfl rfl (by kernel_rfl) Try.func4 (by kernel_rfl)
    (of_decide_eq_true (by kernel_rfl)) (by unfold Func.isWrapper; first | (rw [if_pos (by decide +kernel)]; kernel_rfl) | (rw [if_neg (by decide +kernel)]; exact ⟨rfl, rfl⟩))
    (fun os started H enc _ => lifted os started H enc)

theorem proved : Rows.TansDecodesSaid := over
#print axioms proved
end Go.Proofs.Ytplopddlpoffoaa.tansDecodes
