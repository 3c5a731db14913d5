/- It is proved that the law 'TansBack' of the program returns true for every input, with no condition, and leaves what was handed in as it was. The frame was written by a program; the walk is by hand. -/
import Derived.Test.YtplopddlpoffoaaRows
import Derived.WalkKit
import Derived.ProofKit
import Derived.OpenShut
import Derived.ShutString
import Derived.ChangeOld
import Derived.Below
import Derived.Test.YtplopddlpoffoaaBase
import Derived.Test.YtplopddlpoffoaaAM17
namespace Go.Proofs.Ytplopddlpoffoaa.tansBack
open Go.ChangeShapes Go.WideShapes Go.ChangeAt Go.RowKit Go.Deep
open Go.ChangeMaps (open_string shut_string)
set_option linter.unusedVariables false
set_option maxRecDepth 100000

theorem own : ownKnob Try.prog.godebug = none := by kernel_rfl
theorem laidOut : laidOutB Try.prog = true := by kernel_rfl

/-- What the walk is told of a slice of integers that came in: nil, or a row of 'cap' cells that hold the numbers zs, each fitting its kind. -/
def IsRow (k : IntKind) (w : World) (a : Option Addr) (len cap : Nat) (zs : List Int) : Prop :=
  (a = none ∧ len = 0 ∧ cap = 0 ∧ zs = []) ∨
  ∃ x, a = some x ∧ len ≤ cap ∧ cap ≤ maxLen ∧ zs.length = cap ∧ (∀ i, i < zs.length → w.cell? (x.add i) = some (.int k (zs.getD i 0))) ∧ ∀ n ∈ zs, (Lit.int k n).wf = true

open Bits
theorem ints_of {w : World} {a : Option Addr} {len cap : Nat} {zs : List Int} (h : IsRow .i64 w a len cap zs) : ∃ l : List Int, l.length = len ∧ len ≤ maxLen ∧ (l.length ≤ 70368744177664 → IsInts w a l) := by
  rcases h with ⟨rfl, rfl, rfl, rfl⟩ | ⟨x, rfl, hlc, hcm, hz, hc, -⟩
  · exact ⟨[], rfl, Nat.zero_le _, fun _ => ⟨by simp, .inl rfl⟩⟩
  · have e : (zs.take len).length = len := by rw [List.length_take]; omega
    refine ⟨zs.take len, e, by omega, fun h11 => ⟨by omega, .inr ⟨x, rfl, fun i hi => ?_⟩⟩⟩
    rw [e] at hi
    rw [hc i (by omega)]
    simp [List.getD, hi]
theorem sumI_np : ∀ (l : List Int), (∀ i, i < l.length → l.getD i 0 ≤ 0) → sumI l ≤ 0
  | [], _ => by simp [sumI]
  | x :: l, h => by
    have h1 := sumI_np l (fun i hi => by have := h (i + 1) (by simpa using hi); simpa using this)
    have h2 := h 0 (by simp)
    simp at h2
    simp only [sumI]; omega
theorem decs_nn (q : Int) (hq : 0 ≤ q) (O : List Int) (h0 : 0 < O.length) (hO : ∀ i, i < O.length → 0 ≤ O.getD i 0) : ∀ j : Nat, (j : Int) ≤ sumI O - q ∨ j = 0 → ∀ i, i < O.length → 0 ≤ (decs j O).getD i 0 := by
  intro j
  induction j with
  | zero => intro _ i hi; exact hO i hi
  | succ j ih =>
    intro hj i hi
    have hj' : ((j + 1 : Nat) : Int) ≤ sumI O - q := by rcases hj with h | h; (· exact h); (· omega)
    have ih := ih (.inl (by omega))
    have hlen := decs_len j O
    have hs := decs_sum j O h0
    have hg := grL_lt (l := decs j O) (by rw [hlen]; exact h0)
    have hpos : 0 < (decs j O).getD (grL (decs j O)) 0 := by
      apply Classical.byContradiction
      intro hn
      have := sumI_np (decs j O) (fun i hi => by
        have := gr_max (decs j O) (decs j O).length i hi
        have e : grTo (decs j O) (decs j O).length = grL (decs j O) := rfl
        rw [e] at this
        omega)
      omega
    simp only [decs]
    rw [set_get0 _ _ _ _ hg]
    split
    · omega
    · exact ih i hi
theorem norm_ok {l : List Int} {n : Int} {A : Int} (h : totV l n = (A, 0)) : ∃ m q : Nat, n = m ∧ 5 ≤ m ∧ m ≤ 12 ∧ 2 ^ m = q ∧ norV (normV l n) (q : Int) = true := by
  obtain ⟨m, q, rfl, hm5, hm12, hq, hl256, hl0, hA0, hA1, hf⟩ := tot_facts h
  refine ⟨m, q, rfl, hm5, hm12, hq, ?_⟩
  have hq1 : 1 ≤ q := by rw [← hq]; exact Nat.pow_pos (by decide)
  have e : normV l (m : Int) = normL l q A := by
    unfold normV
    rw [h]
    simp only [if_true]
    rw [Int.toNat_natCast, show ((2 : Int) ^ m) = (q : Int) by rw [← hq]; simp]
  rw [e]
  have hbd := norm0_bd (q := (q : Int)) (by omega) hA0 hf
  have hlen0 : (norm0 l q A).length = l.length := by simp [norm0]
  obtain ⟨O, hO⟩ : ∃ O, norm0 l q A = O := ⟨_, rfl⟩
  have hnl : normL l q A = (decs (sumI O - q).toNat O).set (grL (decs (sumI O - q).toNat O)) ((decs (sumI O - q).toNat O).getD (grL (decs (sumI O - q).toNat O)) 0 + q - sumI (decs (sumI O - q).toNat O)) := by
    unfold normL; rw [hO]
  rw [hO] at hbd hlen0
  rw [hnl]
  have hO0 : 0 < O.length := by omega
  have hnn := decs_nn q (by omega) O hO0 (fun i hi => (hbd i hi).1) (sumI O - q).toNat (by omega)
  have hl := decs_len (sumI O - q).toNat O
  have hs := decs_sum (sumI O - q).toNat O hO0
  obtain ⟨o, ho⟩ : ∃ o, decs (sumI O - q).toNat O = o := ⟨_, rfl⟩
  rw [ho] at hnn hl hs ⊢
  have hg := grL_lt (l := o) (by omega)
  refine norV_of (by simp; omega) (fun i hi => ?_) (by rw [sumI_set _ _ _ hg]; omega)
  rw [set_get0 _ _ _ _ hg]
  have h1 := hnn (grL o) (by omega)
  split
  · omega
  · exact hnn i (by simp at hi; omega)
theorem good_all {N : List Int} {ss : List Int} : (∀ s ∈ ss, goodS N s) ∨ (∃ s ∈ ss, ¬ goodS N s) := by
  by_cases h : ∀ s ∈ ss, goodS N s
  · exact .inl h
  · right
    apply Classical.byContradiction
    intro hn
    exact h (fun s hs => Classical.byContradiction fun h2 => hn ⟨s, hs, h2⟩)
set_option maxHeartbeats 3200000 in
theorem back_bad (a b : Option Addr) (ca cb : Nat) (ss l : List Int) (n : Int) (w : World) (h1 : IsInts w a ss) (h2 : IsInts w b l) (hl1 : ss.length ≤ 300) (hl2 : l.length ≤ 256) (hE : (totV l n).2 ≠ 0) :
    Calls Try.prog 5 #[.slice a ss.length ca, .slice b l.length cb, .int .i64 n] w fun e w' => e = .returned (.bool true) ∧ Below w.heap.size w w' := by
  have CN := Lib.hid (dNorm b cb l n w h2)
  obtain ⟨E, hEe⟩ : ∃ E, (totV l n).2 = E := ⟨_, rfl⟩
  rw [hEe] at CN hE
  have hne : (E != 0) = true := by rw [bne_iff_ne]; exact hE
  clear h1 h2 hEe
  go_enter Try.func5, Try.ntmps5
  go_wp2_with fail
  refine CN.out.mono ?_; rintro e w1 ⟨v, rfl, -, hb⟩
  go_wp2_with fail
  refine (awake59 _).mono ?_; rintro e w2 ⟨rfl, hb2⟩
  go_wp2_with fail
  go_ret
  exact ⟨rfl, hb.trans (hb2.mono hb.size)⟩
set_option maxHeartbeats 6400000 in
theorem back_walk (a b : Option Addr) (ca cb : Nat) (ss l : List Int) (n : Int) (w : World) (h1 : IsInts w a ss) (h2 : IsInts w b l) (hl1 : ss.length ≤ 300) (hl2 : l.length ≤ 256) (hE : (totV l n).2 = 0) :
    Calls Try.prog 5 #[.slice a ss.length ca, .slice b l.length cb, .int .i64 n] w fun e w' => e = .returned (.bool true) ∧ Below w.heap.size w w' := by
  obtain ⟨A, hA⟩ : ∃ A, totV l n = (A, 0) := ⟨(totV l n).1, by rw [← hE]⟩
  obtain ⟨m, q, rfl, hm5, hm12, hq, hv⟩ := norm_ok hA
  have CN := Lib.hid (dNorm b cb l (m : Int) w h2)
  rw [hE] at CN
  have hnl : (normV l (m : Int)).length = l.length := by unfold normV; rw [hE, if_pos rfl, normL_len]
  obtain ⟨N, hN⟩ : ∃ N, normV l (m : Int) = N := ⟨_, rfl⟩
  rw [hN] at CN hv hnl
  obtain ⟨⟨STR, E⟩, hR⟩ : ∃ r : ByteArray × Int, ((∀ s ∈ ss, goodS N s) → r.1 = encB N m q ss ∧ r.2 = 0) ∧ ((∃ s ∈ ss, ¬ goodS N s) → r.1 = ⟨#[]⟩ ∧ r.2 = 7) := by
    rcases good_all (N := N) (ss := ss) with h | h
    · exact ⟨(encB N m q ss, 0), fun _ => ⟨rfl, rfl⟩, fun ⟨s, hs, hb⟩ => absurd (h s hs) hb⟩
    · obtain ⟨s, hs, hb⟩ := h
      exact ⟨(⟨#[]⟩, 7), fun h => absurd (h s hs) hb, fun _ => ⟨rfl, rfl⟩⟩
  simp only at hR
  have HR := Lib.hid hR
  have CE := Lib.hid (fun W a1 c1 (h1 : IsInts W a ss) (h2 : IsInts W a1 N) => cEncRows a ca ss a1 c1 N m q W h1 (by omega) h2 hm5 hm12 hq hv STR E hR.1 hR.2)
  have CD := Lib.hid (fun W a1 c1 (h2 : IsInts W a1 N) (hg : ∀ s ∈ ss, goodS N s) => dDec (encB N m q ss) (encB_size hm12 ss (by omega)) ss.length a1 c1 N m q W h2 hm5 hm12 hq hv (by omega) ss 0 (enc_back hm5 hm12 hq hv ss hg))
  have HNL := Lib.hid hnl
  have HI := Lib.hid h1
  clear h1 h2 hE hA hN hR hv hq hm5 hm12
  go_enter Try.func5, Try.ntmps5
  go_wp2_with fail
  refine CN.out.mono ?_; rintro e w1 ⟨v, rfl, ho, hb⟩
  obtain ⟨va, vc, rfl, hv⟩ := ho.isL (by rw [HNL.out]; omega)
  have HV := Lib.hid hv
  have HB := Lib.hid hb
  have HI1 := Lib.hid (HI.out.kept hb)
  obtain ⟨NL, hNL⟩ : ∃ NL, N.length = NL := ⟨_, rfl⟩
  have HNN := Lib.hid hNL
  have CE := Lib.hid (show Calls Try.prog 17 #[.slice a ss.length ca, .slice va NL vc, .int .i64 m] w1 _ by rw [← hNL]; exact CE.out w1 va vc HI1.out HV.out)
  rw [hNL]
  clear hb ho hv CN hnl hNL
  go_wp2_with fail
  refine CE.out.mono ?_; rintro e w2 ⟨rfl, hb2⟩
  have HV := Lib.hid (HV.out.kept hb2)
  have HI2 := Lib.hid (HI1.out.kept hb2)
  have HB := Lib.hid (HB.out.trans (hb2.mono HB.out.size))
  clear hb2 CE HI1
  go_wp2_with fail
  go_loopw [11] (fun iv wr => ∃ i : Nat, i ≤ ss.length ∧ iv = .int .i64 i ∧ Hid (∀ k, k < i → goodS N (ss.getD k 0)) ∧ wr = w2) (fun iv _ => ss.length - (intOf iv).toNat)
  case atStart => exact ⟨0, Nat.zero_le _, rfl, Lib.hid (fun k hk => by omega), rfl⟩
  case round =>
    obtain ⟨i, hi, rfl, hall, rfl⟩ := hrel
    by_cases hlt : i < ss.length
    · obtain ⟨x, rfl, -, cx⟩ := HI2.out.at i hlt
      have cs := cx i hlt
      obtain ⟨sv, hsv⟩ : ∃ sv, ss.getD i 0 = sv := ⟨_, rfl⟩
      rw [hsv] at cs
      have hi1 : (i : Int) < (ss.length : Int) := by omega
      have hmem : sv ∈ ss := by
        rw [← hsv, List.getD_eq_getElem?_getD, List.getElem?_eq_getElem hlt]
        exact List.getElem_mem hlt
      have HNX := Lib.hid (show goodS N sv → ∀ k, k < i + 1 → goodS N (ss.getD k 0) from fun h k hk => by
        by_cases e : k = i
        · subst e; rw [hsv]; exact h
        · exact hall.out k (by omega))
      clear cx hsv
      by_cases hgood : goodS N sv
      · have HN2 := Lib.hid (HNX.out hgood)
        obtain ⟨g1, g2, g3⟩ := hgood
        obtain ⟨si, rfl⟩ : ∃ si : Nat, sv = si := ⟨sv.toNat, by omega⟩
        obtain ⟨y, rfl, -, cy⟩ := HV.out.at si (by omega)
        have cn := cy si (by omega)
        rw [Int.toNat_natCast] at g3
        obtain ⟨U, hU⟩ : ∃ U, N.getD si 0 = U := ⟨_, rfl⟩
        rw [hU] at cn g3
        have hU0 : (U == 0) = false := by rw [beq_eq_false_iff_ne]; exact g3
        have d1 : decide ((si : Int) < 0) = false := by simp
        have hsN : si < NL := by rw [← HNN.out]; omega
        have d2 : decide ((NL : Int) ≤ (si : Int)) = false := by simp; omega
        have d3 : decide (NL ≤ si) = false := by simp; omega
        have hs1 : (si : Int) < (NL : Int) := by omega
        have hs0 : (0 : Int) ≤ (si : Int) := by omega
        clear cy hU g1 g2 hmem
        go_wp2_with fail
        go_roundw
        case rel => exact ⟨i + 1, by omega, by go_num, HN2, by first | rfl | trivial⟩
        case measure => simp [intOf]; omega
      · obtain ⟨rfl, rfl⟩ := HR.out.2 ⟨sv, hmem, hgood⟩
        by_cases hb1 : sv < 0
        · have d1 : decide (sv < 0) = true := by simpa using hb1
          clear hgood hmem
          go_wp2_with fail
          refine (awake59 _).mono ?_; rintro e w3 ⟨rfl, hb3⟩
          go_wp2_with fail
          go_ret
          exact ⟨rfl, HB.out.trans (hb3.mono HB.out.size)⟩
        · have d1 : decide (sv < 0) = false := by simpa using hb1
          by_cases hb2 : (NL : Int) ≤ sv
          · have d2 : decide ((NL : Int) ≤ sv) = true := by simpa using hb2
            clear hgood hmem
            go_wp2_with fail
            refine (awake59 _).mono ?_; rintro e w3 ⟨rfl, hb3⟩
            go_wp2_with fail
            go_ret
            exact ⟨rfl, HB.out.trans (hb3.mono HB.out.size)⟩
          · have d2 : decide ((NL : Int) ≤ sv) = false := by simpa using hb2
            obtain ⟨si, rfl⟩ : ∃ si : Nat, sv = si := ⟨sv.toNat, by omega⟩
            have hsN : si < N.length := by rw [HNN.out]; omega
            obtain ⟨y, rfl, -, cy⟩ := HV.out.at si hsN
            have cn := cy si hsN
            have hU : N.getD si 0 = 0 := by
              apply Classical.byContradiction
              intro h
              exact hgood ⟨by omega, by omega, by rw [Int.toNat_natCast]; exact h⟩
            rw [hU] at cn
            have hs1 : (si : Int) < (NL : Int) := by omega
            have hs0 : (0 : Int) ≤ (si : Int) := by omega
            clear hgood hmem cy hU
            go_wp2_with fail
            refine (awake59 _).mono ?_; rintro e w3 ⟨rfl, hb3⟩
            go_wp2_with fail
            go_ret
            exact ⟨rfl, HB.out.trans (hb3.mono HB.out.size)⟩
    · obtain rfl : i = ss.length := by omega
      have hg : ∀ s ∈ ss, goodS N s := fun s hs => by
        obtain ⟨k, hk, e⟩ := List.mem_iff_getElem.1 hs
        have := hall.out k hk
        rw [List.getD_eq_getElem?_getD, List.getElem?_eq_getElem hk, e] at this
        exact this
      obtain ⟨rfl, rfl⟩ := HR.out.1 hg
      have CDD := Lib.hid (show Calls Try.prog 16 #[.string (encB N m q ss), .int .i64 (ss.length : Nat), .slice va NL vc, .int .i64 m] wr _ by rw [← HNN.out]; exact CD.out wr va vc HV.out hg)
      obtain ⟨STR, hSTR⟩ : ∃ STR, encB N m q ss = STR := ⟨_, rfl⟩
      rw [hSTR] at CDD ⊢
      clear hg hSTR CD
      go_wp2_with fail
      refine CDD.out.mono ?_; rintro e w3 ⟨v3, B3, rfl, ho3, hb3⟩
      have HV3 := Lib.hid (ho3.isL (by omega))
      have HI3 := Lib.hid (HI2.out.kept hb3)
      have HB := Lib.hid (HB.out.trans (hb3.mono HB.out.size))
      clear ho3 hb3 CDD
      go_wp2_with fail
      refine (intsL HV3.out ⟨_, _, rfl, HI3.out⟩ true (by simp)).mono ?_; rintro e w5 ⟨rfl, k5, rfl⟩
      have HB := Lib.hid (below_dn HB.out k5)
      obtain ⟨w5, hw5⟩ : ∃ w5, w3.drewN k5 = w5 := ⟨_, rfl⟩
      rw [hw5] at HB ⊢
      clear hw5
      go_wp2_with fail
      refine (awake59 _).mono ?_; rintro e w7 ⟨rfl, hb7⟩
      go_wp2_with fail
      go_ret
      exact ⟨rfl, HB.out.trans (hb7.mono HB.out.size)⟩

set_option maxHeartbeats 3200000 in
theorem walk (a0 : Option Addr) (len0 cap0 : Nat) (z0 : List Int) (a1 : Option Addr) (len1 cap1 : Nat) (z1 : List Int) (a2 : Int) (w : World) (w0 : IsRow .i64 w a0 len0 cap0 z0) (w1 : IsRow .i64 w a1 len1 cap1 z1) (w2 : (Lit.int .i64 a2).wf = true) :
    Calls Try.prog 5 #[.slice a0 len0 cap0, .slice a1 len1 cap1, .int .i64 a2] w fun e w' => e = .returned (.bool true) ∧ Below w.heap.size w w' := by
  obtain ⟨ss, hl, hmax, h0⟩ := ints_of w0
  obtain ⟨l, hm, hmax2, h1⟩ := ints_of w1
  subst hl
  subst hm
  unfold maxLen at hmax hmax2
  by_cases hlong : 300 < ss.length
  · go_enter Try.func5, Try.ntmps5
    go_wp2_with fail
    refine (awake59 _).mono ?_; rintro e w1 ⟨rfl, hb⟩
    go_wp2_with fail
    go_ret
    exact ⟨rfl, hb⟩
  · by_cases hlong2 : 256 < l.length
    · go_enter Try.func5, Try.ntmps5
      go_wp2_with fail
      refine (awake59 _).mono ?_; rintro e w1 ⟨rfl, hb⟩
      go_wp2_with fail
      go_ret
      exact ⟨rfl, hb⟩
    · by_cases hE : (totV l a2).2 = 0
      · exact back_walk a0 a1 cap0 cap1 ss l a2 w (h0 (by omega)) (h1 (by omega)) (by omega) (by omega) hE
      · exact back_bad a0 a1 cap0 cap1 ss l a2 w (h0 (by omega)) (h1 (by omega)) (by omega) (by omega) hE

theorem lifted (os : Os) (started : os.Started) (H : Type) (enc : TypeId × Value → H) :
    ReturnsInHanded {} Try.checked os 5 .any (Rows.tansBackSpec.pre6 enc Try.prog Try.f5 Rows.tansBackRow.domain false) (Rows.tansBackSpec.post enc Try.prog Try.f5 false true false false) := by
  refine returnsInHanded_of_change (C := Try.checked) own started (by kernel_rfl) Try.func5
    (ChangeSpec.witness6 (enc := enc) (C := Try.checked) false ⟨#[], #[.slice none 0 0, .slice none 0 0, .int .i64 0], []⟩ 8 (by kernel_rfl) (by kernel_rfl) (by kernel_rfl) (by kernel_rfl)) ?_
  intro W base args ds gs before hval0 hW hcnd _
  have hval : ∀ (j : Nat) t v, Try.f5.params[j]? = some t → args[j]? = some v → Value.okWide Try.prog W .any base t v := hval0
  have hW' := hW
  obtain ⟨p, q, hA0, hV, rfl, hfz, hnd⟩ := hW
  have hA : DataW.TrodAll enc Try.prog W 0 (fun _ => true) true Try.f5.params.toList args.toList ds p := hA0
  rw [Try.params5] at hA hval
  obtain ⟨v0, vs0, d0, ds0, p0, q0, hargs, rfl, rfl, h0, r0⟩ := trodAll_cons hA
  obtain ⟨v1, vs1, d1, ds1, p1, q1, rfl, rfl, rfl, h1, r1⟩ := trodAll_cons r0
  obtain ⟨v2, vs2, d2, ds2, p2, q2, rfl, rfl, rfl, h2, r2⟩ := trodAll_cons r1
  obtain ⟨rfl, rfl, rfl⟩ := trodAll_nil r2
  obtain rfl : args = #[v0, v1, v2] := by cases args; simp_all
  obtain ⟨rfl, rfl⟩ := trodVars_none hV
  obtain ⟨a0, len0, cap0, rfl⟩ := okWide_slice Try.underlying22 (hval 0 22 v0 rfl rfl)
  have k0 := h0
  have lt0 : ∀ x ∈ p0, x.block < W.heap.size := by obtain ⟨m, hm⟩ := k0; exact DataW.trod_lt m _ _ _ hm
  obtain ⟨z0, w0⟩ : ∃ zs, IsRow .i64 W a0 len0 cap0 zs := by
    obtain ⟨fuel, hf⟩ := h0
    rcases open_ints Try.underlying22 Try.underlying3 (by kernel_rfl) hf with ⟨hcs, _⟩ | ⟨x, l, c, zs, hcs, _, hl, hm, hz, _, hcell, hwz⟩
    · simp [Value.cells] at hcs
      obtain ⟨rfl, rfl, rfl⟩ := hcs
      exact ⟨[], .inl ⟨rfl, rfl, rfl, rfl⟩⟩
    · simp [Value.cells] at hcs
      obtain ⟨rfl, rfl, rfl⟩ := hcs
      exact ⟨zs, .inr ⟨_, rfl, hl, hm, by simpa using hz, hcell, hwz⟩⟩
  obtain ⟨a1, len1, cap1, rfl⟩ := okWide_slice Try.underlying22 (hval 1 22 v1 rfl rfl)
  have k1 := h1
  have lt1 : ∀ x ∈ p1, x.block < W.heap.size := by obtain ⟨m, hm⟩ := k1; exact DataW.trod_lt m _ _ _ hm
  obtain ⟨z1, w1⟩ : ∃ zs, IsRow .i64 W a1 len1 cap1 zs := by
    obtain ⟨fuel, hf⟩ := h1
    rcases open_ints Try.underlying22 Try.underlying3 (by kernel_rfl) hf with ⟨hcs, _⟩ | ⟨x, l, c, zs, hcs, _, hl, hm, hz, _, hcell, hwz⟩
    · simp [Value.cells] at hcs
      obtain ⟨rfl, rfl, rfl⟩ := hcs
      exact ⟨[], .inl ⟨rfl, rfl, rfl, rfl⟩⟩
    · simp [Value.cells] at hcs
      obtain ⟨rfl, rfl, rfl⟩ := hcs
      exact ⟨zs, .inr ⟨_, rfl, hl, hm, by simpa using hz, hcell, hwz⟩⟩
  have k2 := h2
  have lt2 : ∀ x ∈ p2, x.block < W.heap.size := by obtain ⟨m, hm⟩ := k2; exact DataW.trod_lt m _ _ _ hm
  obtain ⟨a2, rfl, rfl, rfl, w2⟩ := open_int Try.underlying3 (hval 2 3 v2 rfl rfl) h2
  clear hA0 hval0
  refine (walk a0 len0 cap0 z0 a1 len1 cap1 z1 a2 W w0 w1 w2).mono fun e W' ⟨he, bel⟩ => ?_
  subst he
  exact ⟨_, rfl, _, _, _, [], _, [], hW', trodAll_mk1 (shut_bool Try.underlying4 _), (trodAll_cons_mk (Below.trod laidOut (by kernel_rfl) (of_decide_eq_true (by kernel_rfl)) k0 bel lt0) (trodAll_cons_mk (Below.trod laidOut (by kernel_rfl) (of_decide_eq_true (by kernel_rfl)) k1 bel lt1) (trodAll_cons_mk (Below.trod laidOut (by kernel_rfl) (of_decide_eq_true (by kernel_rfl)) k2 bel lt2) trodAll_mk0))), rfl, bel.frame _, fun h => by cases h⟩

theorem over : Rows.tansBackRow.holds Try.pinned (OpenSpec.ofChange Rows.tansBackSpec) :=
  OpenClaim.holds_of_wide 5 Try.f5 rfl rfl rfl rfl rfl rfl rfl ⟨rfl, rfl, rfl, rfl, rfl⟩ rfl rfl rfl rfl rfl (by kernel_rfl) Try.func5 (by kernel_rfl)
    (of_decide_eq_true (by kernel_rfl)) (by unfold Func.isWrapper; first | (rw [if_pos (by decide +kernel)]; kernel_rfl) | (rw [if_neg (by decide +kernel)]; exact ⟨rfl, rfl⟩))
    (fun os started H enc _ => lifted os started H enc)

theorem proved : Rows.TansBackSaid := over
#print axioms proved
end Go.Proofs.Ytplopddlpoffoaa.tansBack
