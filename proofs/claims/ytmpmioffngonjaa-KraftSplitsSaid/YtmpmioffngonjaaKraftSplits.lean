/- It is proved that the law 'KraftSplits' of the program returns true for every input, with no condition, and leaves what was handed in as it was. The frame was written by a program; the walk is by hand. -/
import Derived.Test.YtmpmioffngonjaaRows
import Derived.WalkKit
import Derived.ProofKit
import Derived.OpenShut
import Derived.ShutString
import Derived.ChangeOld
import Derived.Below
import Derived.Test.YtmpmioffngonjaaBase
import Derived.Test.YtmpmioffngonjaaKw
namespace Go.Proofs.Ytmpmioffngonjaa.kraftSplits
open Go.ChangeShapes Go.WideShapes Go.ChangeAt Go.RowKit Go.Deep
open Go.ChangeMaps (open_string shut_string)
set_option linter.unusedVariables false
set_option maxRecDepth 100000

theorem own : ownKnob Try.prog.godebug = none := by kernel_rfl
theorem laidOut : laidOutB Try.prog = true := by kernel_rfl

/-- What the walk is told of a slice of integers that came in: nil, or a row of 'cap' cells that hold the numbers zs, each fitting its kind. -/
def IsRow (k : IntKind) (w : World) (a : Option Addr) (len cap : Nat) (zs : List Int) : Prop :=
  (a = none ∧ len = 0 ∧ cap = 0 ∧ zs = []) ∨
  ∃ x, a = some x ∧ len ≤ cap ∧ cap ≤ maxLen ∧ zs.length = cap ∧ (∀ i, i < zs.length → w.cell? (x.add i) = some (.int k (zs.getD i 0))) ∧ ∀ n ∈ zs, (Lit.int k n).wf = true

theorem ints_of {w : World} {a : Option Addr} {len cap : Nat} {zs : List Int} (h : IsRow .i64 w a len cap zs) : ∃ l : List Int, l.length = len ∧ len ≤ maxLen ∧ (l.length ≤ 1100 → IsInts w a l) := by
  rcases h with ⟨rfl, rfl, rfl, rfl⟩ | ⟨x, rfl, hlc, hcm, hz, hc, -⟩
  · exact ⟨[], rfl, Nat.zero_le _, fun _ => ⟨by simp, .inl rfl⟩⟩
  · have e : (zs.take len).length = len := by rw [List.length_take]; omega
    refine ⟨zs.take len, e, by omega, fun h11 => ⟨by omega, .inr ⟨x, rfl, fun i hi => ?_⟩⟩⟩
    rw [e] at hi
    rw [hc i (by omega)]
    simp [List.getD, hi]
set_option maxHeartbeats 3200000 in
theorem too_long (a0 : Option Addr) (cap0 : Nat) (l : List Int) (a1 a2 : Int) (w : World) (hmax : l.length ≤ maxLen) (p0 : 0 ≤ a1) (p1 : a1 ≤ 255) (q0 : 0 ≤ a2) (q1 : a2 ≤ 255) (M : Nat) (hM : a1 % 16 = M) (hM15 : M ≤ 15) (hl : 200 < l.length) :
    Calls Try.prog 4 #[.slice a0 l.length cap0, .int .u8 a1, .int .u8 a2] w fun e w' => e = .returned (.bool true) ∧ Below w.heap.size w w' := by
  unfold maxLen at hmax
  go_enter Try.func4, Try.ntmps4
  go_wp2_with fail
  refine (awake06 _).mono ?_; rintro e w1 ⟨rfl, hb⟩
  go_wp2_with fail
  go_ret
  exact ⟨rfl, hb⟩
set_option maxHeartbeats 3200000 in
theorem not_one (a0 : Option Addr) (cap0 : Nat) (l : List Int) (a1 a2 : Int) (w : World) (p0 : 0 ≤ a1) (p1 : a1 ≤ 255) (q0 : 0 ≤ a2) (q1 : a2 ≤ 255) (M : Nat) (hM : a1 % 16 = M) (hM15 : M ≤ 15) (hl : ¬ 200 < l.length) (hI : IsInts w a0 l) (R : Int) (hR : KraftMath.check l ((M : Int) + 1) = R) (hR0 : R ≠ 0) :
    Calls Try.prog 4 #[.slice a0 l.length cap0, .int .u8 a1, .int .u8 a2] w fun e w' => e = .returned (.bool true) ∧ Below w.heap.size w w' := by
  have C1 := kCheck_any a0 cap0 ((M : Int) + 1) l w hI
  rw [hR] at C1
  have C1 := Lib.hid C1
  clear hI hR
  have e1 : (R == 0) = false := by rw [beq_eq_false_iff_ne]; exact hR0
  have e2 : (R != 0) = true := by rw [bne, e1]; rfl
  go_enter Try.func4, Try.ntmps4
  go_wp2_with fail
  refine C1.out.mono ?_; rintro e w1 ⟨rfl, k1, rfl⟩
  go_wp2_with fail
  refine (awake06 _).mono ?_; rintro e w2 ⟨rfl, hb⟩
  go_wp2_with fail
  go_ret
  exact ⟨rfl, (below_drewN (Below.refl _ _) _).trans hb⟩
set_option maxHeartbeats 3200000 in
theorem zero_more (x : Addr) (cap0 : Nat) (l : List Int) (a1 a2 : Int) (w : World) (p0 : 0 ≤ a1) (p1 : a1 ≤ 255) (q0 : 0 ≤ a2) (q1 : a2 ≤ 255) (M : Nat) (hM : a1 % 16 = M) (hMM : M < 15) (hl : ¬ 200 < l.length) (hI : IsInts w (some x) l) (hR : KraftMath.check l ((M : Int) + 1) = 0) (hR2 : M < 15 → KraftMath.check l ((M : Int) + 1 + 1) = 0) (K : Nat) (hK : a2 % (l.length : Int) = K) (hKl : K < l.length) (z : Int) (hz : w.cell? (x.add K) = some (.int .i64 z)) (hzz : z = 0) :
    Calls Try.prog 4 #[.slice (some x) l.length cap0, .int .u8 a1, .int .u8 a2] w fun e w' => e = .returned (.bool true) ∧ Below w.heap.size w w' := by
  have C1 := kCheck_any (some x) cap0 ((M : Int) + 1) l w hI
  rw [hR] at C1
  have C1 := Lib.hid C1
  have C2 := fun k => kCheck_any (some x) cap0 ((M : Int) + 1 + 1) l (w.drewN k) hI
  simp only [hR2 hMM] at C2
  have C2 := Lib.hid C2
  clear hI hR hR2
  go_enter Try.func4, Try.ntmps4
  go_wp2_with fail
  refine C1.out.mono ?_; rintro e w1 ⟨rfl, k1, rfl⟩
  go_wp2_with fail
  refine (C2.out _).mono ?_; rintro e w1 ⟨rfl, k2, rfl⟩
  go_wp2_with fail
  refine (awake06 _).mono ?_; rintro e w2 ⟨rfl, hb⟩
  go_wp2_with fail
  go_ret
  exact ⟨rfl, Below.trans (by first | exact below_drewN (below_drewN (Below.refl _ _) _) _ | exact below_drewN (Below.refl _ _) _) hb⟩
set_option maxHeartbeats 3200000 in
theorem zero_last (x : Addr) (cap0 : Nat) (l : List Int) (a1 a2 : Int) (w : World) (p0 : 0 ≤ a1) (p1 : a1 ≤ 255) (q0 : 0 ≤ a2) (q1 : a2 ≤ 255) (M : Nat) (hM : a1 % 16 = M) (hMM : 15 ≤ M) (hl : ¬ 200 < l.length) (hI : IsInts w (some x) l) (hR : KraftMath.check l ((M : Int) + 1) = 0) (hR2 : M < 15 → KraftMath.check l ((M : Int) + 1 + 1) = 0) (K : Nat) (hK : a2 % (l.length : Int) = K) (hKl : K < l.length) (z : Int) (hz : w.cell? (x.add K) = some (.int .i64 z)) (hzz : z = 0) :
    Calls Try.prog 4 #[.slice (some x) l.length cap0, .int .u8 a1, .int .u8 a2] w fun e w' => e = .returned (.bool true) ∧ Below w.heap.size w w' := by
  have C1 := kCheck_any (some x) cap0 ((M : Int) + 1) l w hI
  rw [hR] at C1
  have C1 := Lib.hid C1
  clear hI hR hR2
  go_enter Try.func4, Try.ntmps4
  go_wp2_with fail
  refine C1.out.mono ?_; rintro e w1 ⟨rfl, k1, rfl⟩
  go_wp2_with fail
  refine (awake06 _).mono ?_; rintro e w2 ⟨rfl, hb⟩
  go_wp2_with fail
  go_ret
  exact ⟨rfl, Below.trans (by first | exact below_drewN (below_drewN (Below.refl _ _) _) _ | exact below_drewN (Below.refl _ _) _) hb⟩
set_option maxHeartbeats 3200000 in
theorem full_more (x : Addr) (cap0 : Nat) (l : List Int) (a1 a2 : Int) (w : World) (p0 : 0 ≤ a1) (p1 : a1 ≤ 255) (q0 : 0 ≤ a2) (q1 : a2 ≤ 255) (M : Nat) (hM : a1 % 16 = M) (hMM : M < 15) (hl : ¬ 200 < l.length) (hI : IsInts w (some x) l) (hR : KraftMath.check l ((M : Int) + 1) = 0) (hR2 : M < 15 → KraftMath.check l ((M : Int) + 1 + 1) = 0) (K : Nat) (hK : a2 % (l.length : Int) = K) (hKl : K < l.length) (z : Int) (hz : w.cell? (x.add K) = some (.int .i64 z)) (hzz : z = (M : Int) + 1) :
    Calls Try.prog 4 #[.slice (some x) l.length cap0, .int .u8 a1, .int .u8 a2] w fun e w' => e = .returned (.bool true) ∧ Below w.heap.size w w' := by
  have C1 := kCheck_any (some x) cap0 ((M : Int) + 1) l w hI
  rw [hR] at C1
  have C1 := Lib.hid C1
  have C2 := fun k => kCheck_any (some x) cap0 ((M : Int) + 1 + 1) l (w.drewN k) hI
  simp only [hR2 hMM] at C2
  have C2 := Lib.hid C2
  clear hI hR hR2
  have z0 : (z == 0) = false := by rw [beq_eq_false_iff_ne]; omega
  have z1 : (z == (M : Int) + 1) = true := by rw [beq_iff_eq]; exact hzz
  clear hzz
  go_enter Try.func4, Try.ntmps4
  go_wp2_with fail
  refine C1.out.mono ?_; rintro e w1 ⟨rfl, k1, rfl⟩
  go_wp2_with fail
  refine (C2.out _).mono ?_; rintro e w1 ⟨rfl, k2, rfl⟩
  go_wp2_with fail
  refine (awake06 _).mono ?_; rintro e w2 ⟨rfl, hb⟩
  go_wp2_with fail
  go_ret
  exact ⟨rfl, Below.trans (by first | exact below_drewN (below_drewN (Below.refl _ _) _) _ | exact below_drewN (Below.refl _ _) _) hb⟩
set_option maxHeartbeats 3200000 in
theorem full_last (x : Addr) (cap0 : Nat) (l : List Int) (a1 a2 : Int) (w : World) (p0 : 0 ≤ a1) (p1 : a1 ≤ 255) (q0 : 0 ≤ a2) (q1 : a2 ≤ 255) (M : Nat) (hM : a1 % 16 = M) (hMM : 15 ≤ M) (hl : ¬ 200 < l.length) (hI : IsInts w (some x) l) (hR : KraftMath.check l ((M : Int) + 1) = 0) (hR2 : M < 15 → KraftMath.check l ((M : Int) + 1 + 1) = 0) (K : Nat) (hK : a2 % (l.length : Int) = K) (hKl : K < l.length) (z : Int) (hz : w.cell? (x.add K) = some (.int .i64 z)) (hzz : z = (M : Int) + 1) :
    Calls Try.prog 4 #[.slice (some x) l.length cap0, .int .u8 a1, .int .u8 a2] w fun e w' => e = .returned (.bool true) ∧ Below w.heap.size w w' := by
  have C1 := kCheck_any (some x) cap0 ((M : Int) + 1) l w hI
  rw [hR] at C1
  have C1 := Lib.hid C1
  clear hI hR hR2
  have z0 : (z == 0) = false := by rw [beq_eq_false_iff_ne]; omega
  have z1 : (z == (M : Int) + 1) = true := by rw [beq_iff_eq]; exact hzz
  clear hzz
  go_enter Try.func4, Try.ntmps4
  go_wp2_with fail
  refine C1.out.mono ?_; rintro e w1 ⟨rfl, k1, rfl⟩
  go_wp2_with fail
  refine (awake06 _).mono ?_; rintro e w2 ⟨rfl, hb⟩
  go_wp2_with fail
  go_ret
  exact ⟨rfl, Below.trans (by first | exact below_drewN (below_drewN (Below.refl _ _) _) _ | exact below_drewN (Below.refl _ _) _) hb⟩

set_option maxHeartbeats 3200000 in
theorem walk (a0 : Option Addr) (len0 cap0 : Nat) (z0 : List Int) (a1 : Int) (a2 : Int) (w : World) (w0 : IsRow .i64 w a0 len0 cap0 z0) (w1 : (Lit.int .u8 a1).wf = true) (w2 : (Lit.int .u8 a2).wf = true) :
    Calls Try.prog 4 #[.slice a0 len0 cap0, .int .u8 a1, .int .u8 a2] w fun e w' => e = .returned (.bool true) ∧ Below w.heap.size w w' := by
  obtain ⟨l, hl, hmax, hI⟩ := ints_of w0
  clear w0
  subst hl
  obtain ⟨p0, p1⟩ := bounds_u8 w1
  obtain ⟨q0, q1⟩ := bounds_u8 w2
  obtain ⟨M, hM⟩ : ∃ M : Nat, a1 % 16 = M := ⟨(a1 % 16).toNat, by omega⟩
  by_cases hlong : 200 < l.length
  · exact too_long a0 cap0 l a1 a2 w hmax p0 p1 q0 q1 M hM (by omega) hlong
  have hI := hI (by omega)
  by_cases hR : KraftMath.check l ((M : Int) + 1) = 0
  · have hRn : KraftMath.check l ((M + 1 : Nat) : Int) = 0 := by rw [← hR]; norm_cast
    have hne := used_pos hRn
    have hR2 : M < 15 → KraftMath.check l ((M : Int) + 1 + 1) = 0 := fun h => by
      have := KraftMath.check_more l (M + 1) hRn (by omega)
      rw [← this]; norm_cast
    obtain ⟨x, rfl, hxb, hc⟩ := ints_some hI hne
    have hlp : 0 < l.length := List.length_pos_iff.2 hne
    have hm0 : 0 ≤ a2 % (l.length : Int) := Int.emod_nonneg _ (by omega)
    have hm1 : a2 % (l.length : Int) < l.length := Int.emod_lt_of_pos _ (by omega)
    obtain ⟨K, hK⟩ : ∃ K : Nat, a2 % (l.length : Int) = K := ⟨(a2 % (l.length : Int)).toNat, by omega⟩
    have hKl : K < l.length := by omega
    obtain ⟨z, hzz⟩ : ∃ z, l.getD K 0 = z := ⟨_, rfl⟩
    have hz := hc K hKl
    rw [hzz] at hz
    by_cases z0 : z = 0
    · by_cases hMM : M < 15
      · exact zero_more x cap0 l a1 a2 w p0 p1 q0 q1 M hM hMM hlong hI hR hR2 K hK hKl z hz z0
      · exact zero_last x cap0 l a1 a2 w p0 p1 q0 q1 M hM (by omega) hlong hI hR hR2 K hK hKl z hz z0
    · by_cases z1 : z = (M : Int) + 1
      · by_cases hMM : M < 15
        · exact full_more x cap0 l a1 a2 w p0 p1 q0 q1 M hM hMM hlong hI hR hR2 K hK hKl z hz z1
        · exact full_last x cap0 l a1 a2 w p0 p1 q0 q1 M hM (by omega) hlong hI hR hR2 K hK hKl z hz z1
      · have hzm : 0 ≤ z ∧ z ≤ ((M + 1 : Nat) : Int) := by
          have h := (KraftMath.check_ok l (M + 1)).1 hRn
          rw [← hzz]
          refine h.2.2.2.1 _ ?_
          rw [List.getD_eq_getElem?_getD, List.getElem?_eq_getElem hKl]; exact List.getElem_mem hKl
        have hP := KraftMath.check_parted l (M + 1) K hRn hKl (by omega) (by rw [hzz]; exact z0) (by rw [hzz]; intro h; apply z1; rw [h]; norm_cast)
        obtain ⟨F, hF⟩ : ∃ F, KraftMath.check (KraftMath.parted l K) ((M : Int) + 1) = F := ⟨_, rfl⟩
        obtain ⟨U, hU⟩ : ∃ U, KraftMath.used l = U := ⟨_, rfl⟩
        have hUF : if U = 1 then F = 6 else F = 0 := by
          have e : ((M + 1 : Nat) : Int) = (M : Int) + 1 := by norm_cast
          rw [e, hF, hU] at hP
          by_cases h1 : U = 1
          · rw [if_pos h1] at hP ⊢; exact hP
          · rw [if_neg h1] at hP ⊢; exact hP
        by_cases h1 : U = 1
        · by_cases hMM : M < 15
          · exact main_m1 x cap0 l a1 a2 w p0 p1 q0 q1 M hM hMM hlong hI hR hR2 K hK hKl z hz hzz z0 z1 (by omega) F hF U hU hUF h1
          · exact main_l1 x cap0 l a1 a2 w p0 p1 q0 q1 M hM (by omega) hlong hI hR hR2 K hK hKl z hz hzz z0 z1 (by omega) F hF U hU hUF h1
        · by_cases hMM : M < 15
          · exact main_m0 x cap0 l a1 a2 w p0 p1 q0 q1 M hM hMM hlong hI hR hR2 K hK hKl z hz hzz z0 z1 (by omega) F hF U hU hUF (by omega)
          · exact main_l0 x cap0 l a1 a2 w p0 p1 q0 q1 M hM (by omega) hlong hI hR hR2 K hK hKl z hz hzz z0 z1 (by omega) F hF U hU hUF (by omega)
  · exact not_one a0 cap0 l a1 a2 w p0 p1 q0 q1 M hM (by omega) hlong hI _ rfl hR

theorem lifted (os : Os) (started : os.Started) (H : Type) (enc : TypeId × Value → H) :
    ReturnsInHanded {} Try.checked os 4 .any (Rows.kraftSplitsSpec.pre6 enc Try.prog Try.f4 Rows.kraftSplitsRow.domain false) (Rows.kraftSplitsSpec.post enc Try.prog Try.f4 false true false false) := by
  refine returnsInHanded_of_change (C := Try.checked) own started (by kernel_rfl) Try.func4
    (ChangeSpec.witness6 (enc := enc) (C := Try.checked) false ⟨#[], #[.slice none 0 0, .int .u8 0, .int .u8 0], []⟩ 8 (by kernel_rfl) (by kernel_rfl) (by kernel_rfl) (by kernel_rfl)) ?_
  intro W base args ds gs before hval0 hW hcnd _
  have hval : ∀ (j : Nat) t v, Try.f4.params[j]? = some t → args[j]? = some v → Value.okWide Try.prog W .any base t v := hval0
  have hW' := hW
  obtain ⟨p, q, hA0, hV, rfl, hfz, hnd⟩ := hW
  have hA : DataW.TrodAll enc Try.prog W 0 (fun _ => true) true Try.f4.params.toList args.toList ds p := hA0
  rw [Try.params4] at hA hval
  obtain ⟨v0, vs0, d0, ds0, p0, q0, hargs, rfl, rfl, h0, r0⟩ := trodAll_cons hA
  obtain ⟨v1, vs1, d1, ds1, p1, q1, rfl, rfl, rfl, h1, r1⟩ := trodAll_cons r0
  obtain ⟨v2, vs2, d2, ds2, p2, q2, rfl, rfl, rfl, h2, r2⟩ := trodAll_cons r1
  obtain ⟨rfl, rfl, rfl⟩ := trodAll_nil r2
  obtain rfl : args = #[v0, v1, v2] := by cases args; simp_all
  obtain ⟨rfl, rfl⟩ := trodVars_none hV
  obtain ⟨a0, len0, cap0, rfl⟩ := okWide_slice Try.underlying22 (hval 0 22 v0 rfl rfl)
  have k0 := h0
  have lt0 : ∀ x ∈ p0, x.block < W.heap.size := by obtain ⟨m, hm⟩ := k0; exact DataW.trod_lt m _ _ _ hm
  obtain ⟨z0, w0⟩ : ∃ zs, IsRow .i64 W a0 len0 cap0 zs := by
    obtain ⟨fuel, hf⟩ := h0
    rcases open_ints Try.underlying22 Try.underlying3 (by kernel_rfl) hf with ⟨hcs, _⟩ | ⟨x, l, c, zs, hcs, _, hl, hm, hz, _, hcell, hwz⟩
    · simp [Value.cells] at hcs
      obtain ⟨rfl, rfl, rfl⟩ := hcs
      exact ⟨[], .inl ⟨rfl, rfl, rfl, rfl⟩⟩
    · simp [Value.cells] at hcs
      obtain ⟨rfl, rfl, rfl⟩ := hcs
      exact ⟨zs, .inr ⟨_, rfl, hl, hm, by simpa using hz, hcell, hwz⟩⟩
  have k1 := h1
  have lt1 : ∀ x ∈ p1, x.block < W.heap.size := by obtain ⟨m, hm⟩ := k1; exact DataW.trod_lt m _ _ _ hm
  obtain ⟨a1, rfl, rfl, rfl, w1⟩ := open_int Try.underlying5 (hval 1 5 v1 rfl rfl) h1
  have k2 := h2
  have lt2 : ∀ x ∈ p2, x.block < W.heap.size := by obtain ⟨m, hm⟩ := k2; exact DataW.trod_lt m _ _ _ hm
  obtain ⟨a2, rfl, rfl, rfl, w2⟩ := open_int Try.underlying5 (hval 2 5 v2 rfl rfl) h2
  clear hA0 hval0
  refine (walk a0 len0 cap0 z0 a1 a2 W w0 w1 w2).mono fun e W' ⟨he, bel⟩ => ?_
  subst he
  exact ⟨_, rfl, _, _, _, [], _, [], hW', trodAll_mk1 (shut_bool Try.underlying4 _), (trodAll_cons_mk (Below.trod laidOut (by kernel_rfl) (of_decide_eq_true (by kernel_rfl)) k0 bel lt0) (trodAll_cons_mk (Below.trod laidOut (by kernel_rfl) (of_decide_eq_true (by kernel_rfl)) k1 bel lt1) (trodAll_cons_mk (Below.trod laidOut (by kernel_rfl) (of_decide_eq_true (by kernel_rfl)) k2 bel lt2) trodAll_mk0))), rfl, bel.frame _, fun h => by cases h⟩

theorem over : Rows.kraftSplitsRow.holds Try.pinned (OpenSpec.ofChange Rows.kraftSplitsSpec) :=
  OpenClaim.holds_of_wide 4 Try.f4 rfl rfl rfl rfl rfl rfl rfl ⟨rfl, rfl, rfl, rfl, rfl⟩ rfl rfl rfl rfl rfl (by kernel_rfl) Try.func4 (by kernel_rfl)
    (of_decide_eq_true (by kernel_rfl)) (by unfold Func.isWrapper; first | (rw [if_pos (by decide +kernel)]; kernel_rfl) | (rw [if_neg (by decide +kernel)]; exact ⟨rfl, rfl⟩))
    (fun os started H enc _ => lifted os started H enc)

theorem proved : Rows.KraftSplitsSaid := over
#print axioms proved
end Go.Proofs.Ytmpmioffngonjaa.kraftSplits
