/- It is proved that the law 'TansNorms' of the program returns true for every input, with no condition, and leaves what was handed in as it was. The frame was written by a program; the walk is by hand. -/
import Derived.Test.YtplopddlpoffoaaRows
import Derived.WalkKit
import Derived.ProofKit
import Derived.OpenShut
import Derived.ShutString
import Derived.ChangeOld
import Derived.Below
import Derived.Test.YtplopddlpoffoaaBase
import Derived.Test.YtplopddlpoffoaaAM17
import Derived.Test.YtplopddlpoffoaaAM7
namespace Go.Proofs.Ytplopddlpoffoaa.tansNorms
open Go.ChangeShapes Go.WideShapes Go.ChangeAt Go.RowKit Go.Deep
open Go.ChangeMaps (open_string shut_string)
set_option linter.unusedVariables false
set_option maxRecDepth 100000

theorem own : ownKnob Try.prog.godebug = none := by kernel_rfl
theorem laidOut : laidOutB Try.prog = true := by kernel_rfl

/-- What the walk is told of a slice of integers that came in: nil, or a row of 'cap' cells that hold the numbers zs, each fitting its kind. -/
def IsRow (k : IntKind) (w : World) (a : Option Addr) (len cap : Nat) (zs : List Int) : Prop :=
  (a = none ∧ len = 0 ∧ cap = 0 ∧ zs = []) ∨
  ∃ x, a = some x ∧ len ≤ cap ∧ cap ≤ maxLen ∧ zs.length = cap ∧ (∀ i, i < zs.length → w.cell? (x.add i) = some (.int k (zs.getD i 0))) ∧ ∀ n ∈ zs, (Lit.int k n).wf = true

theorem ints_of {w : World} {a : Option Addr} {len cap : Nat} {zs : List Int} (h : IsRow .i64 w a len cap zs) : ∃ l : List Int, l.length = len ∧ len ≤ maxLen ∧ (l.length ≤ 70368744177664 → IsInts w a l) := by
  rcases h with ⟨rfl, rfl, rfl, rfl⟩ | ⟨x, rfl, hlc, hcm, hz, hc, -⟩
  · exact ⟨[], rfl, Nat.zero_le _, fun _ => ⟨by simp, .inl rfl⟩⟩
  · have e : (zs.take len).length = len := by rw [List.length_take]; omega
    refine ⟨zs.take len, e, by omega, fun h11 => ⟨by omega, .inr ⟨x, rfl, fun i hi => ?_⟩⟩⟩
    rw [e] at hi
    rw [hc i (by omega)]
    simp [List.getD, hi]
theorem normV_len (l : List Int) (n : Int) : (normV l n).length ≤ l.length := by
  unfold normV
  split
  · rw [normL_len]; exact Nat.le_refl _
  · simp
theorem sprV_len (l : List Int) (n : Int) : (sprV l n).1.length ≤ 4096 := by
  unfold sprV
  split
  · simp
  · rename_i h
    split
    · simp only
      unfold sprL
      rw [placeL_len, List.length_replicate]
      obtain ⟨m, rfl⟩ : ∃ m : Nat, n = m := ⟨n.toNat, by omega⟩
      have e : ((2 : Int) ^ (m : Int).toNat).toNat = 2 ^ m := by
        rw [Int.toNat_natCast, show ((2 : Int) ^ m) = ((2 ^ m : Nat) : Int) by simp, Int.toNat_natCast]
      have h2 : 2 ^ m ≤ 2 ^ 12 := Nat.pow_le_pow_right (by decide) (by omega)
      first | (rw [e]; exact h2) | (rw [Int.toNat_natCast]; exact h2) | exact h2
    · simp
set_option maxHeartbeats 1600000 in
theorem norms_walk (a b : Option Addr) (ca cb : Nat) (l m : List Int) (n : Int) (w : World) (h1 : IsInts w a l) (h2 : IsInts w b m) (hl1 : l.length ≤ 300) (hl2 : m.length ≤ 300) :
    Calls Try.prog 3 #[.slice a l.length ca, .slice b m.length cb, .int .i64 n] w fun e w' => e = .returned (.bool true) ∧ Below w.heap.size w w' := by
  have C1 := Lib.hid (fun W h => cNorm a ca l n W h)
  have C2 := Lib.hid (fun W h => dNorm a ca l n W h)
  have C3 := Lib.hid (fun W h => cSpread b cb m n W h)
  have C4 := Lib.hid (fun W h => dSpread b cb m n W h)
  have hn := normV_len l n
  have hs := sprV_len m n
  obtain ⟨N, hN⟩ : ∃ N, normV l n = N := ⟨_, rfl⟩
  obtain ⟨E, hE⟩ : ∃ E, (totV l n).2 = E := ⟨_, rfl⟩
  obtain ⟨⟨S, F⟩, hS⟩ : ∃ S, sprV m n = S := ⟨_, rfl⟩
  rw [hN, hE] at C1 C2
  rw [hS] at C3 C4 hs
  rw [hN] at hn
  simp only at C3 C4 hs
  have HI1 := Lib.hid h1
  have HI2 := Lib.hid h2
  clear hN hE hS h1 h2
  go_enter Try.func3, Try.ntmps3
  go_wp2_with fail
  refine (C1.out _ HI1.out).mono ?_; rintro e w1 ⟨v1, rfl, ho1, hb1⟩
  have HB := Lib.hid hb1
  have HV1 := Lib.hid (ho1.isL (by omega))
  clear ho1 hb1 C1
  go_wp2_with fail
  refine (C2.out _ (HI1.out.kept HB.out)).mono ?_; rintro e w2 ⟨v2, rfl, ho1, hb1⟩
  have HV1 := Lib.hid (HV1.out.kept hb1)
  have HV2 := Lib.hid (ho1.isL (by omega))
  have HB := Lib.hid (HB.out.trans (hb1.mono HB.out.size))
  clear ho1 hb1 C2
  go_wp2_with fail
  refine (C3.out _ (HI2.out.kept HB.out)).mono ?_; rintro e w3 ⟨v3, rfl, ho1, hb1⟩
  have HV1 := Lib.hid (HV1.out.kept hb1)
  have HV2 := Lib.hid (HV2.out.kept hb1)
  have HV3 := Lib.hid (ho1.isL (by omega))
  have HB := Lib.hid (HB.out.trans (hb1.mono HB.out.size))
  clear ho1 hb1 C3
  go_wp2_with fail
  refine (C4.out _ (HI2.out.kept HB.out)).mono ?_; rintro e w4 ⟨v4, rfl, ho1, hb1⟩
  have HV1 := Lib.hid (HV1.out.kept hb1)
  have HV2 := Lib.hid (HV2.out.kept hb1)
  have HV3 := Lib.hid (HV3.out.kept hb1)
  have HV4 := Lib.hid (ho1.isL (by omega))
  have HB := Lib.hid (HB.out.trans (hb1.mono HB.out.size))
  clear ho1 hb1 C4
  go_wp2_with fail
  refine (intsL HV1.out HV2.out true (by simp)).mono ?_; rintro e w5 ⟨rfl, k5, rfl⟩
  have HV3 := Lib.hid (HV3.out.drewN k5)
  have HV4 := Lib.hid (HV4.out.drewN k5)
  have HB := Lib.hid (below_dn HB.out k5)
  obtain ⟨w5, hw5⟩ : ∃ w5, w4.drewN k5 = w5 := ⟨_, rfl⟩
  rw [hw5] at HV3 HV4 HB ⊢
  clear hw5
  go_wp2_with fail
  refine (intsL HV3.out HV4.out true (by simp)).mono ?_; rintro e w6 ⟨rfl, k6, rfl⟩
  have HB := Lib.hid (below_dn HB.out k6)
  obtain ⟨w6, hw6⟩ : ∃ w6, w5.drewN k6 = w6 := ⟨_, rfl⟩
  rw [hw6] at HB ⊢
  clear hw6
  go_wp2_with fail
  refine (awake59 _).mono ?_; rintro e w7 ⟨rfl, hb7⟩
  go_wp2_with fail
  go_ret
  exact ⟨rfl, HB.out.trans (hb7.mono HB.out.size)⟩

set_option maxHeartbeats 1600000 in
theorem walk (a0 : Option Addr) (len0 cap0 : Nat) (z0 : List Int) (a1 : Option Addr) (len1 cap1 : Nat) (z1 : List Int) (a2 : Int) (w : World) (w0 : IsRow .i64 w a0 len0 cap0 z0) (w1 : IsRow .i64 w a1 len1 cap1 z1) (w2 : (Lit.int .i64 a2).wf = true) :
    Calls Try.prog 3 #[.slice a0 len0 cap0, .slice a1 len1 cap1, .int .i64 a2] w fun e w' => e = .returned (.bool true) ∧ Below w.heap.size w w' := by
  obtain ⟨l, hl, hmax, h0⟩ := ints_of w0
  obtain ⟨m, hm, hmax2, h1⟩ := ints_of w1
  subst hl
  subst hm
  unfold maxLen at hmax hmax2
  by_cases hlong : 300 < l.length
  · go_enter Try.func3, Try.ntmps3
    go_wp2_with fail
    refine (awake59 _).mono ?_; rintro e w1 ⟨rfl, hb⟩
    go_wp2_with fail
    go_ret
    exact ⟨rfl, hb⟩
  · by_cases hlong2 : 300 < m.length
    · go_enter Try.func3, Try.ntmps3
      go_wp2_with fail
      refine (awake59 _).mono ?_; rintro e w1 ⟨rfl, hb⟩
      go_wp2_with fail
      go_ret
      exact ⟨rfl, hb⟩
    · exact norms_walk a0 a1 cap0 cap1 l m a2 w (h0 (by omega)) (h1 (by omega)) (by omega) (by omega)

theorem lifted (os : Os) (started : os.Started) (H : Type) (enc : TypeId × Value → H) :
    ReturnsInHanded {} Try.checked os 3 .any (Rows.tansNormsSpec.pre6 enc Try.prog Try.f3 Rows.tansNormsRow.domain false) (Rows.tansNormsSpec.post enc Try.prog Try.f3 false true false false) := by
  refine returnsInHanded_of_change (C := Try.checked) own started (by kernel_rfl) Try.func3
    (ChangeSpec.witness6 (enc := enc) (C := Try.checked) false ⟨#[], #[.slice none 0 0, .slice none 0 0, .int .i64 0], []⟩ 8 (by kernel_rfl) (by kernel_rfl) (by kernel_rfl) (by kernel_rfl)) ?_
  intro W base args ds gs before hval0 hW hcnd _
  have hval : ∀ (j : Nat) t v, Try.f3.params[j]? = some t → args[j]? = some v → Value.okWide Try.prog W .any base t v := hval0
  have hW' := hW
  obtain ⟨p, q, hA0, hV, rfl, hfz, hnd⟩ := hW
  have hA : DataW.TrodAll enc Try.prog W 0 (fun _ => true) true Try.f3.params.toList args.toList ds p := hA0
  rw [Try.params3] at hA hval
  obtain ⟨v0, vs0, d0, ds0, p0, q0, hargs, rfl, rfl, h0, r0⟩ := trodAll_cons hA
  obtain ⟨v1, vs1, d1, ds1, p1, q1, rfl, rfl, rfl, h1, r1⟩ := trodAll_cons r0
  obtain ⟨v2, vs2, d2, ds2, p2, q2, rfl, rfl, rfl, h2, r2⟩ := trodAll_cons r1
  obtain ⟨rfl, rfl, rfl⟩ := trodAll_nil r2
  obtain rfl : args = #[v0, v1, v2] := by cases args; simp_all
  obtain ⟨rfl, rfl⟩ := trodVars_none hV
  obtain ⟨a0, len0, cap0, rfl⟩ := okWide_slice Try.underlying22 (hval 0 22 v0 rfl rfl)
  have k0 := h0
  have lt0 : ∀ x ∈ p0, x.block < W.heap.size := by obtain ⟨m, hm⟩ := k0; exact DataW.trod_lt m _ _ _ hm
  obtain ⟨z0, w0⟩ : ∃ zs, IsRow .i64 W a0 len0 cap0 zs := by
    obtain ⟨fuel, hf⟩ := h0
    rcases open_ints Try.underlying22 Try.underlying3 (by kernel_rfl) hf with ⟨hcs, _⟩ | ⟨x, l, c, zs, hcs, _, hl, hm, hz, _, hcell, hwz⟩
    · simp [Value.cells] at hcs
      obtain ⟨rfl, rfl, rfl⟩ := hcs
      exact ⟨[], .inl ⟨rfl, rfl, rfl, rfl⟩⟩
    · simp [Value.cells] at hcs
      obtain ⟨rfl, rfl, rfl⟩ := hcs
      exact ⟨zs, .inr ⟨_, rfl, hl, hm, by simpa using hz, hcell, hwz⟩⟩
  obtain ⟨a1, len1, cap1, rfl⟩ := okWide_slice Try.underlying22 (hval 1 22 v1 rfl rfl)
  have k1 := h1
  have lt1 : ∀ x ∈ p1, x.block < W.heap.size := by obtain ⟨m, hm⟩ := k1; exact DataW.trod_lt m _ _ _ hm
  obtain ⟨z1, w1⟩ : ∃ zs, IsRow .i64 W a1 len1 cap1 zs := by
    obtain ⟨fuel, hf⟩ := h1
    rcases open_ints Try.underlying22 Try.underlying3 (by kernel_rfl) hf with ⟨hcs, _⟩ | ⟨x, l, c, zs, hcs, _, hl, hm, hz, _, hcell, hwz⟩
    · simp [Value.cells] at hcs
      obtain ⟨rfl, rfl, rfl⟩ := hcs
      exact ⟨[], .inl ⟨rfl, rfl, rfl, rfl⟩⟩
    · simp [Value.cells] at hcs
      obtain ⟨rfl, rfl, rfl⟩ := hcs
      exact ⟨zs, .inr ⟨_, rfl, hl, hm, by simpa using hz, hcell, hwz⟩⟩
  have k2 := h2
  have lt2 : ∀ x ∈ p2, x.block < W.heap.size := by obtain ⟨m, hm⟩ := k2; exact DataW.trod_lt m _ _ _ hm
  obtain ⟨a2, rfl, rfl, rfl, w2⟩ := open_int Try.underlying3 (hval 2 3 v2 rfl rfl) h2
  clear hA0 hval0
  refine (walk a0 len0 cap0 z0 a1 len1 cap1 z1 a2 W w0 w1 w2).mono fun e W' ⟨he, bel⟩ => ?_
  subst he
  exact ⟨_, rfl, _, _, _, [], _, [], hW', trodAll_mk1 (shut_bool Try.underlying4 _), (trodAll_cons_mk (Below.trod laidOut (by kernel_rfl) (of_decide_eq_true (by kernel_rfl)) k0 bel lt0) (trodAll_cons_mk (Below.trod laidOut (by kernel_rfl) (of_decide_eq_true (by kernel_rfl)) k1 bel lt1) (trodAll_cons_mk (Below.trod laidOut (by kernel_rfl) (of_decide_eq_true (by kernel_rfl)) k2 bel lt2) trodAll_mk0))), rfl, bel.frame _, fun h => by cases h⟩

theorem over : Rows.tansNormsRow.holds Try.pinned (OpenSpec.ofChange Rows.tansNormsSpec) :=
  OpenClaim.holds_of_wide 3 Try.f3 rfl rfl rfl rfl rfl rfl rfl ⟨rfl, rfl, rfl, rfl, rfl⟩ rfl rfl rfl rfl rfl (by kernel_rfl) Try.func3 (by kernel_rfl)
    (of_decide_eq_true (by kernel_rfl)) (by unfold Func.isWrapper; first | (rw [if_pos (by decide +kernel)]; kernel_rfl) | (rw [if_neg (by decide +kernel)]; exact ⟨rfl, rfl⟩))
    (fun os started H enc _ => lifted os started H enc)

theorem proved : Rows.TansNormsSaid := over
#print axioms proved
end Go.Proofs.Ytplopddlpoffoaa.tansNorms
