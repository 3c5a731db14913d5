/- It is proved that the law 'BittreeBack' of the program returns true for every input, with no condition, and leaves what was handed in as it was. The frame was written by a program; the walk is by hand. -/
import Derived.Test.YtkdkedgpchcfpaaRows
import Derived.WalkKit
import Derived.ProofKit
import Derived.OpenShut
import Derived.ShutString
import Derived.ChangeOld
import Derived.Below
import Derived.Test.YtkdkedgpchcfpaaBase
import Derived.Test.YtkdkedgpchcfpaaG24
import Derived.Test.YtkdkedgpchcfpaaK3
namespace Go.Proofs.Ytkdkedgpchcfpaa.bittreeBack
open Go.ChangeShapes Go.WideShapes Go.ChangeAt Go.RowKit Go.Deep
open Go.ChangeMaps (open_string shut_string)
set_option linter.unusedVariables false
set_option maxRecDepth 100000

theorem own : ownKnob Try.prog.godebug = none := by kernel_rfl
theorem laidOut : laidOutB Try.prog = true := by kernel_rfl

/-- What the walk is told of a slice of integers that came in: nil, or a row of 'cap' cells that hold the numbers zs, each fitting its kind. -/
def IsRow (k : IntKind) (w : World) (a : Option Addr) (len cap : Nat) (zs : List Int) : Prop :=
  (a = none ∧ len = 0 ∧ cap = 0 ∧ zs = []) ∨
  ∃ x, a = some x ∧ len ≤ cap ∧ cap ≤ maxLen ∧ zs.length = cap ∧ (∀ i, i < zs.length → w.cell? (x.add i) = some (.int k (zs.getD i 0))) ∧ ∀ n ∈ zs, (Lit.int k n).wf = true

open Range
theorem K_of {k : IntKind} {M : Int} {w : World} {a : Option Addr} {len cap : Nat} {zs : List Int} (hk : ∀ n, (Lit.int k n).wf = true → 0 ≤ n ∧ n ≤ M) (h : IsRow k w a len cap zs) : ∃ l : List Int, l.length = len ∧ len ≤ maxLen ∧ IsK k M w a l := by
  rcases h with ⟨rfl, rfl, rfl, rfl⟩ | ⟨x, rfl, hlc, hcm, hz, hc, hw⟩
  · exact ⟨[], rfl, Nat.zero_le _, by simp, .inl rfl⟩
  · have e : (zs.take len).length = len := by rw [List.length_take]; omega
    refine ⟨zs.take len, e, by omega, fun z hz => hk z (hw z (List.mem_of_mem_take hz)), .inr ⟨x, rfl, fun i hi => ?_⟩⟩
    rw [e] at hi
    rw [hc i (by omega)]
    simp [List.getD, hi]
def cutB (K : Nat) (l : List Int) : List Int := l.map fun x => x % ((2 ^ K : Nat) : Int)
theorem cut_in (K : Nat) (l : List Int) : inB K (cutB K l) = true := by
  unfold inB
  rw [List.all_eq_true]
  intro x hx
  obtain ⟨z, -, rfl⟩ := List.mem_map.1 hx
  have : 0 < 2 ^ K := Nat.pow_pos (by decide)
  simp only [Bool.and_eq_true, decide_eq_true_eq]
  have e1 : 0 ≤ z % ((2 ^ K : Nat) : Int) := Int.emod_nonneg _ (by omega)
  have e2 : z % ((2 ^ K : Nat) : Int) < ((2 ^ K : Nat) : Int) := Int.emod_lt_of_pos _ (by omega)
  exact ⟨e1, e2⟩
theorem and_mask (Z : Int) (K : Nat) (h0 : 0 ≤ Z) (h1 : Z ≤ 65535) (hK : K ≤ 9) : bits .and .i64 Z (((2 ^ K : Nat) : Int) - 1) = Z % ((2 ^ K : Nat) : Int) := by
  obtain ⟨z, rfl⟩ : ∃ z : Nat, Z = z := ⟨Z.toNat, by omega⟩
  have hp : 0 < 2 ^ K := Nat.pow_pos (by decide)
  have hp2 : 2 ^ K ≤ 2 ^ 9 := Nat.pow_le_pow_right (by decide) hK
  have e2 : ((2 ^ K : Nat) : Int) - 1 = ((2 ^ K - 1 : Nat) : Int) := by omega
  have h := (bits_nat .i64 32 (by decide) (fun n h1 h2 => IntWalk.i64_in n (by omega)) z (2 ^ K - 1) (by omega) (by omega)).1
  rw [e2, h, Nat.and_two_pow_sub_one_eq_mod]
  simp
theorem mask_w (K : Nat) (hK : K ≤ 9) : wrap64 (wrap64 ((2 : Int) ^ K) - 1) = ((2 ^ K : Nat) : Int) - 1 := by
  have hp2 : 2 ^ K ≤ 2 ^ 9 := Nat.pow_le_pow_right (by decide) hK
  have e1 : (2 : Int) ^ K = ((2 ^ K : Nat) : Int) := by simp
  have hp : 0 < 2 ^ K := Nat.pow_pos (by decide)
  rw [e1]
  generalize 2 ^ K = q at *
  have e2 : wrap64 (q : Int) = q := by unfold wrap64; omega
  rw [e2]; unfold wrap64; omega
set_option maxHeartbeats 3200000 in
theorem back_walk (a0 : Option Addr) (c0 : Nat) (l : List Int) (n : Int) (K : Nat) (hn : 0 ≤ n ∧ n ≤ 255) (hK : n % 9 + 1 = K) (w : World) (h0 : IsK .u16 65535 w a0 l) (hl : l.length ≤ 400) :
    Calls Try.prog 8 #[.slice a0 l.length c0, .int .u8 n] w fun e w' => e = .returned (.bool true) ∧ Below w.heap.size w w' := by
  have hK1 : 1 ≤ K := by omega
  have hK9 : K ≤ 9 := by omega
  have hcl : (cutB K l).length = l.length := by simp [cutB]
  obtain ⟨S, hS1, hS2, hS3⟩ := back46 (cutB K l) K hK1 hK9 (cut_in K l) (by omega) []
  have HS1 := Lib.hid hS1; have HS2 := Lib.hid hS2; have HCL := Lib.hid hcl
  have hSs : (sB S).size ≤ 20000 := by rw [sB_size]; omega
  have HK := Lib.hid h0
  have HM := Lib.hid (fun Z h0 h1 => (congrArg (bits .and .i64 Z) (mask_w K hK9)).trans (and_mask Z K h0 h1 hK9))
  clear h0 hS1 hS2 hcl hS3
  go_enter Try.func8, Try.ntmps8
  go_wp2_with fail
  go_loopw [6, 7] (fun u i wr => ∃ k : Nat, k ≤ l.length ∧ i = .int .i64 k ∧ OwnI w.heap.size wr u (cutB K (l.take k)) ∧ Below w.heap.size w wr) (fun _ i _ => l.length - (intOf i).toNat)
  case atStart => exact ⟨0, Nat.zero_le _, rfl, by simpa [cutB] using OwnS.nil, Below.refl _ _⟩
  case round =>
    obtain ⟨k, hk, rfl, hown, hbe⟩ := hrel
    by_cases hlt : k < l.length
    · obtain ⟨x, rfl, hxb, cx, z0, z1⟩ := HK.out.at k hlt
      have hbs := hbe.size
      have HT := Lib.hid (map_take1 (fun x => x % ((2 ^ K : Nat) : Int)) l k hlt)
      rw [← hbe.cell (by rw [add_block]; exact hxb)] at cx
      obtain ⟨Z, hZ⟩ : ∃ Z, l.getD k 0 = Z := ⟨_, rfl⟩
      rw [hZ] at cx z0 z1 HT
      have HMZ := Lib.hid (HM.out Z z0 z1)
      have HLn := Lib.hid (show (cutB K (l.take k)).length ≤ 1099511627776 by unfold cutB; rw [List.length_map, List.length_take]; omega)
      have HBs := Lib.hid hbs
      have hown_ := Lib.hid hown
      have hbe_ := Lib.hid hbe
      clear hown hbe
      clear hZ
      go_wp2_with (at_builtin; refine app_int rfl _ _ rfl _ _ _ _ _ rfl hown_.out _ 1 rfl rfl HLn.out HBs.out ?_; intro v2 w2 hown2 hb2 hg2)
      have hown2 : OwnI w.heap.size w2 v2 (cutB K (l.take (k + 1))) := by
        rw [HMZ.out] at hown2
        unfold cutB at hown2 ⊢
        rw [← HT.out]; exact hown2
      have hb3 := hbe_.out.trans hb2
      have hown2_ := Lib.hid hown2
      have hb3_ := Lib.hid hb3
      clear hown2 hb3
      clear hb2 hg2
      go_wp2_with fail
      go_roundw
      case rel => exact ⟨k + 1, by omega, by go_num, hown2_.out, hb3_.out⟩
      case measure => simp [intOf]; omega
    · obtain rfl : k = l.length := by omega
      rw [List.take_length] at hown
      have g1 := hown.isL (by rw [HCL.out]; omega)
      have G1 := Lib.hid g1
      have HB := Lib.hid hbe
      obtain ⟨ax, dx, rfl⟩ := own_slice hown
      rw [HCL.out] at G1 ⊢
      clear hown g1 hbe
      go_wp2_with fail
      refine (tEncodeT G1.out (by rw [HCL.out]; omega) K S 0 HS1.out).mono ?_; rintro e w2 ⟨rfl, hb2⟩
      have G1 := Lib.hid (G1.out.kept hb2)
      have HB := Lib.hid (HB.out.trans (hb2.mono HB.out.size))
      clear hb2
      have HD := Lib.hid (show decB (sB S).data.toList l.length K = (cutB K l, 0) by
        have : (sB S).data.toList = S ++ [] := by simp [sB]
        rw [this, ← HCL.out]; exact HS2.out)
      go_wp2_with fail
      refine (tDecodeT (sB S) (by omega) l.length K (cutB K l) 0 HD.out).mono ?_; rintro e w3 ⟨v3, rfl, i3, hb3⟩
      have I3 := Lib.hid i3
      have G1 := Lib.hid (G1.out.kept hb3)
      have HB := Lib.hid (HB.out.trans (hb3.mono HB.out.size))
      clear i3 hb3
      go_wp2_with fail
      refine (intsL I3.out G1.out true (by simp)).mono ?_; rintro e w4 ⟨rfl, k4, rfl⟩
      have HB := Lib.hid (below_dn HB.out k4)
      go_wp2_with fail
      refine (awake46 _).mono ?_; rintro e w5 ⟨rfl, hb5⟩
      go_wp2_with fail
      go_ret
      exact ⟨rfl, HB.out.trans (hb5.mono HB.out.size)⟩

set_option maxHeartbeats 3200000 in
theorem walk (a0 : Option Addr) (len0 cap0 : Nat) (z0 : List Int) (a1 : Int) (w : World) (w0 : IsRow .u16 w a0 len0 cap0 z0) (w1 : (Lit.int .u8 a1).wf = true) :
    Calls Try.prog 8 #[.slice a0 len0 cap0, .int .u8 a1] w fun e w' => e = .returned (.bool true) ∧ Below w.heap.size w w' := by
  obtain ⟨l, hl, hmax, h1⟩ := K_of (M := 65535) (fun n h => by have := bounds_u16 h; omega) w0
  clear w0
  subst hl
  unfold maxLen at hmax
  obtain ⟨b0, b1⟩ := bounds_u8 w1
  by_cases hlong : 400 < l.length
  · go_enter Try.func8, Try.ntmps8
    go_wp2_with fail
    refine (awake46 _).mono ?_; rintro e w1 ⟨rfl, hb⟩
    go_wp2_with fail
    go_ret
    exact ⟨rfl, hb⟩
  · exact back_walk a0 cap0 l a1 (a1 % 9 + 1).toNat ⟨b0, b1⟩ (by omega) w h1 (by omega)

theorem lifted (os : Os) (started : os.Started) (H : Type) (enc : TypeId × Value → H) :
    ReturnsInHanded {} Try.checked os 8 .any (Rows.bittreeBackSpec.pre6 enc Try.prog Try.f8 Rows.bittreeBackRow.domain false) (Rows.bittreeBackSpec.post enc Try.prog Try.f8 false true false false) := by
  refine returnsInHanded_of_change (C := Try.checked) own started (by kernel_rfl) Try.func8
    (ChangeSpec.witness6 (enc := enc) (C := Try.checked) false ⟨#[], #[.slice none 0 0, .int .u8 0], []⟩ 8 (by kernel_rfl) (by kernel_rfl) (by kernel_rfl) (by kernel_rfl)) ?_
  intro W base args ds gs before hval0 hW hcnd _
  have hval : ∀ (j : Nat) t v, Try.f8.params[j]? = some t → args[j]? = some v → Value.okWide Try.prog W .any base t v := hval0
  have hW' := hW
  obtain ⟨p, q, hA0, hV, rfl, hfz, hnd⟩ := hW
  have hA : DataW.TrodAll enc Try.prog W 0 (fun _ => true) true Try.f8.params.toList args.toList ds p := hA0
  rw [Try.params8] at hA hval
  obtain ⟨v0, vs0, d0, ds0, p0, q0, hargs, rfl, rfl, h0, r0⟩ := trodAll_cons hA
  obtain ⟨v1, vs1, d1, ds1, p1, q1, rfl, rfl, rfl, h1, r1⟩ := trodAll_cons r0
  obtain ⟨rfl, rfl, rfl⟩ := trodAll_nil r1
  obtain rfl : args = #[v0, v1] := by cases args; simp_all
  obtain ⟨rfl, rfl⟩ := trodVars_none hV
  obtain ⟨a0, len0, cap0, rfl⟩ := okWide_slice Try.underlying47 (hval 0 47 v0 rfl rfl)
  have k0 := h0
  have lt0 : ∀ x ∈ p0, x.block < W.heap.size := by obtain ⟨m, hm⟩ := k0; exact DataW.trod_lt m _ _ _ hm
  obtain ⟨z0, w0⟩ : ∃ zs, IsRow .u16 W a0 len0 cap0 zs := by
    obtain ⟨fuel, hf⟩ := h0
    rcases open_ints Try.underlying47 Try.underlying48 (by kernel_rfl) hf with ⟨hcs, _⟩ | ⟨x, l, c, zs, hcs, _, hl, hm, hz, _, hcell, hwz⟩
    · simp [Value.cells] at hcs
      obtain ⟨rfl, rfl, rfl⟩ := hcs
      exact ⟨[], .inl ⟨rfl, rfl, rfl, rfl⟩⟩
    · simp [Value.cells] at hcs
      obtain ⟨rfl, rfl, rfl⟩ := hcs
      exact ⟨zs, .inr ⟨_, rfl, hl, hm, by simpa using hz, hcell, hwz⟩⟩
  have k1 := h1
  have lt1 : ∀ x ∈ p1, x.block < W.heap.size := by obtain ⟨m, hm⟩ := k1; exact DataW.trod_lt m _ _ _ hm
  obtain ⟨a1, rfl, rfl, rfl, w1⟩ := open_int Try.underlying5 (hval 1 5 v1 rfl rfl) h1
  clear hA0 hval0
  refine (walk a0 len0 cap0 z0 a1 W w0 w1).mono fun e W' ⟨he, bel⟩ => ?_
  subst he
  exact ⟨_, rfl, _, _, _, [], _, [], hW', trodAll_mk1 (shut_bool Try.underlying4 _), (trodAll_cons_mk (Below.trod laidOut (by kernel_rfl) (of_decide_eq_true (by kernel_rfl)) k0 bel lt0) (trodAll_cons_mk (Below.trod laidOut (by kernel_rfl) (of_decide_eq_true (by kernel_rfl)) k1 bel lt1) trodAll_mk0)), rfl, bel.frame _, fun h => by cases h⟩

theorem over : Rows.bittreeBackRow.holds Try.pinned (OpenSpec.ofChange Rows.bittreeBackSpec) :=
  OpenClaim.holds_of_wide 8 Try.f8 rfl rfl rfl rfl rfl rfl rfl ⟨rfl, rfl, rfl, rfl, rfl⟩ rfl rfl rfl rfl rfl (by kernel_rfl) Try.func8 (by kernel_rfl)
    (of_decide_eq_true (by kernel_rfl)) (by unfold Func.isWrapper; first | (rw [if_pos (by decide +kernel)]; kernel_rfl) | (rw [if_neg (by decide +kernel)]; exact ⟨rfl, rfl⟩))
    (fun os started H enc _ => lifted os started H enc)

theorem proved : Rows.BittreeBackSaid := over
#print axioms proved
end Go.Proofs.Ytkdkedgpchcfpaa.bittreeBack
