/- It is proved that the law 'GramsCount' of the program returns true for every input, with no condition, and leaves what was handed in as it was. The frame was written by a program; the walk is by hand. -/
import Derived.Test.YtdonecbcnkipbaaRows
import Derived.WalkKit
import Derived.ProofKit
import Derived.OpenShut
import Derived.ShutString
import Derived.ChangeOld
import Derived.Below
import Derived.Test.YtdonecbcnkipbaaBase
import Derived.Deep.Strs
import Derived.Test.YtdonecbcnkipbaaAQ13
namespace Go.Proofs.Ytdonecbcnkipbaa.gramsCount
open Go.ChangeShapes Go.WideShapes Go.ChangeAt Go.RowKit Go.Deep
open Go.ChangeMaps (open_string shut_string)
set_option linter.unusedVariables false
set_option maxRecDepth 100000

theorem own : ownKnob Try.prog.godebug = none := by kernel_rfl
theorem laidOut : laidOutB Try.prog = true := by kernel_rfl

/-- What the walk is told of a slice of strings that came in. -/
def IsStrs (w : World) (a : Option Addr) (len : Nat) (zs : List ByteArray) : Prop :=
  zs.length = len ∧ len ≤ maxLen ∧ (∀ z ∈ zs, z.size ≤ maxLen) ∧ (zs = [] ∨ ∃ x, a = some x ∧ ∀ i, i < zs.length → w.cell? (x.add i) = some (.string (zs.getD i ByteArray.empty)))

open RollMath Gm
theorem ts_of {w : World} {a : Option Addr} {n : Nat} {zs : List ByteArray} (h : IsStrs w a n zs) : ∃ ls : List Tx, ls.length = n ∧ n ≤ maxLen ∧ IsTs w a ls := by
  obtain ⟨h1, h2, -, h4⟩ := h
  refine ⟨zs.map (·.data.toList), by rw [List.length_map, h1], h2, ?_⟩
  rcases h4 with rfl | ⟨x, rfl, hc⟩
  · exact .inl rfl
  · refine .inr ⟨x, rfl, fun i hi => ?_⟩
    rw [List.length_map] at hi
    rw [hc i hi]
    simp [List.getD_eq_getElem?_getD, hi, sT_of]
set_option maxHeartbeats 3200000 in
theorem count_walk (a : Option Addr) (c : Nat) (ls : List Tx) (k SZ : Int) (w : World) (h : IsTs w a ls) (hl : ls.length ≤ maxLen) :
    Calls Try.prog 3 #[.slice a ls.length c, .int .i64 k, .int .i64 SZ] w fun e w' => e = .returned (.bool true) ∧ Below w.heap.size w w' := by
  have HI := Lib.hid h
  have CF := Lib.hid (cFew a c ls w h (by unfold maxLen at hl; omega))
  have CA := Lib.hid (fun W => awake43 W)
  rcases hf : fewB ls with _ | _
  · rw [hf] at CF
    clear hf h
    go_enter Try.func3, Try.ntmps3
    go_wp2_with fail
    refine CF.out.mono ?_; rintro e w1 ⟨rfl, q1, h1⟩
    have HB1 := Lib.hid (show Below w.heap.size w w1 by rw [h1]; exact below_dn (Below.refl _ _) q1)
    clear h1 CF
    go_wp2_with fail
    refine (CA.out _).mono ?_; rintro e w2 ⟨rfl, hb2⟩
    have HB2 := Lib.hid (HB1.out.trans (hb2.mono HB1.out.size))
    clear hb2 CA HB1
    go_wp2_with fail
    go_ret
    exact ⟨rfl, HB2.out⟩
  · rw [hf] at CF
    have hF := few_of hf
    have CB := Lib.hid (fun W (h : IsTs W a ls) => cBuildV a c ls SZ k W h hF)
    have DB := Lib.hid (fun W (h : IsTs W a ls) => dBuildV a c ls SZ k W h hF)
    have CC := Lib.hid (fun W (h : IsTs W a ls) => cCountV a c ls k W h hF)
    have DC := Lib.hid (fun W (h : IsTs W a ls) => dCountV a c ls k W h hF)
    have hcf := (cntV_few hF k).1
    obtain ⟨⟨s, E⟩, hb⟩ : ∃ x, bldV SZ k ls = x := ⟨_, rfl⟩
    obtain ⟨L, hL⟩ : ∃ L, cntV k ls = L := ⟨_, rfl⟩
    rw [hb] at CB DB
    rw [hL] at CC DC hcf
    have CS := Lib.hid (fun W a b ca cb (h1 : IsGr W a L) (h2 : IsGr W b L) => by have := dSameG a b ca cb L L W h1 h2 (by omega) (by omega); rw [decide_eq_true rfl] at this; exact this)
    clear hf h hb hL hF
    go_enter Try.func3, Try.ntmps3
    go_wp2_with fail
    refine CF.out.mono ?_; rintro e w1 ⟨rfl, q1, h1⟩
    have HB1 := Lib.hid (show Below w.heap.size w w1 by rw [h1]; exact below_dn (Below.refl _ _) q1)
    clear h1 CF
    go_wp2_with fail
    refine (CB.out _ (HI.out.kept HB1.out)).mono ?_; rintro e w2 ⟨rfl, hb2⟩
    have HB2 := Lib.hid (HB1.out.trans (hb2.mono HB1.out.size))
    clear hb2 CB HB1
    go_wp2_with fail
    refine (DB.out _ (HI.out.kept HB2.out)).mono ?_; rintro e w3 ⟨rfl, hb3⟩
    have HB3 := Lib.hid (HB2.out.trans (hb3.mono HB2.out.size))
    clear hb3 DB HB2
    go_wp2_with fail
    refine (CC.out _ (HI.out.kept HB3.out)).mono ?_; rintro e w4 ⟨v4, rfl, ho4, hb4⟩
    obtain ⟨a4, c4, rfl, -, hg4⟩ := OwnG.gr ho4
    have HG4 := Lib.hid hg4
    have HB4 := Lib.hid (HB3.out.trans (hb4.mono HB3.out.size))
    clear hb4 CC HB3 hg4 ho4
    go_wp2_with fail
    refine (DC.out _ (HI.out.kept HB4.out)).mono ?_; rintro e w5 ⟨v5, rfl, ho5, hb5⟩
    obtain ⟨a5, c5, rfl, -, hg5⟩ := OwnG.gr ho5
    have HG5 := Lib.hid hg5
    have HG4' := Lib.hid (HG4.out.kept hb5)
    have HB5 := Lib.hid (HB4.out.trans (hb5.mono HB4.out.size))
    clear hb5 DC HB4 hg5 ho5 HG4
    go_wp2_with fail
    refine (CS.out _ _ _ _ _ HG4'.out HG5.out).mono ?_; rintro e w6 ⟨rfl, q6, h6⟩
    have HB6 := Lib.hid (show Below w.heap.size w w6 by rw [h6]; exact below_dn HB5.out q6)
    clear h6 CS HB5 HG4' HG5
    go_wp2_with fail
    refine (CA.out _).mono ?_; rintro e w7 ⟨rfl, hb7⟩
    have HB7 := Lib.hid (HB6.out.trans (hb7.mono HB6.out.size))
    clear hb7 CA HB6
    go_wp2_with fail
    go_ret
    exact ⟨rfl, HB7.out⟩

set_option maxHeartbeats 3200000 in
theorem walk (a0 : Option Addr) (len0 cap0 : Nat) (z0 : List ByteArray) (a1 : Int) (a2 : Int) (w : World) (w0 : IsStrs w a0 len0 z0) (w1 : (Lit.int .i64 a1).wf = true) (w2 : (Lit.int .i64 a2).wf = true) :
    Calls Try.prog 3 #[.slice a0 len0 cap0, .int .i64 a1, .int .i64 a2] w fun e w' => e = .returned (.bool true) ∧ Below w.heap.size w w' := by
  obtain ⟨ls, hl, hm, hi⟩ := ts_of w0
  subst hl
  exact count_walk a0 cap0 ls a1 a2 w hi hm

theorem lifted (os : Os) (started : os.Started) (H : Type) (enc : TypeId × Value → H) :
    ReturnsInHanded {} Try.checked os 3 .any (Rows.gramsCountSpec.pre6 enc Try.prog Try.f3 Rows.gramsCountRow.domain false) (Rows.gramsCountSpec.post enc Try.prog Try.f3 false true false false) := by
  refine returnsInHanded_of_change (C := Try.checked) own started (by kernel_rfl) Try.func3
    (ChangeSpec.witness6 (enc := enc) (C := Try.checked) false ⟨#[], #[.slice none 0 0, .int .i64 0, .int .i64 0], []⟩ 8 (by kernel_rfl) (by kernel_rfl) (by kernel_rfl) (by kernel_rfl)) ?_
  intro W base args ds gs before hval0 hW hcnd _
  have hval : ∀ (j : Nat) t v, Try.f3.params[j]? = some t → args[j]? = some v → Value.okWide Try.prog W .any base t v := hval0
  have hW' := hW
  obtain ⟨p, q, hA0, hV, rfl, hfz, hnd⟩ := hW
  have hA : DataW.TrodAll enc Try.prog W 0 (fun _ => true) true Try.f3.params.toList args.toList ds p := hA0
  rw [Try.params3] at hA hval
  obtain ⟨v0, vs0, d0, ds0, p0, q0, hargs, rfl, rfl, h0, r0⟩ := trodAll_cons hA
  obtain ⟨v1, vs1, d1, ds1, p1, q1, rfl, rfl, rfl, h1, r1⟩ := trodAll_cons r0
  obtain ⟨v2, vs2, d2, ds2, p2, q2, rfl, rfl, rfl, h2, r2⟩ := trodAll_cons r1
  obtain ⟨rfl, rfl, rfl⟩ := trodAll_nil r2
  obtain rfl : args = #[v0, v1, v2] := by cases args; simp_all
  obtain ⟨rfl, rfl⟩ := trodVars_none hV
  obtain ⟨a0, len0, cap0, rfl⟩ := okWide_slice Try.underlying22 (hval 0 22 v0 rfl rfl)
  have k0 := h0
  have lt0 : ∀ x ∈ p0, x.block < W.heap.size := by obtain ⟨m, hm⟩ := k0; exact DataW.trod_lt m _ _ _ hm
  obtain ⟨z0, w0⟩ : ∃ zs, IsStrs W a0 len0 zs := by
    obtain ⟨fuel, hf⟩ := h0
    rcases open_strs Try.underlying22 Try.underlying9 (by kernel_rfl) hf with ⟨hcs, _⟩ | ⟨x, l, c, m, Sx, hcs, _, hl, hm, hmm, _, hcell⟩
    · simp [Value.cells] at hcs
      obtain ⟨rfl, rfl, rfl⟩ := hcs
      exact ⟨[], rfl, Nat.zero_le _, by simp, .inl rfl⟩
    · simp [Value.cells] at hcs
      obtain ⟨rfl, rfl, rfl⟩ := hcs
      have hlm : len0 ≤ m := by rw [hmm]; split <;> omega
      exact ⟨(List.range len0).map Sx, by simp, by omega, by
        intro z hz
        obtain ⟨i, hi, rfl⟩ := List.mem_map.1 hz
        exact (hcell i (by have := List.mem_range.1 hi; omega)).2, .inr ⟨_, rfl, fun i hi => by rw [(hcell i (by simp at hi; omega)).1]; simp at hi; simp [List.getD, hi]⟩⟩
  have k1 := h1
  have lt1 : ∀ x ∈ p1, x.block < W.heap.size := by obtain ⟨m, hm⟩ := k1; exact DataW.trod_lt m _ _ _ hm
  obtain ⟨a1, rfl, rfl, rfl, w1⟩ := open_int Try.underlying3 (hval 1 3 v1 rfl rfl) h1
  have k2 := h2
  have lt2 : ∀ x ∈ p2, x.block < W.heap.size := by obtain ⟨m, hm⟩ := k2; exact DataW.trod_lt m _ _ _ hm
  obtain ⟨a2, rfl, rfl, rfl, w2⟩ := open_int Try.underlying3 (hval 2 3 v2 rfl rfl) h2
  clear hA0 hval0
  refine (walk a0 len0 cap0 z0 a1 a2 W w0 w1 w2).mono fun e W' ⟨he, bel⟩ => ?_
  subst he
  exact ⟨_, rfl, _, _, _, [], _, [], hW', trodAll_mk1 (shut_bool Try.underlying4 _), (trodAll_cons_mk (Below.trod laidOut (by kernel_rfl) (of_decide_eq_true (by kernel_rfl)) k0 bel lt0) (trodAll_cons_mk (Below.trod laidOut (by kernel_rfl) (of_decide_eq_true (by kernel_rfl)) k1 bel lt1) (trodAll_cons_mk (Below.trod laidOut (by kernel_rfl) (of_decide_eq_true (by kernel_rfl)) k2 bel lt2) trodAll_mk0))), rfl, bel.frame _, fun h => by cases h⟩

theorem over : Rows.gramsCountRow.holds Try.pinned (OpenSpec.ofChange Rows.gramsCountSpec) :=
  OpenClaim.holds_of_wide 3 Try.f3 rfl rfl rfl rfl rfl rfl rfl ⟨rfl, rfl, rfl, rfl, rfl⟩ rfl rfl rfl rfl rfl (by kernel_rfl) Try.func3 (by kernel_rfl)
    (of_decide_eq_true (by kernel_rfl)) (by unfold Func.isWrapper; first | (rw [if_pos (by decide +kernel)]; kernel_rfl) | (rw [if_neg (by decide +kernel)]; exact ⟨rfl, rfl⟩))
    (fun os started H enc _ => lifted os started H enc)

theorem proved : Rows.GramsCountSaid := over
#print axioms proved
end Go.Proofs.Ytdonecbcnkipbaa.gramsCount
