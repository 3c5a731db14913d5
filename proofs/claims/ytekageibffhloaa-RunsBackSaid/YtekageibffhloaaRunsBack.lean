/- It is proved that the law 'RunsBack' of the program returns true for every input, with no condition, and leaves what was handed in as it was. The frame was written by a program; the walk is by hand. -/
import Derived.Test.YtekageibffhloaaRows
import Derived.WalkKit
import Derived.ProofKit
import Derived.OpenShut
import Derived.ShutString
import Derived.ChangeOld
import Derived.Below
import Derived.Test.YtekageibffhloaaBase
import Derived.Test.YtekageibffhloaaR8
import Derived.Test.YtekageibffhloaaK3
namespace Go.Proofs.Ytekageibffhloaa.runsBack
open Go.ChangeShapes Go.WideShapes Go.ChangeAt Go.RowKit Go.Deep
open Go.ChangeMaps (open_string shut_string)
set_option linter.unusedVariables false
set_option maxRecDepth 100000

theorem own : ownKnob Try.prog.godebug = none := by kernel_rfl
theorem laidOut : laidOutB Try.prog = true := by kernel_rfl

/-- What the walk is told of a slice of integers that came in: nil, or a row of 'cap' cells that hold the numbers zs, each fitting its kind. -/
def IsRow (k : IntKind) (w : World) (a : Option Addr) (len cap : Nat) (zs : List Int) : Prop :=
  (a = none ∧ len = 0 ∧ cap = 0 ∧ zs = []) ∨
  ∃ x, a = some x ∧ len ≤ cap ∧ cap ≤ maxLen ∧ zs.length = cap ∧ (∀ i, i < zs.length → w.cell? (x.add i) = some (.int k (zs.getD i 0))) ∧ ∀ n ∈ zs, (Lit.int k n).wf = true

open RunsMath
theorem K_of {k : IntKind} {M : Int} {w : World} {a : Option Addr} {len cap : Nat} {zs : List Int} (hk : ∀ n, (Lit.int k n).wf = true → 0 ≤ n ∧ n ≤ M) (h : IsRow k w a len cap zs) : ∃ l : List Int, l.length = len ∧ len ≤ maxLen ∧ IsK k M w a l := by
  rcases h with ⟨rfl, rfl, rfl, rfl⟩ | ⟨x, rfl, hlc, hcm, hz, hc, hw⟩
  · exact ⟨[], rfl, Nat.zero_le _, by simp, .inl rfl⟩
  · have e : (zs.take len).length = len := by rw [List.length_take]; omega
    refine ⟨zs.take len, e, by omega, fun z hz => hk z (hw z (List.mem_of_mem_take hz)), .inr ⟨x, rfl, fun i hi => ?_⟩⟩
    rw [e] at hi
    rw [hc i (by omega)]
    simp [List.getD, hi]
def f16 (x : Int) : Int := x % 16
set_option maxHeartbeats 1600000 in
theorem in_walk (a0 : Option Addr) (c0 : Nat) (l : List Int) (w : World) (h0 : IsK .u8 255 w a0 l) (hl : l.length ≤ 1024) (m : List Int) (hm : l.map f16 = m) :
    Calls Try.prog 7 #[.slice a0 l.length c0] w fun e w' => e = .returned (.bool true) ∧ Below w.heap.size w w' := by
  have hml : m.length = l.length := by rw [← hm]; simp
  have hok : okB m = true := (okB_iff m).2 (by
    intro x hx
    rw [← hm] at hx
    obtain ⟨y, -, rfl⟩ := List.mem_map.1 hx
    unfold f16; omega)
  have hpk : packL m = packF m.length (-1) m := by unfold packL; rw [hok]; rfl
  have hpl := pack_length m.length (-1) m (Nat.le_refl _) ((okB_iff m).1 hok)
  have hU : unpack (packL m) (m.length : Int) = (0, m) := by
    rw [unp_in m.length (by omega), hpk]
    have := unp_pack m.length m.length [] (-1) 0 m (Nat.le_refl _) ((okB_iff m).1 hok) (by simp) (.inr rfl)
    simpa using this
  rw [← hpk] at hpl
  obtain ⟨P, hP⟩ : ∃ P, packL m = P := ⟨_, rfl⟩
  rw [hP] at hU hpl
  have C1 := fun W v (h : IsL W v m) => packT P h (by omega) hP
  have C2 := fun W v (h : IsR W v P) => unpT (m.length : Int) 0 m h (by omega) hU
  have HML := Lib.hid hml
  have HM := Lib.hid hm
  rw [hml] at C2
  have h0_ := Lib.hid h0
  have C1_ := Lib.hid C1
  have C2_ := Lib.hid C2
  clear h0 C1 C2
  clear hP hU hok hm
  have HPL := Lib.hid (show P.length ≤ l.length by omega)
  clear hml hpl hpk
  go_enter Try.func7, Try.ntmps7
  go_wp2
  go_loopw [3, 4] (fun u i wr => ∃ k : Nat, k ≤ l.length ∧ i = .int .i64 k ∧ OwnI w.heap.size wr u ((l.take k).map f16) ∧ Below w.heap.size w wr) (fun _ i _ => l.length - (intOf i).toNat)
  case atStart => exact ⟨0, Nat.zero_le _, rfl, OwnS.nil, Below.refl _ _⟩
  case round =>
    obtain ⟨k, hk, rfl, hown, hb⟩ := hrel
    have hbs := hb.size
    by_cases hlt : k < l.length
    · obtain ⟨x, rfl, hxb, cx, b0, b1⟩ := h0_.out.at k hlt
      have cx : wr.cell? (x.add k) = some (.int .u8 (l.getD k 0)) := by rw [hb.cell (by rw [add_block]; exact hxb)]; exact cx
      have HS := Lib.hid (map_take1 f16 l k hlt)
      obtain ⟨X, hX⟩ : ∃ X, l.getD k 0 = X := ⟨_, rfl⟩
      rw [hX] at cx b0 b1 HS
      have HL := Lib.hid (show ((l.take k).map f16).length ≤ 1099511627776 by simp; omega)
      have HB := Lib.hid hbs
      clear hX
      go_wp2_with (at_builtin; refine app_int rfl (.tmp 18) (.tmp 25) rfl _ _ _ _ (X % 16) rfl hown wr.heap.size 1 rfl rfl HL.out HB.out ?_; intro v3 w3 hown3 hb3 _)
      rw [show X % 16 = f16 X from rfl, HS.out] at hown3
      have hown3_ := Lib.hid hown3
      clear hown3
      go_wp2
      go_roundw
      case rel => exact ⟨k + 1, by omega, by go_num, hown3_.out, hb.trans hb3⟩
      case measure => simp [intOf]; omega
    · obtain rfl : k = l.length := by omega
      rw [List.take_length, HM.out] at hown
      have hm1 := hown.isL (by have := HML.out; omega)
      obtain ⟨pa, pc, hv, hm1⟩ := hm1
      subst hv
      have hm1 : IsL wr (.slice pa m.length pc) m := ⟨_, _, rfl, hm1⟩
      have HM1 := Lib.hid hm1
      clear hown hm1
      go_wp2_with fail
      refine (C1_.out _ _ HM1.out).mono ?_; rintro e w1 ⟨v1, rfl, h1, hb1⟩
      have HM1 := Lib.hid (HM1.out.kept hb1)
      have hb := hb.trans (hb1.mono hb.size)
      rw [HML.out] at HM1
      obtain ⟨ra, rc, rfl, h1⟩ := h1
      have h1 : IsR w1 (.slice ra P.length rc) P := ⟨_, _, rfl, h1⟩
      have h1_ := Lib.hid h1
      clear h1
      clear hb1
      rw [HML.out]
      go_wp2_with fail
      refine (C2_.out _ _ h1_.out).mono ?_; rintro e w2 ⟨v2, rfl, h2, hb2⟩
      have HM1 := Lib.hid (HM1.out.kept hb2)
      have hb := hb.trans (hb2.mono hb.size)
      have h2_ := Lib.hid h2
      clear h2
      clear hb2
      go_wp2_with fail
      refine (intsB h2_.out HM1.out true (by simp)).mono ?_; rintro e w3 ⟨rfl, hb3⟩
      have hb := hb.trans (hb3.mono hb.size)
      clear hb3
      have hpi : (P.length : Int) ≤ (l.length : Int) := by have := HPL.out; omega
      go_wp2_with fail
      refine (awake12 _).mono ?_; rintro e w4 ⟨rfl, hb4⟩
      go_wp2_with fail
      go_ret
      exact ⟨rfl, hb.trans (hb4.mono hb.size)⟩

set_option maxHeartbeats 3200000 in
theorem walk (a0 : Option Addr) (len0 cap0 : Nat) (z0 : List Int) (w : World) (w0 : IsRow .u8 w a0 len0 cap0 z0) :
    Calls Try.prog 7 #[.slice a0 len0 cap0] w fun e w' => e = .returned (.bool true) ∧ Below w.heap.size w w' := by
  obtain ⟨l, hl, hmax, h0⟩ := K_of (M := 255) (fun n h => bounds_u8 h) w0
  clear w0
  subst hl
  unfold maxLen at hmax
  by_cases hlong : 1024 < l.length
  · go_enter Try.func7, Try.ntmps7
    go_wp2_with fail
    refine (awake12 _).mono ?_; rintro e w1 ⟨rfl, hb⟩
    go_wp2_with fail
    go_ret
    exact ⟨rfl, hb⟩
  · exact in_walk a0 cap0 l w h0 (by omega) _ rfl

theorem lifted (os : Os) (started : os.Started) (H : Type) (enc : TypeId × Value → H) :
    ReturnsInHanded {} Try.checked os 7 .any (Rows.runsBackSpec.pre6 enc Try.prog Try.f7 Rows.runsBackRow.domain false) (Rows.runsBackSpec.post enc Try.prog Try.f7 false true false false) := by
  refine returnsInHanded_of_change (C := Try.checked) own started (by kernel_rfl) Try.func7
    (ChangeSpec.witness6 (enc := enc) (C := Try.checked) false ⟨#[], #[.slice none 0 0], []⟩ 8 (by kernel_rfl) (by kernel_rfl) (by kernel_rfl) (by kernel_rfl)) ?_
  intro W base args ds gs before hval0 hW hcnd _
  have hval : ∀ (j : Nat) t v, Try.f7.params[j]? = some t → args[j]? = some v → Value.okWide Try.prog W .any base t v := hval0
  have hW' := hW
  obtain ⟨p, q, hA0, hV, rfl, hfz, hnd⟩ := hW
  have hA : DataW.TrodAll enc Try.prog W 0 (fun _ => true) true Try.f7.params.toList args.toList ds p := hA0
  rw [Try.params7] at hA hval
  obtain ⟨v0, vs0, d0, ds0, p0, q0, hargs, rfl, rfl, h0, r0⟩ := trodAll_cons hA
  obtain ⟨rfl, rfl, rfl⟩ := trodAll_nil r0
  obtain rfl : args = #[v0] := by cases args; simp_all
  obtain ⟨rfl, rfl⟩ := trodVars_none hV
  obtain ⟨a0, len0, cap0, rfl⟩ := okWide_slice Try.underlying44 (hval 0 44 v0 rfl rfl)
  have k0 := h0
  have lt0 : ∀ x ∈ p0, x.block < W.heap.size := by obtain ⟨m, hm⟩ := k0; exact DataW.trod_lt m _ _ _ hm
  obtain ⟨z0, w0⟩ : ∃ zs, IsRow .u8 W a0 len0 cap0 zs := by
    obtain ⟨fuel, hf⟩ := h0
    rcases open_ints Try.underlying44 Try.underlying5 (by kernel_rfl) hf with ⟨hcs, _⟩ | ⟨x, l, c, zs, hcs, _, hl, hm, hz, _, hcell, hwz⟩
    · simp [Value.cells] at hcs
      obtain ⟨rfl, rfl, rfl⟩ := hcs
      exact ⟨[], .inl ⟨rfl, rfl, rfl, rfl⟩⟩
    · simp [Value.cells] at hcs
      obtain ⟨rfl, rfl, rfl⟩ := hcs
      exact ⟨zs, .inr ⟨_, rfl, hl, hm, by simpa using hz, hcell, hwz⟩⟩
  clear hA0 hval0
  refine (walk a0 len0 cap0 z0 W w0).mono fun e W' ⟨he, bel⟩ => ?_
  subst he
  exact ⟨_, rfl, _, _, _, [], _, [], hW', trodAll_mk1 (shut_bool Try.underlying4 _), (trodAll_cons_mk (Below.trod laidOut (by kernel_rfl) (of_decide_eq_true (by kernel_rfl)) k0 bel lt0) trodAll_mk0), rfl, bel.frame _, fun h => by cases h⟩

theorem over : Rows.runsBackRow.holds Try.pinned (OpenSpec.ofChange Rows.runsBackSpec) :=
  OpenClaim.holds_of_wide 7 Try.f7 rfl rfl rfl rfl rfl rfl rfl ⟨rfl, rfl, rfl, rfl, rfl⟩ rfl rfl rfl rfl rfl (by kernel_rfl) Try.func7 (by kernel_rfl)
    (of_decide_eq_true (by kernel_rfl)) (by unfold Func.isWrapper; first | (rw [if_pos (by decide +kernel)]; kernel_rfl) | (rw [if_neg (by decide +kernel)]; exact ⟨rfl, rfl⟩))
    (fun os started H enc _ => lifted os started H enc)

theorem proved : Rows.RunsBackSaid := over
#print axioms proved
end Go.Proofs.Ytekageibffhloaa.runsBack
