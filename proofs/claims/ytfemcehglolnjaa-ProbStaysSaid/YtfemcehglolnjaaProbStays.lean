/- It is proved that the law 'ProbStays' of the program returns true for every input, with no condition, and leaves what was handed in as it was. The frame was written by a program; the walk is by hand. -/
import Derived.Test.YtfemcehglolnjaaRows
import Derived.WalkKit
import Derived.ProofKit
import Derived.OpenShut
import Derived.ShutString
import Derived.ChangeOld
import Derived.Below
import Derived.Test.YtfemcehglolnjaaBase
import Derived.Deep.Grids
import Derived.Test.YtfemcehglolnjaaPs
namespace Go.Proofs.Ytfemcehglolnjaa.probStays
open Go.ChangeShapes Go.WideShapes Go.ChangeAt Go.RowKit Go.Deep
open Go.ChangeMaps (open_string shut_string)
set_option linter.unusedVariables false
set_option maxRecDepth 100000

theorem own : ownKnob Try.prog.godebug = none := by kernel_rfl
theorem laidOut : laidOutB Try.prog = true := by kernel_rfl

/-- What the walk is told of a slice of bools that came in. -/
def IsBools (w : World) (a : Option Addr) (len : Nat) (bs : List Bool) : Prop :=
  bs.length = len ∧ len ≤ maxLen ∧ (bs = [] ∨ ∃ x, a = some x ∧ ∀ i, i < bs.length → w.cell? (x.add i) = some (.bool (bs.getD i false)))



set_option maxHeartbeats 3200000 in
theorem walk (a0 : Option Addr) (len0 cap0 : Nat) (z0 : List Bool) (w : World) (w0 : IsBools w a0 len0 z0) :
    Calls Try.prog 12 #[.slice a0 len0 cap0] w fun e w' => e = .returned (.bool true) ∧ Below w.heap.size w w' := by
  obtain ⟨hn, hm, hr⟩ := w0
  have hrow : Row w a0 (bools z0) := by
    rcases hr with h | ⟨x, h, hc⟩
    · exact .inl (by rw [h]; rfl)
    · exact .inr ⟨x, h, fun i hi => by rw [bools_len] at hi; rw [bools_getD z0 i hi]; exact hc i hi⟩
  clear hr
  unfold maxLen at hm
  by_cases hs : 2000 < len0
  · go_enter Try.func12, Try.ntmps12
    go_wp2_with fail
    refine (awake44 _).mono ?_; rintro e w3 ⟨rfl, hb3⟩
    go_wp2_with fail
    go_ret
    exact ⟨rfl, hb3⟩
  · subst hn
    have S1 := Lib.hid start_any
    go_enter Try.func12, Try.ntmps12
    go_wp2_with fail
    refine (S1.out _).mono ?_; rintro e w' ⟨rfl, rfl⟩
    go_wp2_with fail
    go_loop [3, 4] (fun s i => ∃ k : Nat, k ≤ z0.length ∧ i = .int .i64 k ∧ s = .int .i64 (pAt z0 k)) (fun _ i => z0.length - (intOf i).toNat)
    case atStart => exact ⟨0, Nat.zero_le _, rfl, rfl⟩
    case round =>
      obtain ⟨k, hk, rfl, rfl⟩ := hrel
      by_cases hlt : k < z0.length
      · obtain ⟨x, rfl, hx⟩ := hrow.at_ k (by rw [bools_len]; exact hlt)
        rw [bools_getD z0 k hlt] at hx
        have hp := pAt_bd z0 k
        have hs := pAt_succ z0 k hlt
        have hq := pAt_bd z0 (k + 1)
        obtain ⟨p, hpk⟩ : ∃ p, pAt z0 k = p := ⟨_, rfl⟩
        rw [hpk] at hp hs
        obtain ⟨q, hqk⟩ : ∃ q, pAt z0 (k + 1) = q := ⟨_, rfl⟩
        rw [hqk] at hq hs
        obtain ⟨b, hbk⟩ : ∃ b, z0.getD k false = b := ⟨_, rfl⟩
        rw [hbk] at hx hs
        obtain ⟨hp0, hp1⟩ := hp
        obtain ⟨hq0, hq1⟩ := hq
        have u := update_in p b (by omega) (by omega)
        rw [← hs] at u
        have hle : (b = true → q ≤ p) ∧ (b = false → p ≤ q) := by
          rw [hs]; unfold updP
          exact ⟨fun h => by rw [if_pos h]; omega, fun h => by rw [if_neg (by rw [h]; decide)]; omega⟩
        have hi1 : (k : Int) < (z0.length : Int) := by omega
        have U := Lib.hid u; have HP := Lib.hid hpk; have HQ := Lib.hid hqk; have HR := Lib.hid hrow
        clear u hpk hqk hrow hs hbk
        rw [HP.out]
        cases b
        · have h1 : p ≤ q := hle.2 rfl
          clear hle
          go_wp2_with fail
          refine (U.out _).mono ?_; rintro e w' ⟨rfl, rfl⟩
          go_wp2
          go_round
          case rel => exact ⟨k + 1, by omega, by go_num, by rw [HQ.out]⟩
          case measure => simp [intOf]; omega
        · have h1 : q ≤ p := hle.1 rfl
          clear hle
          go_wp2_with fail
          refine (U.out _).mono ?_; rintro e w' ⟨rfl, rfl⟩
          go_wp2
          go_round
          case rel => exact ⟨k + 1, by omega, by go_num, by rw [HQ.out]⟩
          case measure => simp [intOf]; omega
      · go_wp2_with fail
        refine (awake44 _).mono ?_; rintro e w4 ⟨rfl, hb5⟩
        go_wp2_with fail
        go_ret
        exact ⟨rfl, hb5⟩

theorem lifted (os : Os) (started : os.Started) (H : Type) (enc : TypeId × Value → H) :
    ReturnsInHanded {} Try.checked os 12 .any (Rows.probStaysSpec.pre6 enc Try.prog Try.f12 Rows.probStaysRow.domain false) (Rows.probStaysSpec.post enc Try.prog Try.f12 false true false false) := by
  refine returnsInHanded_of_change (C := Try.checked) own started (by kernel_rfl) Try.func12
    (ChangeSpec.witness6 (enc := enc) (C := Try.checked) false ⟨#[], #[.slice none 0 0], []⟩ 8 (by kernel_rfl) (by kernel_rfl) (by kernel_rfl) (by kernel_rfl)) ?_
  intro W base args ds gs before hval0 hW hcnd _
  have hval : ∀ (j : Nat) t v, Try.f12.params[j]? = some t → args[j]? = some v → Value.okWide Try.prog W .any base t v := hval0
  have hW' := hW
  obtain ⟨p, q, hA0, hV, rfl, hfz, hnd⟩ := hW
  have hA : DataW.TrodAll enc Try.prog W 0 (fun _ => true) true Try.f12.params.toList args.toList ds p := hA0
  rw [Try.params12] at hA hval
  obtain ⟨v0, vs0, d0, ds0, p0, q0, hargs, rfl, rfl, h0, r0⟩ := trodAll_cons hA
  obtain ⟨rfl, rfl, rfl⟩ := trodAll_nil r0
  obtain rfl : args = #[v0] := by cases args; simp_all
  obtain ⟨rfl, rfl⟩ := trodVars_none hV
  obtain ⟨a0, len0, cap0, rfl⟩ := okWide_slice Try.underlying48 (hval 0 48 v0 rfl rfl)
  have k0 := h0
  have lt0 : ∀ x ∈ p0, x.block < W.heap.size := by obtain ⟨m, hm⟩ := k0; exact DataW.trod_lt m _ _ _ hm
  obtain ⟨z0, w0⟩ : ∃ zs, IsBools W a0 len0 zs := by
    obtain ⟨fuel, hf⟩ := h0
    rcases open_bools Try.underlying48 Try.underlying4 (by kernel_rfl) hf with ⟨hcs, _⟩ | ⟨x, l, c, B, hcs, _, hl, hm, _, hcell⟩
    · simp [Value.cells] at hcs
      obtain ⟨rfl, rfl, rfl⟩ := hcs
      exact ⟨[], rfl, Nat.zero_le _, .inl rfl⟩
    · simp [Value.cells] at hcs
      obtain ⟨rfl, rfl, rfl⟩ := hcs
      exact ⟨(List.range len0).map B, by simp, by omega, .inr ⟨_, rfl, fun i hi => by rw [hcell i (by simp at hi; omega)]; simp at hi; simp [List.getD, hi]⟩⟩
  clear hA0 hval0
  refine (walk a0 len0 cap0 z0 W w0).mono fun e W' ⟨he, bel⟩ => ?_
  subst he
  exact ⟨_, rfl, _, _, _, [], _, [], hW', trodAll_mk1 (shut_bool Try.underlying4 _), (trodAll_cons_mk (Below.trod laidOut (by kernel_rfl) (of_decide_eq_true (by kernel_rfl)) k0 bel lt0) trodAll_mk0), rfl, bel.frame _, fun h => by cases h⟩

theorem over : Rows.probStaysRow.holds Try.pinned (OpenSpec.ofChange Rows.probStaysSpec) :=
  OpenClaim.holds_of_wide 12 Try.f12 rfl rfl rfl rfl rfl rfl rfl ⟨rfl, rfl, rfl, rfl, rfl⟩ rfl rfl rfl rfl rfl (by kernel_rfl) Try.func12 (by kernel_rfl)
    (of_decide_eq_true (by kernel_rfl)) (by unfold Func.isWrapper; first | (rw [if_pos (by decide +kernel)]; kernel_rfl) | (rw [if_neg (by decide +kernel)]; exact ⟨rfl, rfl⟩))
    (fun os started H enc _ => lifted os started H enc)

theorem proved : Rows.ProbStaysSaid := over
#print axioms proved
end Go.Proofs.Ytfemcehglolnjaa.probStays
