/- It is proved that the law 'CanonFree' of the program returns true for every input, with no condition, and leaves what was handed in as it was. The frame was written by a program; the walk is by hand. -/
import Derived.Test.YtekageibffhloaaRows
import Derived.WalkKit
import Derived.ProofKit
import Derived.OpenShut
import Derived.ShutString
import Derived.ChangeOld
import Derived.Below
import Derived.Test.YtekageibffhloaaBase
import Derived.Test.YtekageibffhloaaCh
namespace Go.Proofs.Ytekageibffhloaa.canonFree
open Go.ChangeShapes Go.WideShapes Go.ChangeAt Go.RowKit Go.Deep
open Go.ChangeMaps (open_string shut_string)
set_option linter.unusedVariables false
set_option maxRecDepth 100000

theorem own : ownKnob Try.prog.godebug = none := by kernel_rfl
theorem laidOut : laidOutB Try.prog = true := by kernel_rfl

/-- What the walk is told of a slice of integers that came in: nil, or a row of 'cap' cells that hold the numbers zs, each fitting its kind. -/
def IsRow (k : IntKind) (w : World) (a : Option Addr) (len cap : Nat) (zs : List Int) : Prop :=
  (a = none ∧ len = 0 ∧ cap = 0 ∧ zs = []) ∨
  ∃ x, a = some x ∧ len ≤ cap ∧ cap ≤ maxLen ∧ zs.length = cap ∧ (∀ i, i < zs.length → w.cell? (x.add i) = some (.int k (zs.getD i 0))) ∧ ∀ n ∈ zs, (Lit.int k n).wf = true

open KraftMath CanonMath
theorem ints_of {w : World} {a : Option Addr} {len cap : Nat} {zs : List Int} (h : IsRow .i64 w a len cap zs) : ∃ l : List Int, l.length = len ∧ len ≤ maxLen ∧ (l.length ≤ 70368744177664 → IsInts w a l) := by
  rcases h with ⟨rfl, rfl, rfl, rfl⟩ | ⟨x, rfl, hlc, hcm, hz, hc, -⟩
  · exact ⟨[], rfl, Nat.zero_le _, fun _ => ⟨by simp, .inl rfl⟩⟩
  · have e : (zs.take len).length = len := by rw [List.length_take]; omega
    refine ⟨zs.take len, e, by omega, fun h11 => ⟨by omega, .inr ⟨x, rfl, fun i hi => ?_⟩⟩⟩
    rw [e] at hi
    rw [hc i (by omega)]
    simp [List.getD, hi]
set_option maxHeartbeats 6400000 in
theorem in_walk (a0 : Option Addr) (c0 : Nat) (l : List Int) (w : World) (h0 : IsInts w a0 l) (hl : l.length ≤ 150) :
    Calls Try.prog 4 #[.slice a0 l.length c0] w fun e w' => e = .returned (.bool true) ∧ Below w.heap.size w w' := by
  by_cases hE : check l 16 = 0
  · have hok := (check_ok l 16).1 hE
    have hks : ksum 16 l ≤ 65536 := by rcases hok.2.2.2.2 with h | h <;> rw [h.2] <;> decide
    have hg := fun k (hk : k < l.length) => hok.2.2.2.1 (l.getD k 0) (by simp [List.getD_eq_getElem?_getD, hk])
    have hO : codesL l = codeTo l l.length := by unfold codesL; rw [if_pos hE]
    have C1 := codesT a0 c0 l (codeTo l l.length) 0 w h0 hO hE
    have hfit := fun s (hs : s < l.length) => code_fits l s hs (hg s hs).1 (by have := hg s hs; unfold len; omega) hks
    have hfree := fun i k (hne : i ≠ k) (hi : i < l.length) (hk : k < l.length) (h1 : 1 ≤ len l i) (h : len l i ≤ len l k) => code_free l i k hne hi hk (hg i hi).1 (hg k hk).1 h1 h (by have := hg k hk; unfold len; omega)
    have hlen : ∀ i (hi : i < l.length), (len l i : Int) = l.getD i 0 ∧ len l i ≤ 16 := by intro i hi; have := hg i hi; unfold len; omega
    have hcd : ∀ i (hi : i < l.length), (codeTo l l.length).getD i 0 = (code l i : Int) := by intro i hi; rw [codeTo_get _ _ _ hi, if_pos hi]
    have C1_ := Lib.hid C1
    have h0_ := Lib.hid h0
    have hfit_ := Lib.hid hfit
    have hfree_ := Lib.hid hfree
    have hlen_ := Lib.hid hlen
    have hcd_ := Lib.hid hcd
    clear C1 h0 hfit hfree hlen hcd
    clear hE hok hks hO hg
    go_enter Try.func4, Try.ntmps4
    go_wp2_with fail
    refine C1_.out.mono ?_; rintro e w1 ⟨v1, rfl, h1, hb⟩
    have hI := Lib.hid (h0_.out.kept hb)
    obtain ⟨a1, c1, rfl, h1⟩ := h1
    rw [codeTo_len]
    have h1_ := Lib.hid h1
    clear h1
    go_wp2_with fail
    go_loopw [5] (fun i wr => ∃ i0 : Nat, i0 ≤ l.length ∧ i = .int .i64 i0 ∧ ∃ q, wr = w1.drewN q) (fun i _ => l.length - (intOf i).toNat)
    case atStart => exact ⟨0, Nat.zero_le _, rfl, 0, rfl⟩
    case round =>
      obtain ⟨i, hi, rfl, q, rfl⟩ := hrel
      by_cases hlt : i < l.length
      · obtain ⟨x, rfl, -, hx⟩ := hI.out.at i hlt
        obtain ⟨y, rfl, -, hy⟩ := h1_.out.at i (by rw [codeTo_len]; exact hlt)
        rw [codeTo_len] at hy
        have cx := hx i hlt
        have cy := hy i hlt
        rw [hcd_.out i hlt] at cy
        obtain ⟨hln, hl16⟩ := hlen_.out i hlt
        rw [← hln] at cx
        have hf := hfit_.out i hlt
        have HX := Lib.hid hx; have HY := Lib.hid hy
        have hp16 : 2 ^ len l i ≤ 2 ^ 16 := Nat.pow_le_pow_right (by decide) hl16
        obtain ⟨LI, hLI⟩ : ∃ LI, len l i = LI := ⟨_, rfl⟩
        obtain ⟨CI, hCI⟩ : ∃ CI, code l i = CI := ⟨_, rfl⟩
        rw [hLI] at cx hf hp16 hl16
        rw [hCI] at cy hf
        have hsh : ((CI : Int) / 2 ^ LI) = 0 := by
          have e : ((CI : Int) / 2 ^ LI) = ((CI / 2 ^ LI : Nat) : Int) := by simp
          rw [e, Nat.div_eq_of_lt hf]; rfl
        have hCb : CI < 65536 := by omega
        have hC0 : decide ((CI : Int) < 0) = false := by simp
        have HLI := Lib.hid hLI; have HCI := Lib.hid hCI
        clear hx hy hln hf hp16 hLI hCI
        go_wp2
        go_quiet (fail)
        go_wp2
        go_loopw [6] (fun j wr => ∃ k : Nat, k ≤ l.length ∧ j = .int .i64 k ∧ ∃ q, wr = w1.drewN q) (fun j _ => l.length - (intOf j).toNat)
        case atStart => exact ⟨0, Nat.zero_le _, rfl, _, by first | rfl | rw [World.drewN_drewN]⟩
        case round =>
          obtain ⟨k, hk, rfl, q2, rfl⟩ := hrel
          by_cases hkt : k < l.length
          · have cx2 := HX.out k hkt
            have cy2 := HY.out k hkt
            rw [hcd_.out k hkt] at cy2
            obtain ⟨hln2, hl216⟩ := hlen_.out k hkt
            have hf2 := hfit_.out k hkt
            have hp2 : 2 ^ len l k ≤ 2 ^ 16 := Nat.pow_le_pow_right (by decide) hl216
            rw [← hln2] at cx2
            have HFR := Lib.hid (fun h => hfree_.out i k h hlt hkt)
            obtain ⟨LK, hLK⟩ : ∃ LK, len l k = LK := ⟨_, rfl⟩
            obtain ⟨CK, hCK⟩ : ∃ CK, code l k = CK := ⟨_, rfl⟩
            rw [hLK] at cx2 HFR hf2 hp2 hl216
            rw [hCK] at cy2 HFR
            rw [HLI.out, HCI.out] at HFR
            have hCKb : CK < 65536 := by rw [← hCK]; omega
            clear hln2 hLK hCK hf2 hp2
            by_cases e0 : i = k
            · subst e0
              have t1 : ((i : Int) != (i : Int)) = false := by simp
              go_wp2
              go_quiet (fail)
              go_wp2
              go_roundw
              case rel => exact ⟨i + 1, by omega, by go_num, _, by first | rfl | rw [World.drewN_drewN]⟩
              case measure => simp [intOf]; omega
            · have t1 : ((i : Int) != (k : Int)) = true := by rw [bne_iff_ne]; omega
              by_cases e1 : LI = 0
              · have t2 : decide ((0 : Int) < (LI : Int)) = false := by simp; omega
                subst e1
                go_wp2
                go_quiet (fail)
                go_wp2
                go_roundw
                case rel => exact ⟨k + 1, by omega, by go_num, _, by first | rfl | rw [World.drewN_drewN]⟩
                case measure => simp [intOf]; omega
              · have t2 : decide ((0 : Int) < (LI : Int)) = true := by simp; omega
                have t2n : decide (0 < LI) = true := by simp; omega
                by_cases e2 : LI ≤ LK
                · have t3 : decide ((LI : Int) ≤ (LK : Int)) = true := by simpa using e2
                  have t3n : decide (LI ≤ LK) = true := by simpa using e2
                  have hd : ((CK : Int) / 2 ^ (LK - LI)) = ((CK / 2 ^ (LK - LI) : Nat) : Int) := by simp
                  have hne := HFR.out e0 (by omega) e2
                  have hlk : ((LK : Int) - (LI : Int)).toNat = LK - LI := by omega
                  have t4 : ((CK : Int) / 2 ^ (LK - LI) == (CI : Int)) = false := by
                    rw [hd, beq_eq_false_iff_ne]; omega
                  clear hd hne
                  go_wp2
                  go_quiet (fail)
                  go_wp2
                  go_roundw
                  case rel => exact ⟨k + 1, by omega, by go_num, _, by first | rfl | rw [World.drewN_drewN]⟩
                  case measure => simp [intOf]; omega
                · have t3 : decide ((LI : Int) ≤ (LK : Int)) = false := by simpa using e2
                  have t3n : decide (LI ≤ LK) = false := by simpa using e2
                  go_wp2
                  go_quiet (fail)
                  go_wp2
                  go_roundw
                  case rel => exact ⟨k + 1, by omega, by go_num, _, by first | rfl | rw [World.drewN_drewN]⟩
                  case measure => simp [intOf]; omega
          · go_wp2
            go_roundw
            case rel => exact ⟨i + 1, by omega, by go_num, _, by first | rfl | rw [World.drewN_drewN]⟩
            case measure => simp [intOf]; omega
      · go_wp2_with fail
        refine (awake08 _).mono ?_; rintro e w2 ⟨rfl, hb2⟩
        go_wp2_with fail
        go_ret
        exact ⟨rfl, (below_dn hb q).trans (hb2.mono (by simpa using hb.size))⟩
  · have hO : codesL l = [] := by unfold codesL; rw [if_neg hE]
    obtain ⟨E, hEE⟩ : ∃ E, check l 16 = E := ⟨_, rfl⟩
    rw [hEE] at hE
    have C1 := codesT a0 c0 l [] E w h0 hO hEE
    have e1 : (E == 0) = false := by rw [beq_eq_false_iff_ne]; exact hE
    have e2 : (E != 0) = true := by rw [bne, e1]; rfl
    have C1_ := Lib.hid C1
    clear C1
    clear hE hEE hO h0
    go_enter Try.func4, Try.ntmps4
    go_wp2_with fail
    refine C1_.out.mono ?_; rintro e w1 ⟨v1, rfl, h1, hb⟩
    obtain ⟨a1, c1, rfl, h1⟩ := h1
    clear h1
    go_wp2_with fail
    refine (awake08 _).mono ?_; rintro e w2 ⟨rfl, hb2⟩
    go_wp2_with fail
    go_ret
    exact ⟨rfl, hb.trans (hb2.mono hb.size)⟩

set_option maxHeartbeats 6400000 in
theorem walk (a0 : Option Addr) (len0 cap0 : Nat) (z0 : List Int) (w : World) (w0 : IsRow .i64 w a0 len0 cap0 z0) :
    Calls Try.prog 4 #[.slice a0 len0 cap0] w fun e w' => e = .returned (.bool true) ∧ Below w.heap.size w w' := by
  obtain ⟨l, hl, hmax, h0⟩ := ints_of w0
  clear w0
  subst hl
  by_cases hlong : 150 < l.length
  · unfold maxLen at hmax
    go_enter Try.func4, Try.ntmps4
    go_wp2_with fail
    refine (awake08 _).mono ?_; rintro e w1 ⟨rfl, hb⟩
    go_wp2_with fail
    go_ret
    exact ⟨rfl, hb⟩
  · exact in_walk a0 cap0 l w (h0 (by omega)) (by omega)

theorem lifted (os : Os) (started : os.Started) (H : Type) (enc : TypeId × Value → H) :
    ReturnsInHanded {} Try.checked os 4 .any (Rows.canonFreeSpec.pre6 enc Try.prog Try.f4 Rows.canonFreeRow.domain false) (Rows.canonFreeSpec.post enc Try.prog Try.f4 false true false false) := by
  refine returnsInHanded_of_change (C := Try.checked) own started (by kernel_rfl) Try.func4
    (ChangeSpec.witness6 (enc := enc) (C := Try.checked) false ⟨#[], #[.slice none 0 0], []⟩ 8 (by kernel_rfl) (by kernel_rfl) (by kernel_rfl) (by kernel_rfl)) ?_
  intro W base args ds gs before hval0 hW hcnd _
  have hval : ∀ (j : Nat) t v, Try.f4.params[j]? = some t → args[j]? = some v → Value.okWide Try.prog W .any base t v := hval0
  have hW' := hW
  obtain ⟨p, q, hA0, hV, rfl, hfz, hnd⟩ := hW
  have hA : DataW.TrodAll enc Try.prog W 0 (fun _ => true) true Try.f4.params.toList args.toList ds p := hA0
  rw [Try.params4] at hA hval
  obtain ⟨v0, vs0, d0, ds0, p0, q0, hargs, rfl, rfl, h0, r0⟩ := trodAll_cons hA
  obtain ⟨rfl, rfl, rfl⟩ := trodAll_nil r0
  obtain rfl : args = #[v0] := by cases args; simp_all
  obtain ⟨rfl, rfl⟩ := trodVars_none hV
  obtain ⟨a0, len0, cap0, rfl⟩ := okWide_slice Try.underlying22 (hval 0 22 v0 rfl rfl)
  have k0 := h0
  have lt0 : ∀ x ∈ p0, x.block < W.heap.size := by obtain ⟨m, hm⟩ := k0; exact DataW.trod_lt m _ _ _ hm
  obtain ⟨z0, w0⟩ : ∃ zs, IsRow .i64 W a0 len0 cap0 zs := by
    obtain ⟨fuel, hf⟩ := h0
    rcases open_ints Try.underlying22 Try.underlying3 (by kernel_rfl) hf with ⟨hcs, _⟩ | ⟨x, l, c, zs, hcs, _, hl, hm, hz, _, hcell, hwz⟩
    · simp [Value.cells] at hcs
      obtain ⟨rfl, rfl, rfl⟩ := hcs
      exact ⟨[], .inl ⟨rfl, rfl, rfl, rfl⟩⟩
    · simp [Value.cells] at hcs
      obtain ⟨rfl, rfl, rfl⟩ := hcs
      exact ⟨zs, .inr ⟨_, rfl, hl, hm, by simpa using hz, hcell, hwz⟩⟩
  clear hA0 hval0
  refine (walk a0 len0 cap0 z0 W w0).mono fun e W' ⟨he, bel⟩ => ?_
  subst he
  exact ⟨_, rfl, _, _, _, [], _, [], hW', trodAll_mk1 (shut_bool Try.underlying4 _), (trodAll_cons_mk (Below.trod laidOut (by kernel_rfl) (of_decide_eq_true (by kernel_rfl)) k0 bel lt0) trodAll_mk0), rfl, bel.frame _, fun h => by cases h⟩

theorem over : Rows.canonFreeRow.holds Try.pinned (OpenSpec.ofChange Rows.canonFreeSpec) :=
  OpenClaim.holds_of_wide 4 Try.f4 rfl rfl rfl rfl rfl rfl rfl ⟨rfl, rfl, rfl, rfl, rfl⟩ rfl rfl rfl rfl rfl (by kernel_rfl) Try.func4 (by kernel_rfl)
    (of_decide_eq_true (by kernel_rfl)) (by unfold Func.isWrapper; first | (rw [if_pos (by decide +kernel)]; kernel_rfl) | (rw [if_neg (by decide +kernel)]; exact ⟨rfl, rfl⟩))
    (fun os started H enc _ => lifted os started H enc)

theorem proved : Rows.CanonFreeSaid := over
#print axioms proved
end Go.Proofs.Ytekageibffhloaa.canonFree
