/- It is proved that the law 'GramsHold' of the program returns true for every input, with no condition, and leaves what was handed in as it was. The frame was written by a program; the walk is by hand. -/
import Derived.Test.YtdonecbcnkipbaaRows
import Derived.WalkKit
import Derived.ProofKit
import Derived.OpenShut
import Derived.ShutString
import Derived.ChangeOld
import Derived.Below
import Derived.Test.YtdonecbcnkipbaaBase
import Derived.Deep.Strs
import Derived.Test.YtdonecbcnkipbaaAQ13
namespace Go.Proofs.Ytdonecbcnkipbaa.gramsHold
open Go.ChangeShapes Go.WideShapes Go.ChangeAt Go.RowKit Go.Deep
open Go.ChangeMaps (open_string shut_string)
set_option linter.unusedVariables false
set_option maxRecDepth 100000

theorem own : ownKnob Try.prog.godebug = none := by kernel_rfl
theorem laidOut : laidOutB Try.prog = true := by kernel_rfl

/-- What the walk is told of a slice of strings that came in. -/
def IsStrs (w : World) (a : Option Addr) (len : Nat) (zs : List ByteArray) : Prop :=
  zs.length = len ∧ len ≤ maxLen ∧ (∀ z ∈ zs, z.size ≤ maxLen) ∧ (zs = [] ∨ ∃ x, a = some x ∧ ∀ i, i < zs.length → w.cell? (x.add i) = some (.string (zs.getD i ByteArray.empty)))

open RollMath Gm
theorem ts_of {w : World} {a : Option Addr} {n : Nat} {zs : List ByteArray} (h : IsStrs w a n zs) : ∃ ls : List Tx, ls.length = n ∧ n ≤ maxLen ∧ IsTs w a ls := by
  obtain ⟨h1, h2, -, h4⟩ := h
  refine ⟨zs.map (·.data.toList), by rw [List.length_map, h1], h2, ?_⟩
  rcases h4 with rfl | ⟨x, rfl, hc⟩
  · exact .inl rfl
  · refine .inr ⟨x, rfl, fun i hi => ?_⟩
    rw [List.length_map] at hi
    rw [hc i hi]
    simp [List.getD_eq_getElem?_getD, hi, sT_of]
set_option maxHeartbeats 3200000 in
theorem hold_walk (a : Option Addr) (c : Nat) (ls : List Tx) (k SZ : Nat) (w : World) (h : IsTs w a ls) (hl : ls.length ≤ maxLen) (hk : k < 256) (hS : SZ < 256) :
    Calls Try.prog 4 #[.slice a ls.length c, .int .u8 k, .int .u8 SZ] w fun e w' => e = .returned (.bool true) ∧ Below w.heap.size w w' := by
  have HI := Lib.hid h
  have CF := Lib.hid (cFew a c ls w h (by unfold maxLen at hl; omega))
  have CA := Lib.hid (fun W => awake43 W)
  obtain ⟨n, hn⟩ : ∃ n, k % 15 = n := ⟨_, rfl⟩
  have hn15 : n < 15 := by omega
  have hni : (k : Int) % 15 = (n : Int) := by omega
  obtain ⟨K, hK⟩ : ∃ K, n + 2 = K := ⟨_, rfl⟩
  have hKi : (n : Int) + 2 = (K : Int) := by omega
  have hK2 : 2 ≤ K ∧ K ≤ 16 := by omega
  rcases hf : fewB ls with _ | _
  · rw [hf] at CF
    clear hf h
    go_enter Try.func4, Try.ntmps4
    go_wp2_with fail
    refine CF.out.mono ?_; rintro e w1 ⟨rfl, q1, h1⟩
    have HB1 := Lib.hid (show Below w.heap.size w w1 by rw [h1]; exact below_dn (Below.refl _ _) q1)
    clear h1 CF
    go_wp2_with fail
    refine (CA.out _).mono ?_; rintro e w2 ⟨rfl, hb2⟩
    have HB2 := Lib.hid (HB1.out.trans (hb2.mono HB1.out.size))
    clear hb2 CA HB1
    go_wp2_with fail
    go_ret
    exact ⟨rfl, HB2.out⟩
  · rw [hf] at CF
    have hF := few_of hf
    have CB := Lib.hid (fun W (h : IsTs W a ls) => cBuildG a c ls K (SZ : Int) W h hF hK2.1 hK2.2 (by omega) (by omega))
    have CL := Lib.hid (fun W (h : IsTs W a ls) => cBuildG a c ls K 67108864 W h hF hK2.1 hK2.2 (by omega) (by omega))
    have DC := Lib.hid (fun W (h : IsTs W a ls) => dCountG a c ls K W h hF (by omega) hK2.2)
    have hcf := cnt_few hF K
    have hlen := fun (g : Gr) (h : g ∈ cntL ls K) => cnt_len h
    obtain ⟨L, hL⟩ : ∃ L, cntL ls K = L := ⟨_, rfl⟩
    rw [hL] at CB CL DC hcf hlen
    have hsz := bld_le K (SZ : Int) (by omega) L [] hlen (by simp)
    have hfw := bld_few K 67108864 L [] hlen
    have hKL : K * L.length ≤ 16 * 1000 := Nat.mul_le_mul hK2.2 hcf.1
    have hold := bld_holds K 67108864 (by omega) L [] hlen (by simp only [List.length_nil]; omega)
    obtain ⟨D, hD⟩ : ∃ D, bldL K (SZ : Int) L = D := ⟨_, rfl⟩
    obtain ⟨A, hA⟩ : ∃ A, bldL K 67108864 L = A := ⟨_, rfl⟩
    rw [hD] at CB
    rw [hA] at CL
    have hD2 : (D.length : Int) ≤ (SZ : Int) := by rw [← hD]; exact hsz
    have hA2 : A.length ≤ 16000 := by rw [← hA]; simp only [List.length_nil] at hfw; unfold bldL; omega
    have HF := Lib.hid (fun i (hi : i < L.length) (h2 : 2 ≤ (L.getD i ([], 0)).2) => show (findL A (L.getD i ([], 0)).1).length ≠ 0 from by
      have hm : L.getD i ([], 0) ∈ L := by rw [List.getD_eq_getElem?_getD, List.getElem?_eq_getElem hi]; exact List.getElem_mem hi
      intro h0
      rw [find_mem, hlen _ hm] at h0
      exact h0 (by rw [← hA]; exact hold _ hm h2))
    have HL := Lib.hid (fun i (hi : i < L.length) => hlen (L.getD i ([], 0)) (by rw [List.getD_eq_getElem?_getD, List.getElem?_eq_getElem hi]; exact List.getElem_mem hi))
    have HC := Lib.hid hcf
    have hl3 := hcf.1
    have hszD := sT_size D
    have hnD : ¬ (SZ : Int) < (D.length : Int) := by omega
    clear hf h hD hA hL hF hsz hfw hKL hold hlen hcf hD2 hn hK
    go_enter Try.func4, Try.ntmps4
    go_wp2_with fail
    refine CF.out.mono ?_; rintro e w1 ⟨rfl, q1, h1⟩
    have HB1 := Lib.hid (show Below w.heap.size w w1 by rw [h1]; exact below_dn (Below.refl _ _) q1)
    clear h1 CF
    go_wp2_with fail
    refine (CB.out _ (HI.out.kept HB1.out)).mono ?_; rintro e w2 ⟨rfl, hb2⟩
    have HB2 := Lib.hid (HB1.out.trans (hb2.mono HB1.out.size))
    clear hb2 CB HB1
    go_wp2_with fail
    refine (CL.out _ (HI.out.kept HB2.out)).mono ?_; rintro e w3 ⟨rfl, hb3⟩
    have HB3 := Lib.hid (HB2.out.trans (hb3.mono HB2.out.size))
    clear hb3 CL HB2
    go_wp2_with fail
    refine (DC.out _ (HI.out.kept HB3.out)).mono ?_; rintro e w4 ⟨v4, rfl, ho4, hb4⟩
    obtain ⟨a4, c4, rfl, -, hg4⟩ := OwnG.gr ho4
    have HG4 := Lib.hid hg4
    have HB4 := Lib.hid (HB3.out.trans (hb4.mono HB3.out.size))
    clear hb4 DC HB3 hg4 ho4
    go_wp2_with fail
    go_loopw [13] (fun i wr => ∃ j : Nat, j ≤ L.length ∧ i = .int .i64 j ∧ Hid (Below w4.heap.size w4 wr)) (fun i _ => L.length - (intOf i).toNat)
    case atStart => exact ⟨0, Nat.zero_le _, rfl, Lib.hid (Below.refl _ _)⟩
    case round =>
      obtain ⟨j, hj, rfl, hb⟩ := hrel
      by_cases hlt : j < L.length
      · have hji : (j : Int) < (L.length : Int) := by omega
        have hj0 : (0 : Int) ≤ (j : Int) := by omega
        obtain ⟨x, rfl, hxl, c0, c1⟩ := (HG4.out.kept hb.out).at j hlt
        have hfd := HF.out j hlt
        have htl := HL.out j hlt
        have hg2 := HC.out.2 j hlt
        obtain ⟨G, hG⟩ : ∃ G, L.getD j ([], 0) = G := ⟨_, rfl⟩
        rw [hG] at c0 c1 hfd htl hg2
        obtain ⟨t, m⟩ := G
        simp only at c0 c1 hfd htl hg2
        have CFd := Lib.hid (fun W => dFindT A t (by omega) (by omega) W)
        obtain ⟨FN, hFN⟩ : ∃ FN, (findL A t).length = FN := ⟨_, rfl⟩
        have hFl := find_few A t
        rw [hFN] at CFd hfd hFl
        have hszb := Lib.hid hb.out.size
        clear hG hFN htl
        by_cases hm : 2 ≤ m
        · have hmi : (2 : Int) ≤ (m : Int) := by omega
          have hf0 := hfd hm
          have hfi : ((FN : Int) == 0) = false := by rw [beq_eq_false_iff_ne]; omega
          clear hfd hm hf0
          go_wp2_with fail
          refine (CFd.out _).mono ?_; rintro e w5 ⟨fa, fc, rfl, hb5⟩
          have HB5 := Lib.hid (hb.out.trans (hb5.mono hszb.out))
          clear hb5 hb CFd
          go_wp2_with fail
          go_roundw
          case rel => exact ⟨j + 1, by omega, by go_num, HB5⟩
          case measure => simp [intOf]; omega
        · have hmi : ¬ (2 : Int) ≤ (m : Int) := by omega
          clear hfd hm
          go_wp2_with fail
          go_roundw
          case rel => exact ⟨j + 1, by omega, by go_num, hb⟩
          case measure => simp [intOf]; omega
      · obtain rfl : j = L.length := by omega
        have hji : ¬ (L.length : Int) < (L.length : Int) := by omega
        have HBE := Lib.hid (HB4.out.trans (hb.out.mono HB4.out.size))
        clear hb
        go_wp2_with fail
        refine (CA.out _).mono ?_; rintro e w7 ⟨rfl, hb7⟩
        have HB7 := Lib.hid (HBE.out.trans (hb7.mono HBE.out.size))
        clear hb7 CA HBE
        go_wp2_with fail
        go_ret
        exact ⟨rfl, HB7.out⟩

set_option maxHeartbeats 3200000 in
theorem walk (a0 : Option Addr) (len0 cap0 : Nat) (z0 : List ByteArray) (a1 : Int) (a2 : Int) (w : World) (w0 : IsStrs w a0 len0 z0) (w1 : (Lit.int .u8 a1).wf = true) (w2 : (Lit.int .u8 a2).wf = true) :
    Calls Try.prog 4 #[.slice a0 len0 cap0, .int .u8 a1, .int .u8 a2] w fun e w' => e = .returned (.bool true) ∧ Below w.heap.size w w' := by
  obtain ⟨ls, hl, hm, hi⟩ := ts_of w0
  subst hl
  obtain ⟨b0, b1⟩ := bounds_u8 w1
  obtain ⟨b2, b3⟩ := bounds_u8 w2
  clear w1 w2
  obtain ⟨K, rfl⟩ : ∃ K : Nat, a1 = (K : Int) := ⟨a1.toNat, by omega⟩
  obtain ⟨Z, rfl⟩ : ∃ Z : Nat, a2 = (Z : Int) := ⟨a2.toNat, by omega⟩
  exact hold_walk a0 cap0 ls K Z w hi hm (by omega) (by omega)

theorem lifted (os : Os) (started : os.Started) (H : Type) (enc : TypeId × Value → H) :
    ReturnsInHanded {} Try.checked os 4 .any (Rows.gramsHoldSpec.pre6 enc Try.prog Try.f4 Rows.gramsHoldRow.domain false) (Rows.gramsHoldSpec.post enc Try.prog Try.f4 false true false false) := by
  refine returnsInHanded_of_change (C := Try.checked) own started (by kernel_rfl) Try.func4
    (ChangeSpec.witness6 (enc := enc) (C := Try.checked) false ⟨#[], #[.slice none 0 0, .int .u8 0, .int .u8 0], []⟩ 8 (by kernel_rfl) (by kernel_rfl) (by kernel_rfl) (by kernel_rfl)) ?_
  intro W base args ds gs before hval0 hW hcnd _
  have hval : ∀ (j : Nat) t v, Try.f4.params[j]? = some t → args[j]? = some v → Value.okWide Try.prog W .any base t v := hval0
  have hW' := hW
  obtain ⟨p, q, hA0, hV, rfl, hfz, hnd⟩ := hW
  have hA : DataW.TrodAll enc Try.prog W 0 (fun _ => true) true Try.f4.params.toList args.toList ds p := hA0
  rw [Try.params4] at hA hval
  obtain ⟨v0, vs0, d0, ds0, p0, q0, hargs, rfl, rfl, h0, r0⟩ := trodAll_cons hA
  obtain ⟨v1, vs1, d1, ds1, p1, q1, rfl, rfl, rfl, h1, r1⟩ := trodAll_cons r0
  obtain ⟨v2, vs2, d2, ds2, p2, q2, rfl, rfl, rfl, h2, r2⟩ := trodAll_cons r1
  obtain ⟨rfl, rfl, rfl⟩ := trodAll_nil r2
  obtain rfl : args = #[v0, v1, v2] := by cases args; simp_all
  obtain ⟨rfl, rfl⟩ := trodVars_none hV
  obtain ⟨a0, len0, cap0, rfl⟩ := okWide_slice Try.underlying22 (hval 0 22 v0 rfl rfl)
  have k0 := h0
  have lt0 : ∀ x ∈ p0, x.block < W.heap.size := by obtain ⟨m, hm⟩ := k0; exact DataW.trod_lt m _ _ _ hm
  obtain ⟨z0, w0⟩ : ∃ zs, IsStrs W a0 len0 zs := by
    obtain ⟨fuel, hf⟩ := h0
    rcases open_strs Try.underlying22 Try.underlying9 (by kernel_rfl) hf with ⟨hcs, _⟩ | ⟨x, l, c, m, Sx, hcs, _, hl, hm, hmm, _, hcell⟩
    · simp [Value.cells] at hcs
      obtain ⟨rfl, rfl, rfl⟩ := hcs
      exact ⟨[], rfl, Nat.zero_le _, by simp, .inl rfl⟩
    · simp [Value.cells] at hcs
      obtain ⟨rfl, rfl, rfl⟩ := hcs
      have hlm : len0 ≤ m := by rw [hmm]; split <;> omega
      exact ⟨(List.range len0).map Sx, by simp, by omega, by
        intro z hz
        obtain ⟨i, hi, rfl⟩ := List.mem_map.1 hz
        exact (hcell i (by have := List.mem_range.1 hi; omega)).2, .inr ⟨_, rfl, fun i hi => by rw [(hcell i (by simp at hi; omega)).1]; simp at hi; simp [List.getD, hi]⟩⟩
  have k1 := h1
  have lt1 : ∀ x ∈ p1, x.block < W.heap.size := by obtain ⟨m, hm⟩ := k1; exact DataW.trod_lt m _ _ _ hm
  obtain ⟨a1, rfl, rfl, rfl, w1⟩ := open_int Try.underlying5 (hval 1 5 v1 rfl rfl) h1
  have k2 := h2
  have lt2 : ∀ x ∈ p2, x.block < W.heap.size := by obtain ⟨m, hm⟩ := k2; exact DataW.trod_lt m _ _ _ hm
  obtain ⟨a2, rfl, rfl, rfl, w2⟩ := open_int Try.underlying5 (hval 2 5 v2 rfl rfl) h2
  clear hA0 hval0
  refine (walk a0 len0 cap0 z0 a1 a2 W w0 w1 w2).mono fun e W' ⟨he, bel⟩ => ?_
  subst he
  exact ⟨_, rfl, _, _, _, [], _, [], hW', trodAll_mk1 (shut_bool Try.underlying4 _), (trodAll_cons_mk (Below.trod laidOut (by kernel_rfl) (of_decide_eq_true (by kernel_rfl)) k0 bel lt0) (trodAll_cons_mk (Below.trod laidOut (by kernel_rfl) (of_decide_eq_true (by kernel_rfl)) k1 bel lt1) (trodAll_cons_mk (Below.trod laidOut (by kernel_rfl) (of_decide_eq_true (by kernel_rfl)) k2 bel lt2) trodAll_mk0))), rfl, bel.frame _, fun h => by cases h⟩

theorem over : Rows.gramsHoldRow.holds Try.pinned (OpenSpec.ofChange Rows.gramsHoldSpec) :=
  OpenClaim.holds_of_wide 4 Try.f4 rfl rfl rfl rfl rfl rfl rfl ⟨rfl, rfl, rfl, rfl, rfl⟩ rfl rfl rfl rfl rfl (by kernel_rfl) Try.func4 (by kernel_rfl)
    (of_decide_eq_true (by kernel_rfl)) (by unfold Func.isWrapper; first | (rw [if_pos (by decide +kernel)]; kernel_rfl) | (rw [if_neg (by decide +kernel)]; exact ⟨rfl, rfl⟩))
    (fun os started H enc _ => lifted os started H enc)

theorem proved : Rows.GramsHoldSaid := over
#print axioms proved
end Go.Proofs.Ytdonecbcnkipbaa.gramsHold
