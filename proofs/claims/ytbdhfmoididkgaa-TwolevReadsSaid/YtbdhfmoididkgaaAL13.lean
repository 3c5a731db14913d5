/- Layer 11: how many entries there are, as the document has it. -/
import Derived.Test.YtbdhfmoididkgaaAL11
import Derived.Test.YtbdhfmoididkgaaAL12
import Derived.Test.YtbdhfmoididkgaaCg
namespace Go.Proofs.Ytbdhfmoididkgaa
open Go.ChangeShapes Go.WideShapes Go.ChangeAt Go.RowKit Go.Lib
set_option linter.unusedVariables false
set_option linter.unusedSimpArgs false
set_option maxRecDepth 100000
open Two KraftMath CanonMath TurnMath Bits
theorem seen_low {l : List Int} {root i s : Nat} (h : (ord l)[i]? = some s) (hr : len l s ≤ root) : metH l root (i + 1) = metH l root i := by
  have hd : (ord l).getD i 0 = s := by rw [List.getD_eq_getElem?_getD, h]; rfl
  simp only [metH, hd, if_pos hr]
theorem seen_same {l : List Int} {root i s : Nat} (h : (ord l)[i]? = some s) (hr : ¬ len l s ≤ root) (h2 : (head l root s : Int) = lastI (metH l root i)) : metH l root (i + 1) = metH l root i := by
  have hd : (ord l).getD i 0 = s := by rw [List.getD_eq_getElem?_getD, h]; rfl
  simp only [metH, hd, if_neg hr, if_pos h2]
theorem seen_new {l : List Int} {root i s : Nat} (h : (ord l)[i]? = some s) (hr : ¬ len l s ≤ root) (h2 : ¬ (head l root s : Int) = lastI (metH l root i)) : metH l root (i + 1) = metH l root i ++ [head l root s] := by
  have hd : (ord l).getD i 0 = s := by rw [List.getD_eq_getElem?_getD, h]; rfl
  simp only [metH, hd, if_neg hr, if_neg h2]
theorem lastI_new (x : List Nat) (y : Nat) : lastI (x ++ [y]) = y := by simp [lastI]
set_option maxHeartbeats 3200000 in
theorem dSize (a : Option Addr) (c : Nat) (l : List Int) (root L D R SZ : Nat) (hr1 : 1 ≤ root) (hrL : root + D = L) (hL : L ≤ 15) (hR : 2 ^ root = R) (hSZ : 2 ^ D = SZ) (hE : check l 16 = 0) (hlen : ∀ s, s < l.length → len l s ≤ L) (hl : l.length ≤ 200) (w : World) (h : IsInts w a l) :
    Calls Try.prog 11 #[.slice a l.length c, .int .i64 root, .int .i64 L] w fun e w' => e = .returned (.int .i64 ((R : Int) + ((metH l root (ord l).length).length * SZ : Nat))) ∧ Below w.heap.size w w' := by
  have hRp : 0 < R := by rw [← hR]; exact Nat.pow_pos (by decide)
  have hSp : 0 < SZ := by rw [← hSZ]; exact Nat.pow_pos (by decide)
  have hR15 : R ≤ 32768 := by rw [← hR]; exact Nat.le_trans (Nat.pow_le_pow_right (by decide) (show root ≤ 15 by omega)) (by decide)
  have hS15 : SZ ≤ 32768 := by rw [← hSZ]; exact Nat.le_trans (Nat.pow_le_pow_right (by decide) (show D ≤ 15 by omega)) (by decide)
  have HW1 := Lib.hid (show wrap64 ((2 : Int) ^ root) = (R : Int) by
    have e1 : (2 : Int) ^ root = ((2 ^ root : Nat) : Int) := by simp
    rw [e1, hR]; unfold wrap64; omega)
  have HW2 := Lib.hid (show IntKind.i64.wrap ((2 : Int) ^ D) = (SZ : Int) by
    have e1 : (2 : Int) ^ D = ((2 ^ D : Nat) : Int) := by simp
    rw [e1, hSZ, IntKind.wrap_i64]; omega)
  have C1 := Lib.hid (rCodes a c l w h (by omega))
  have C2 := Lib.hid (fun W h => rOrder a c l W h (by omega))
  have hol := ord_length l (fun n hn => by
    obtain ⟨s, hs, e⟩ := List.mem_iff_getElem.1 hn
    have := ok_b hE s hs
    unfold len at this
    have e2 : l.getD s 0 = n := by rw [List.getD_eq_getElem?_getD, List.getElem?_eq_getElem hs, e]; rfl
    rw [e2] at this
    omega)
  have hou : (ord l).length ≤ 200 := by have := used_le l; omega
  rw [orderL_eq l hE] at C2
  have HCL := Lib.hid (codes_len (l := l) hE)
  have HCA := Lib.hid (fun s hs => codes_at (l := l) hE (s := s) hs)
  have HLI := Lib.hid (fun s hs => lenI (l := l) hE (s := s) hs)
  have HLB := Lib.hid hlen
  have HCB := Lib.hid (fun s hs => ok_c (l := l) hE (s := s) hs)
  have HI := Lib.hid h
  clear h hol
  go_enter Try.func11, Try.ntmps11
  go_wp2_with fail
  refine C1.out.mono ?_; rintro e w1 ⟨v1, rfl, ⟨cc, cd, rfl, hI1⟩, hb1⟩
  rw [HCL.out]
  have HC := Lib.hid hI1
  have HB := Lib.hid hb1
  have HI1 := Lib.hid (HI.out.kept hb1)
  clear hI1 hb1 C1
  go_wp2_with fail
  rw [HW1.out]
  refine (C2.out _ HI1.out).mono ?_; rintro e w2 ⟨v2, rfl, ho2, hb2⟩
  obtain ⟨OL, hOL⟩ : ∃ OL, (ord l).length = OL := ⟨_, rfl⟩
  obtain ⟨oa, oc, rfl, hO⟩ := ho2.isL (by simp; omega)
  rw [List.length_map, hOL]
  rw [hOL] at hou
  have HO := Lib.hid hO
  have HC := Lib.hid (HC.out.kept hb2)
  have HI2 := Lib.hid (HI1.out.kept hb2)
  have HB2 := Lib.hid (HB.out.trans (hb2.mono HB.out.size))
  have HSL := Lib.hid (fun i => seen_len l root i)
  have HOL := Lib.hid hOL
  have HRR := Lib.hid (show R ≤ 32768 from hR15); have HSS := Lib.hid (show SZ ≤ 32768 from hS15)
  have hw2z := hb2.size
  have hDL := Lib.hid hrL
  clear hO ho2 hb2 HB HI1 HI C2 hOL hR hSZ hrL hRp hSp
  go_wp2_with fail
  go_loopw [9, 10, 12] (fun nv lv iv wr => ∃ i : Nat, i ≤ OL ∧ iv = .int .i64 i ∧ nv = .int .i64 ((R : Int) + ((metH l root i).length * SZ : Nat)) ∧ lv = .int .i64 (lastI (metH l root i)) ∧ wr = w2) (fun _ _ iv _ => OL - (intOf iv).toNat)
  case atStart => exact ⟨0, Nat.zero_le _, rfl, by simp [metH], by simp [metH, lastI], rfl⟩
  case round =>
    obtain ⟨i, hi, rfl, rfl, rfl, rfl⟩ := hrel
    by_cases hlt : i < OL
    · obtain ⟨s, hs⟩ : ∃ s, (ord l)[i]? = some s := ⟨_, List.getElem?_eq_getElem (by rw [HOL.out]; exact hlt)⟩
      obtain ⟨p1, p2, p3, p4, -⟩ := pos_of_get l i s hs
      obtain ⟨xo, rfl, -, co0⟩ := HO.out.at i (by rw [List.length_map, HOL.out]; exact hlt)
      have co := co0 i (by rw [List.length_map, HOL.out]; exact hlt)
      rw [ordNat_get l i s hs] at co
      obtain ⟨xa, rfl, -, ca0⟩ := HI2.out.at s p1
      have ca := ca0 s p1
      rw [HLI.out s p1] at ca
      obtain ⟨xc, rfl, -, cc0⟩ := HC.out.at s (by rw [HCL.out]; exact p1)
      have ccc := cc0 s (by rw [HCL.out]; exact p1)
      rw [HCA.out s p1] at ccc
      clear co0 ca0 cc0
      have hsi : (s : Int) < (l.length : Int) := by omega
      have hs0 : (0 : Int) ≤ (s : Int) := by omega
      have hii : (i : Int) < (OL : Int) := by omega
      have hML := HSL.out i
      have hLs := HLB.out s p1
      have hCs := HCB.out s p1
      have HST := Lib.hid (show len l s ≤ root → metH l root (i + 1) = metH l root i from fun hr => seen_low hs hr)
      have HSA := Lib.hid (show ¬ len l s ≤ root → (head l root s : Int) = lastI (metH l root i) → metH l root (i + 1) = metH l root i from fun hr h2 => seen_same hs hr h2)
      have HSN := Lib.hid (show ¬ len l s ≤ root → ¬ (head l root s : Int) = lastI (metH l root i) → metH l root (i + 1) = metH l root i ++ [head l root s] from fun hr h2 => seen_new hs hr h2)
      obtain ⟨n, hn⟩ : ∃ n, len l s = n := ⟨_, rfl⟩
      unfold head at HSA HSN
      obtain ⟨Cc, hCe⟩ : ∃ Cc, code l s = Cc := ⟨_, rfl⟩
      rw [hn] at ca hLs hCs HST HSA HSN p2 p3
      rw [hCe] at ccc hCs HSA HSN
      obtain ⟨M, hM⟩ : ∃ M, (metH l root i).length = M := ⟨_, rfl⟩
      obtain ⟨Z, hZ⟩ : ∃ Z, lastI (metH l root i) = Z := ⟨_, rfl⟩
      have HM := Lib.hid hM
      have HZ := Lib.hid hZ
      rw [hZ] at HSA HSN
      rw [hM] at hML
      rw [hM, hZ]
      have hms : M * SZ ≤ 200 * 32768 := Nat.mul_le_mul (by omega) hS15
      obtain ⟨MS, hMS⟩ : ∃ MS, M * SZ = MS := ⟨_, rfl⟩
      have HMS := Lib.hid hMS
      rw [hMS] at hms ⊢
      clear hM hZ hMS hn hCe hs p4
      by_cases hr : n ≤ root
      · have hr' : (n : Int) ≤ (root : Int) := by omega
        have HE2 := Lib.hid (HST.out hr)
        clear hCs
        go_wp2_with fail
        go_roundw
        case rel => exact ⟨i + 1, by omega, by go_num, by rw [HE2.out, HM.out, HMS.out], by rw [HE2.out, HZ.out], by first | rfl | trivial⟩
        case measure => simp [intOf]; omega
      · have hr' : ¬ (n : Int) ≤ (root : Int) := by omega
        obtain ⟨d, hd⟩ : ∃ d, n - root = d := ⟨_, rfl⟩
        rw [hd] at HSA HSN
        have hWd : IntKind.i64.wrap ((n : Int) - (root : Int)) = (d : Int) := by rw [IntKind.wrap_i64]; omega
        have hWD : IntKind.i64.wrap ((L : Int) - (root : Int)) = (D : Int) := by have := hDL.out; rw [IntKind.wrap_i64]; omega
        have hUd : IntKind.u64.wrap (d : Int) = (d : Int) := wrap_u64_nat d (by omega)
        have hUD : IntKind.u64.wrap (D : Int) = (D : Int) := wrap_u64_nat D (by have := hDL.out; omega)
        have hmd : min d 64 = d := by omega
        have hmD : min D 64 = D := by have := hDL.out; omega
        obtain ⟨H, hH⟩ : ∃ H, Cc / 2 ^ d = H := ⟨_, rfl⟩
        have hShr : (Cc : Int) / 2 ^ d = (H : Int) := by
          have e1 : (2 : Int) ^ d = ((2 ^ d : Nat) : Int) := by simp
          rw [e1, ← hH]; simp
        have hW2 := HW2.out
        rw [hH] at HSA HSN
        clear hCs hH
        by_cases hz : (H : Int) = Z
        · have HE2 := Lib.hid (HSA.out hr hz)
          have hzb : ((H : Int) == Z) = true := by rw [beq_iff_eq]; exact hz
          go_wp2_with fail
          go_roundw
          case rel => exact ⟨i + 1, by omega, by go_num, by rw [HE2.out, HM.out, HMS.out], by rw [HE2.out, HZ.out], by first | rfl | trivial⟩
          case measure => simp [intOf]; omega
        · have HE2 := Lib.hid (HSN.out hr hz)
          have hzb : ((H : Int) == Z) = false := by rw [beq_eq_false_iff_ne]; exact hz
          have hadd : IntKind.i64.wrap ((R : Int) + (MS : Int) + (SZ : Int)) = (R : Int) + (MS : Int) + (SZ : Int) := by rw [IntKind.wrap_i64]; omega
          go_wp2_with fail
          go_roundw
          case rel =>
            refine ⟨i + 1, by omega, by go_num, ?_, by rw [HE2.out, lastI_new], by first | rfl | trivial⟩
            rw [HE2.out, List.length_append, HM.out, List.length_singleton, Nat.add_mul, Nat.one_mul, HMS.out]
            congr 1
            omega
          case measure => simp [intOf]; omega
    · obtain rfl : i = OL := by omega
      go_wp2_with fail
      go_ret
      exact ⟨by rw [HOL.out]; rfl, HB2.out⟩
end Go.Proofs.Ytbdhfmoididkgaa
