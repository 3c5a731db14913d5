/- Layer 10: New. -/
import Derived.Test.YtgoplbngfinbdaaJ4
import Derived.Test.YtgoplbngfinbdaaKs
import Derived.Test.YtgoplbngfinbdaaCe
namespace Go.Proofs.Ytgoplbngfinbdaa
open Go.ChangeShapes Go.WideShapes Go.ChangeAt Go.RowKit
set_option linter.unusedVariables false
set_option linter.unusedSimpArgs false
set_option maxRecDepth 100000
open KraftMath CanonMath TurnMath Bits
theorem fNewArg (v : Value) (L : Int) (hL : L < 1 ∨ 15 < L) (w : World) : Calls Try.prog 15 #[v, .int .i64 L] w fun e w' => e = .returned (.tuple #[.pointer none, .int .i64 1]) ∧ w' = w := by
  by_cases h1 : L < 1
  · have hd : decide (L < 1) = true := by simpa using h1
    go_enter Try.func15, Try.ntmps15
    go_wp2_with fail
    go_ret2
    exact ⟨rfl, rfl⟩
  · have hd1 : decide (L < 1) = false := by simpa using h1
    have hd : decide (15 < L) = true := by simp; omega
    go_enter Try.func15, Try.ntmps15
    go_wp2_with fail
    go_ret2
    exact ⟨rfl, rfl⟩
theorem fNewBad (a : Option Addr) (c : Nat) (l : List Int) (L : Nat) (hL1 : 1 ≤ L) (hL : L ≤ 15) (hE : check l L ≠ 0) (w : World) (h : IsInts w a l) : Calls Try.prog 15 #[.slice a l.length c, .int .i64 L] w fun e w' => e = .returned (.tuple #[.pointer none, .int .i64 (check l L)]) ∧ Below w.heap.size w w' := by
  have C1 := Lib.hid (kCheck_any a c L l w h)
  obtain ⟨CE, hCE⟩ : ∃ CE, check l L = CE := ⟨_, rfl⟩
  rw [hCE] at hE C1 ⊢
  have hne : (CE != 0) = true := by rw [bne_iff_ne]; exact hE
  have hd1 : decide ((L : Int) < 1) = false := by simp; omega
  have hd2 : decide ((15 : Int) < (L : Int)) = false := by simp; omega
  clear hCE h
  go_enter Try.func15, Try.ntmps15
  go_wp2_with fail
  refine C1.out.mono ?_; rintro e w1 ⟨rfl, k, rfl⟩
  go_wp2_with fail
  go_ret2
  exact ⟨rfl, below_dn (Below.refl _ _) k⟩
set_option maxHeartbeats 3200000 in
theorem fNew (a : Option Addr) (c : Nat) (l : List Int) (L : Nat) (hL1 : 1 ≤ L) (hL : L ≤ 15) (hE : check l L = 0) (w : World) (h : IsInts w a l) : Calls Try.prog 15 #[.slice a l.length c, .int .i64 L] w fun e w' => ∃ gt ge, e = .returned (.tuple #[.pointer (some ⟨gt, 0, none⟩), .int .i64 0]) ∧ IsTab w' w.heap.size gt ge L (2 ^ L) (tabK l L l.length) ∧ w.heap.size ≤ gt ∧ Below w.heap.size w w' := by
  obtain ⟨h16, hlen, -, -⟩ := check_16 hE
  have C1 := Lib.hid (kCheck_any a c L l w h)
  rw [hE] at C1
  have C2 := Lib.hid (fun k => cCodes a c l (w.drewN k) (IsInts.drewN h k))
  rw [h16] at C2
  have HCL := Lib.hid (codes_len (l := l) h16)
  have HCA := Lib.hid (fun s hs => codes_at (l := l) h16 (s := s) hs)
  have HLI := Lib.hid (fun s hs => lenI (l := l) h16 (s := s) hs)
  have HLB := Lib.hid hlen
  have HCB := Lib.hid (fun s hs => ok_c (l := l) h16 (s := s) hs)
  have HT0 := Lib.hid (tabK_zero l L)
  have HTN := Lib.hid (fun k => tabK_len l L k)
  have HTF := Lib.hid (fun k i hk h0 hL hi => fillTo_tab (l := l) h16 (L := L) (k := k) (i := i) hk h0 hL hi)
  have HTS := Lib.hid (fun k hk h0 => tab_skip (l := l) h16 (L := L) (k := k) hk h0)
  have hN0 : 0 < 2 ^ L := Nat.pow_pos (by decide)
  have hN1 : 2 ^ L ≤ 2 ^ 15 := Nat.pow_le_pow_right (by decide) hL
  have hll : l.length ≤ 1024 := ((check_ok l L).1 hE).2.2.1
  have HW := Lib.hid (show wrap64 ((2 : Int) ^ L) = ((2 ^ L : Nat) : Int) by
    have e1 : (2 : Int) ^ L = ((2 ^ L : Nat) : Int) := by simp
    rw [e1]; unfold wrap64; generalize 2 ^ L = q at *; omega)
  have hd1 : decide ((L : Int) < 1) = false := by simp; omega
  have hd2 : decide ((15 : Int) < (L : Int)) = false := by simp; omega
  have HI := Lib.hid h
  clear h hE h16 hlen
  go_enter Try.func15, Try.ntmps15
  go_wp2_with fail
  refine C1.out.mono ?_; rintro e w1 ⟨rfl, k, rfl⟩
  go_wp2_with fail
  refine (C2.out k).mono ?_; rintro e w1 ⟨v1, rfl, hI1, hb1⟩
  obtain ⟨cc, cd, rfl, hI1⟩ := hI1
  rw [HCL.out]
  have HC := Lib.hid hI1
  have HB := Lib.hid (show Below w.heap.size w w1 from (below_dn (Below.refl w.heap.size w) k).trans hb1)
  clear hI1 hb1 C1 C2
  go_wp2_with (refine make_full (f := fE) info_entry (by decide) Try.underlying72 (0, 0) rfl flatE (by decide) rfl _ _ rfl .i64 .i64 _ _ (2 ^ L) rfl rfl HW.out HW.out (by omega) ?_; intro w3 hown3 hb3 hz3)
  obtain ⟨N, hN⟩ : ∃ N, 2 ^ L = N := ⟨_, rfl⟩
  rw [hN] at hown3 hN0 hN1 HTN HTF HT0 ⊢
  have HN := Lib.hid hN
  rw [← HT0.out] at hown3
  obtain ⟨gt, hgt⟩ : ∃ gt, w3.heap.size = gt := ⟨_, rfl⟩
  have HO := Lib.hid hown3; have HB3 := Lib.hid hb3
  clear hown3 hb3 hN HW HT0
  have HNI := Lib.hid (show (2 : Int) ^ L = (N : Int) by rw [← HN.out]; simp)
  go_wp2_with fail
  have hb3s := HB3.out.size
  obtain ⟨ge, hge⟩ : ∃ ge, w1.heap.size = ge := ⟨_, rfl⟩
  obtain ⟨W, hW⟩ : ∃ W, w3.alloc (.cells #[.slice (some ⟨ge, 0, none⟩) N N, .int .i64 L] 74) = W := ⟨_, rfl⟩
  have HT := Lib.hid (show IsTab W ge gt ge L N (tabK l L 0) by
    rw [← hW, ← hgt]
    refine ⟨heap_alloc_new _ _, ?_⟩
    have := HO.out
    rw [hge] at this
    exact OwnS.kept this ((Below.refl _ _).alloc (Nat.le_refl _) _))
  have HBW := Lib.hid (show Below ge w1 W by
    rw [← hW]
    have := HB3.out
    rw [hge] at this
    exact this.alloc (by omega) _)
  have hgegt : ge ≤ gt := by omega
  have hw1 : w.heap.size ≤ ge := by have := HB.out.size; omega
  have hgeW : Hid (w1.heap.size = ge) := Lib.hid hge
  rw [hgt, hge, hW]
  clear hW hgt hge HO HB3 hb3s hz3
  go_loopw [40] (fun iv wr => ∃ k : Nat, k ≤ l.length ∧ iv = .int .i64 k ∧ Hid (IsTab wr ge gt ge L N (tabK l L k)) ∧ Hid (Below ge w1 wr)) (fun iv _ => l.length - (intOf iv).toNat)
  case atStart => exact ⟨0, Nat.zero_le _, rfl, HT, HBW⟩
  case round =>
    obtain ⟨k, hk, rfl, ht, hb⟩ := hrel
    have hbw1 : Below w1.heap.size w1 wr := hb.out.mono (Nat.le_of_eq hgeW.out)
    by_cases hlt : k < l.length
    · have hgl := (HI.out.kept HB.out).kept hbw1
      have hgc := HC.out.kept hbw1
      obtain ⟨x, rfl, hxb, cx0⟩ := hgl.at k hlt
      have cx := cx0 k hlt
      rw [HLI.out k hlt] at cx
      obtain ⟨y, rfl, hyb, cy0⟩ := hgc.at k (by rw [HCL.out]; exact hlt)
      have cy := cy0 k (by rw [HCL.out]; exact hlt)
      rw [HCA.out k hlt] at cy
      have hLk := HLB.out k hlt
      have hC := HCB.out k hlt
      have HTFk := Lib.hid (fun i h0 hi => HTF.out k i hlt h0 hLk hi)
      have HTSk := Lib.hid (fun h0 => HTS.out k hlt h0)
      have hTN := HTN.out k
      obtain ⟨n, hn⟩ : ∃ n, len l k = n := ⟨_, rfl⟩
      obtain ⟨C, hCe⟩ : ∃ C, code l k = C := ⟨_, rfl⟩
      rw [hn] at cx hLk hC HTFk HTSk
      rw [hCe] at cy hC HTFk
      clear cx0 cy0 hgl hgc hn hCe hbw1
      by_cases hn0 : n = 0
      · have HT2 := Lib.hid (show IsTab wr ge gt ge L N (tabK l L (k + 1)) by rw [HTSk.out hn0]; exact ht.out)
        subst hn0
        go_wp2_with fail
        go_roundw
        case rel => exact ⟨k + 1, by omega, by go_num, HT2, hb⟩
        case measure => simp [intOf]; omega
      · have hC15 : C < 32768 := Nat.lt_of_lt_of_le hC (show 2 ^ n ≤ 2 ^ 15 from Nat.pow_le_pow_right (by decide) (by omega))
        have hnp : (0 : Int) < (n : Int) := by omega
        have CT := Lib.hid (fun W => bTurned (C : Int) n (by omega) W)
        rw [show ((C : Int) % 4294967296).toNat = C by omega] at CT
        have hT := turn_lt C n
        have CF := Lib.hid (fFill wr ge gt ge L N (turn C n) n k (tabK l L k) ht.out hTN (by omega) (by omega) hT)
        obtain ⟨T, hTe⟩ : ∃ T, turn C n = T := ⟨_, rfl⟩
        rw [hTe] at CT CF HTFk
        clear hT hTe hC
        go_wp2_with fail
        refine (CT.out _).mono ?_; rintro e w4 ⟨rfl, rfl⟩
        go_wp2_with fail
        refine CF.out.mono ?_; rintro e w5 ⟨rfl, ⟨i, hi, ht5⟩, hk5⟩
        have HT2 := Lib.hid (show IsTab w5 ge gt ge L N (tabK l L (k + 1)) by rw [← HTFk.out i hn0 hi]; exact ht5)
        have HB2 := Lib.hid (hb.out.trans (hk5.below (B := ge) (fun q hq => ⟨by have := hb.out.size; have := hgeW.out; omega, by show q ≠ ge; omega⟩)))
        clear ht5 hk5
        go_wp2_with fail
        go_roundw
        case rel => exact ⟨k + 1, by omega, by go_num, HT2, HB2⟩
        case measure => simp [intOf]; omega
    · obtain rfl : k = l.length := by omega
      have HTT := Lib.hid (show IsTab wr w.heap.size gt ge L N (tabK l L l.length) from ⟨ht.out.tb, OwnS.base ht.out.row hw1⟩)
      have HBB := Lib.hid (HB.out.trans (hb.out.mono hw1))
      go_wp2_with fail
      go_ret2
      exact ⟨gt, ge, rfl, by rw [HN.out]; exact HTT.out, by omega, HBB.out⟩
end Go.Proofs.Ytgoplbngfinbdaa
