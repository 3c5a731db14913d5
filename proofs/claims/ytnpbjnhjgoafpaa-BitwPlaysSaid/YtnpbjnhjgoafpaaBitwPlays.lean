/- It is proved that the law 'BitwPlays' of the program returns true for every input, with no condition, and leaves what was handed in as it was. The frame was written by a program; the walk is by hand. -/
import Derived.Test.YtnpbjnhjgoafpaaRows
import Derived.WalkKit
import Derived.ProofKit
import Derived.OpenShut
import Derived.ShutString
import Derived.ChangeOld
import Derived.Below
import Derived.Test.YtnpbjnhjgoafpaaBase
import Derived.Test.YtnpbjnhjgoafpaaB2
import Derived.Test.YtnpbjnhjgoafpaaD3
import Derived.Deep.RegionHeld3
namespace Go.Proofs.Ytnpbjnhjgoafpaa.bitwPlays
open Go.ChangeShapes Go.WideShapes Go.ChangeAt Go.RowKit Go.Deep
open Go.ChangeMaps (open_string shut_string)
set_option linter.unusedVariables false
set_option maxRecDepth 100000

theorem own : ownKnob Try.prog.godebug = none := by kernel_rfl
theorem laidOut : laidOutB Try.prog = true := by kernel_rfl

/-- What the walk is told of the slice of structs that came in at place 0: nil, or elements at their places. -/
def IsRows0 (w : World) (a : Option Addr) (len cap : Nat) (F0 : Nat → Int) (F1 : Nat → Int) (F2 : Nat → Int) : Prop :=
  (a = none ∧ len = 0 ∧ cap = 0) ∨ ∃ x, a = some x ∧ len ≤ cap ∧ cap ≤ maxLen ∧ ∀ i, i < len → (w.cell? ((x.add (i * 3)).add 0) = some (.int .i64 (F0 i)) ∧ (Lit.int .i64 (F0 i)).wf = true) ∧ (w.cell? ((x.add (i * 3)).add 1) = some (.int .i64 (F1 i)) ∧ (Lit.int .i64 (F1 i)).wf = true) ∧ (w.cell? ((x.add (i * 3)).add 2) = some (.int .u64 (F2 i)) ∧ (Lit.int .u64 (F2 i)).wf = true)

open Bits
theorem align_bits (l : List Bool) : l ++ List.replicate (lack l.length) false = l ++ bitsOf 0 (lack l.length) := by
  have h : ∀ n, bitsOf 0 n = List.replicate n false := by
    intro n; induction n with
    | zero => rfl
    | succ n ih => simp [bitsOf, List.replicate_succ, ih]
  rw [h]
theorem keepC {n : Nat} {w wx : World} {p1 p2 : Addr} {c1 c2 : Value} (hb : Below n w wx) (h : p1.block < n ∧ p2.block < n ∧ w.cell? p1 = some c1 ∧ w.cell? p2 = some c2) : wx.cell? p1 = some c1 ∧ wx.cell? p2 = some c2 :=
  ⟨(hb.cell h.1).trans h.2.2.1, (hb.cell h.2.1).trans h.2.2.2⟩
theorem docOut (v : Value) (x n : Int) (W : World) (h : Calls Try.prog 19 #[v, .int .u64 x, .int .i64 n] W fun e w' => e = .returned (.tuple #[v, .int .i64 2]) ∧ ∃ k, w' = W.drewN k) :
    Calls Try.prog 19 #[v, .int .u64 x, .int .i64 n] W fun e w' => e = .returned (.tuple #[v, .int .i64 2]) ∧ Below W.heap.size W w' :=
  h.mono (by rintro e w' ⟨rfl, k, rfl⟩; exact ⟨rfl, below_dn (Below.refl _ _) _⟩)

set_option maxHeartbeats 3200000 in
theorem walk (a0 : Option Addr) (len0 cap0 : Nat) (F0_0 : Nat → Int) (F0_1 : Nat → Int) (F0_2 : Nat → Int) (w : World) (w0 : IsRows0 w a0 len0 cap0 F0_0 F0_1 F0_2) :
    Calls Try.prog 3 #[.slice a0 len0 cap0] w fun e w' => e = .returned (.bool true) ∧ Below w.heap.size w w' := by
  by_cases hlong : 100 < len0
  · have hli : (100 : Int) < (len0 : Int) := by omega
    go_enter Try.func3, Try.ntmps3
    go_wp2_with fail
    refine (awake01 _).mono ?_; rintro e w1 ⟨rfl, hb⟩
    go_wp2_with fail
    go_ret
    exact ⟨rfl, hb⟩
  have hl100 : len0 ≤ 100 := by omega
  have w0_ := Lib.hid w0
  clear w0
  go_enter Try.func3, Try.ntmps3
  go_wp2_with fail
  refine (wNew _).mono ?_; rintro e w1 ⟨rfl, hw1, hb1, hz1, hf1⟩
  have hs1 := Lib.hid (side_new hw1 hb1 hf1)
  clear hw1 hb1 hz1 hf1
  go_wp2_with fail
  go_loopw [4, 5] (fun v i wr => ∃ (k : Nat) (l : List Bool), k ≤ len0 ∧ i = .int .i64 k ∧ l.length ≤ 63 * k ∧ Side w wr w.heap.size v l l) (fun _ i _ => len0 - (intOf i).toNat)
  case atStart => exact ⟨0, [], Nat.zero_le _, rfl, by simp, hs1.out⟩
  case round =>
    clear hs1
    obtain ⟨k, l, hk, rfl, hll, hs⟩ := hrel
    by_cases hlt : k < len0
    · rcases w0_.out with ⟨-, h0, -⟩ | ⟨x, rfl, hlc, hcm, hc⟩
      · omega
      obtain ⟨⟨q0, m0⟩, ⟨q1, m1⟩, q2, m2⟩ := hc k hlt
      clear hc
      obtain ⟨K, hK⟩ : ∃ K, F0_0 k = K := ⟨_, rfl⟩
      obtain ⟨N, hN⟩ : ∃ N, F0_1 k = N := ⟨_, rfl⟩
      obtain ⟨X, hX⟩ : ∃ X, F0_2 k = X := ⟨_, rfl⟩
      rw [hK] at q0 m0
      rw [hN] at q1 m1
      rw [hX] at q2 m2
      clear hK hN hX
      have e0 : (x.add (k * 3)).add 0 = x.add (k * 3) := by simp [Addr.add]
      rw [e0] at q0
      have e1 : (x.add (k * 3)).add 1 = ⟨(x.add (k * 3)).block, (x.add (k * 3)).off + 1, none⟩ := rfl
      rw [e1] at q1
      have e2 : (x.add (k * 3)).add 2 = ⟨(x.add (k * 3)).block, (x.add (k * 3)).off + 2, none⟩ := rfl
      rw [e2] at q2
      clear e0 e1 e2
      have hQ := Lib.hid (show (x.add (k * 3)).block < w.heap.size ∧ w.cell? (x.add (k * 3)) = some (.int .i64 K) ∧ w.cell? ⟨(x.add (k * 3)).block, (x.add (k * 3)).off + 1, none⟩ = some (.int .i64 N) ∧ w.cell? ⟨(x.add (k * 3)).block, (x.add (k * 3)).off + 2, none⟩ = some (.int .u64 X) from ⟨cell_block q0, q0, q1, q2⟩)
      have p0 : wr.cell? (x.add (k * 3)) = _ := (hs.below.cell hQ.out.1).trans q0
      have p1 : wr.cell? ⟨(x.add (k * 3)).block, (x.add (k * 3)).off + 1, none⟩ = _ := (hs.below.cell (p := ⟨(x.add (k * 3)).block, (x.add (k * 3)).off + 1, none⟩) hQ.out.1).trans q1
      have p2 : wr.cell? ⟨(x.add (k * 3)).block, (x.add (k * 3)).off + 2, none⟩ = _ := (hs.below.cell (p := ⟨(x.add (k * 3)).block, (x.add (k * 3)).off + 2, none⟩) hQ.out.1).trans q2
      clear q0 q1 q2
      have hs_ := Lib.hid hs
      clear hs
      by_cases hK1 : K = 1
      · subst hK1
        have CA := Lib.hid (dAlign w.heap.size _ l wr hs_.out.row hs_.out.below.size (by omega))
        go_wp2_with fail
        refine CA.out.mono ?_; rintro e w1 ⟨v1, rfl, hown1, hrow⟩
        have hs1 := hs_.out.rowed hown1 hrow
        have CW := Lib.hid (wAlign w1 w.heap.size w.heap.size l hs1.wri (by omega))
        clear hown1 hrow
        have hs1_ := Lib.hid hs1
        clear hs1
        clear hs_ CA p0 p1 p2
        go_wp2_with fail
        refine CW.out.mono ?_; rintro e w2 ⟨rfl, hw2, hk2, hf2⟩
        rw [align_bits] at hs1_
        have hs2 := hs1_.out.wrote hw2 hk2 hf2
        obtain ⟨L, hL⟩ : ∃ L, l ++ bitsOf 0 (lack l.length) = L := ⟨_, rfl⟩
        have HL := Lib.hid (show L.length ≤ 63 * (k + 1) by rw [← hL, List.length_append, bitsOf_length]; unfold lack; omega)
        rw [hL] at hs2
        obtain ⟨J, hJ⟩ : ∃ J, lack l.length = J := ⟨_, rfl⟩
        rw [hJ]
        clear CW hw2 hk2 hf2 hs1_ hL hJ
        have hs2_ := Lib.hid hs2
        clear hs2
        obtain ⟨va, vc, hv⟩ := hs2_.out.row.slice
        subst hv
        go_wp2_with fail
        refine (wLen _ _ _ _ hs2_.out.wri).mono ?_; rintro e w3 ⟨rfl, k3, rfl⟩
        have hs3 := Lib.hid (hs2_.out.drewN k3)
        clear hs2_
        go_wp2_with fail
        refine (wBytes _ _ _ _ hs3.out.wri).mono ?_; rintro e w4 ⟨rfl, hb4⟩
        have hs4 := Lib.hid (hs3.out.later hb4)
        obtain ⟨vb, vd, hv, hboo⟩ := hs4.out.row.isB
        simp only [Value.slice.injEq, true_and] at hv
        obtain ⟨rfl, rfl⟩ := hv
        have CB := Lib.hid (dBytes va vc L w4 hboo (by have := HL.out; omega))
        clear hs3 hb4 hboo
        go_wp2_with fail
        refine CB.out.mono ?_; rintro e w5 ⟨rfl, hb5⟩
        have hs5 := Lib.hid (hs4.out.later hb5)
        clear hs4 hb5 CB
        go_wp2_with fail
        go_roundw
        case rel => exact ⟨k + 1, L, by omega, by go_num, HL.out, hs5.out⟩
        case measure => simp [intOf]; omega
      · have hKf : (K == 1) = false := by rw [beq_eq_false_iff_ne]; exact hK1
        have hXb := bounds_u64 m2
        have hP := Lib.hid (show (x.add (k * 3)).block < w.heap.size ∧ (x.add (k * 3)).block < w.heap.size ∧ w.cell? ⟨(x.add (k * 3)).block, (x.add (k * 3)).off + 1, none⟩ = some (.int .i64 N) ∧ w.cell? ⟨(x.add (k * 3)).block, (x.add (k * 3)).off + 2, none⟩ = some (.int .u64 X) from ⟨hQ.out.1, hQ.out.1, hQ.out.2.2.1, hQ.out.2.2.2⟩)
        have HL0 := Lib.hid (show l.length ≤ 63 * (k + 1) by omega)
        have hBd := Lib.hid hs_.out.below.size
        obtain ⟨X, rfl⟩ : ∃ Y : Nat, X = Y := ⟨X.toNat, by omega⟩
        by_cases hout : N < 0 ∨ 56 < N
        · have CA := Lib.hid (fun v W => docOut v X N W (dPut_out v X N hout W))
          have CW := Lib.hid (fun W => wPutOut ⟨w.heap.size, 0, none⟩ X N (by omega) (by omega) W)
          have HL := HL0
          clear hout m0 m1 m2 hXb hK1 hQ HL0 hBd hll
          go_wp2_with fail
          go_region_held3 (fun w' => w'.cell? ⟨(x.add (k * 3)).block, (x.add (k * 3)).off + 1, none⟩ = some (.int .i64 N) ∧ w'.cell? ⟨(x.add (k * 3)).block, (x.add (k * 3)).off + 2, none⟩ = some (.int .u64 X)) (first | exact ⟨p1, p2⟩ | exact keepC (by assumption) hP.out) (first | (go_at_call 19; refine (CA.out _ _).mono ?_; rintro e wx ⟨rfl, hbx0⟩; have hsx := Lib.hid ((hs_.out.later (Below.refl _ _).drew).later hbx0); have hbx := hsx.out.below))
          simp only [Exit.then]
          rename_i hK hHeld
          refine hK _ _ ?_
          obtain ⟨py1, py2⟩ := hHeld
          clear hK hbx hs_ p0 p1 p2 CA
          go_wp2_with fail
          go_region_held3 (fun w' => w'.cell? ⟨(x.add (k * 3)).block, (x.add (k * 3)).off + 1, none⟩ = some (.int .i64 N) ∧ w'.cell? ⟨(x.add (k * 3)).block, (x.add (k * 3)).off + 2, none⟩ = some (.int .u64 X)) (first | exact ⟨py1, py2⟩ | exact keepC (by assumption) hP.out) (first | (go_at_call 20; refine (CW.out _).mono ?_; rintro e wz ⟨rfl, hbz0⟩; have hsz := Lib.hid ((hsx.out.later (Below.refl _ _).drew).later hbz0); have hbz := hsz.out.below))
          simp only [Exit.then]
          rename_i hK hHeld
          refine hK _ _ ?_
          clear hK hHeld hbz hsx py1 py2 CW
          clear hbx0 hbz0
          obtain ⟨va, vc, hv⟩ := hsz.out.row.slice
          subst hv
          go_wp2_with fail
          refine (wLen _ _ _ _ hsz.out.wri).mono ?_; rintro e w3 ⟨rfl, k3, rfl⟩
          have hs3 := Lib.hid (hsz.out.drewN k3)
          clear hsz
          go_wp2_with fail
          refine (wBytes _ _ _ _ hs3.out.wri).mono ?_; rintro e w4 ⟨rfl, hb4⟩
          have hs4 := Lib.hid (hs3.out.later hb4)
          obtain ⟨vb, vd, hv, hboo⟩ := hs4.out.row.isB
          simp only [Value.slice.injEq, true_and] at hv
          obtain ⟨rfl, rfl⟩ := hv
          have CB := Lib.hid (dBytes va vc l w4 hboo (by have := HL.out; omega))
          clear hs3 hb4 hboo
          go_wp2_with fail
          refine CB.out.mono ?_; rintro e w5 ⟨rfl, hb5⟩
          have hs5 := Lib.hid (hs4.out.later hb5)
          clear hs4 hb5 CB
          go_wp2_with fail
          go_roundw
          case rel => exact ⟨k + 1, l, by omega, by go_num, HL.out, hs5.out⟩
          case measure => simp [intOf]; omega
        · obtain ⟨N, rfl⟩ : ∃ n : Nat, N = n := ⟨N.toNat, by omega⟩
          by_cases hgr : 2 ^ N ≤ X
          · have CA := Lib.hid (fun v W => docOut v X N W (dPut_great v X N (by omega) hgr W))
            have CW := Lib.hid (fun W => wPutOut ⟨w.heap.size, 0, none⟩ X N (by rw [Int.toNat_natCast]; omega) (by omega) W)
            have HL := HL0
            clear hout hgr m0 m1 m2 hXb hK1 hQ HL0 hBd hll
            go_wp2_with fail
            go_region_held3 (fun w' => w'.cell? ⟨(x.add (k * 3)).block, (x.add (k * 3)).off + 1, none⟩ = some (.int .i64 N) ∧ w'.cell? ⟨(x.add (k * 3)).block, (x.add (k * 3)).off + 2, none⟩ = some (.int .u64 X)) (first | exact ⟨p1, p2⟩ | exact keepC (by assumption) hP.out) (first | (go_at_call 19; refine (CA.out _ _).mono ?_; rintro e wx ⟨rfl, hbx0⟩; have hsx := Lib.hid ((hs_.out.later (Below.refl _ _).drew).later hbx0); have hbx := hsx.out.below))
            simp only [Exit.then]
            rename_i hK hHeld
            refine hK _ _ ?_
            obtain ⟨py1, py2⟩ := hHeld
            clear hK hbx hs_ p0 p1 p2 CA
            go_wp2_with fail
            go_region_held3 (fun w' => w'.cell? ⟨(x.add (k * 3)).block, (x.add (k * 3)).off + 1, none⟩ = some (.int .i64 N) ∧ w'.cell? ⟨(x.add (k * 3)).block, (x.add (k * 3)).off + 2, none⟩ = some (.int .u64 X)) (first | exact ⟨py1, py2⟩ | exact keepC (by assumption) hP.out) (first | (go_at_call 20; refine (CW.out _).mono ?_; rintro e wz ⟨rfl, hbz0⟩; have hsz := Lib.hid ((hsx.out.later (Below.refl _ _).drew).later hbz0); have hbz := hsz.out.below))
            simp only [Exit.then]
            rename_i hK hHeld
            refine hK _ _ ?_
            clear hK hHeld hbz hsx py1 py2 CW
            clear hbx0 hbz0
            obtain ⟨va, vc, hv⟩ := hsz.out.row.slice
            subst hv
            go_wp2_with fail
            refine (wLen _ _ _ _ hsz.out.wri).mono ?_; rintro e w3 ⟨rfl, k3, rfl⟩
            have hs3 := Lib.hid (hsz.out.drewN k3)
            clear hsz
            go_wp2_with fail
            refine (wBytes _ _ _ _ hs3.out.wri).mono ?_; rintro e w4 ⟨rfl, hb4⟩
            have hs4 := Lib.hid (hs3.out.later hb4)
            obtain ⟨vb, vd, hv, hboo⟩ := hs4.out.row.isB
            simp only [Value.slice.injEq, true_and] at hv
            obtain ⟨rfl, rfl⟩ := hv
            have CB := Lib.hid (dBytes va vc l w4 hboo (by have := HL.out; omega))
            clear hs3 hb4 hboo
            go_wp2_with fail
            refine CB.out.mono ?_; rintro e w5 ⟨rfl, hb5⟩
            have hs5 := Lib.hid (hs4.out.later hb5)
            clear hs4 hb5 CB
            go_wp2_with fail
            go_roundw
            case rel => exact ⟨k + 1, l, by omega, by go_num, HL.out, hs5.out⟩
            case measure => simp [intOf]; omega
          · have hgr' : X < 2 ^ N := by omega
            have hN56 : N ≤ 56 := by omega
            have hll2 : l.length + N ≤ 1000000 := by omega
            have CA := Lib.hid (fun W v (h : Side w W w.heap.size v l l) => dPut w.heap.size v X N l W h.row h.below.size (by omega) hN56 hgr')
            have CW := Lib.hid (fun W v1 l1 (h : Side w W w.heap.size v1 l l1) => wPut W w.heap.size w.heap.size l X N h.wri hN56 hgr' (by omega))
            obtain ⟨L, hL⟩ : ∃ L, l ++ bitsOf X N = L := ⟨_, rfl⟩
            have HL := Lib.hid (show L.length ≤ 63 * (k + 1) by rw [← hL, List.length_append, bitsOf_length]; omega)
            clear hout hgr hgr' hN56 hll2 m0 m1 m2 hXb hK1 hQ HL0 hBd hll
            go_wp2_with fail
            go_region_held3 (fun w' => w'.cell? ⟨(x.add (k * 3)).block, (x.add (k * 3)).off + 1, none⟩ = some (.int .i64 N) ∧ w'.cell? ⟨(x.add (k * 3)).block, (x.add (k * 3)).off + 2, none⟩ = some (.int .u64 X)) (first | exact ⟨p1, p2⟩ | exact keepC (by assumption) hP.out) (first | (go_at_call 19; refine (CA.out _ _ (hs_.out.later (Below.refl _ _).drew)).mono ?_; rintro e wx ⟨vx, rfl, hox, hrx⟩; have hsx := Lib.hid ((hs_.out.later (Below.refl _ _).drew).rowed hox hrx); have hbx := hsx.out.below))
            simp only [Exit.then]
            rename_i hK hHeld
            refine hK _ _ ?_
            obtain ⟨py1, py2⟩ := hHeld
            clear hK hbx hs_ p0 p1 p2 CA
            go_wp2_with fail
            go_region_held3 (fun w' => w'.cell? ⟨(x.add (k * 3)).block, (x.add (k * 3)).off + 1, none⟩ = some (.int .i64 N) ∧ w'.cell? ⟨(x.add (k * 3)).block, (x.add (k * 3)).off + 2, none⟩ = some (.int .u64 X)) (first | exact ⟨py1, py2⟩ | exact keepC (by assumption) hP.out) (first | (go_at_call 20; refine (CW.out _ _ _ (hsx.out.later (Below.refl _ _).drew)).mono ?_; rintro e wz ⟨rfl, hwz, hkz, hfz⟩; have hsz := Lib.hid ((hsx.out.later (Below.refl _ _).drew).wrote hwz hkz hfz); have hbz := hsz.out.below))
            simp only [Exit.then]
            rename_i hK hHeld
            refine hK _ _ ?_
            clear hK hHeld hbz hsx py1 py2 CW
            clear hox hrx hwz hkz hfz
            rw [hL] at hsz
            clear hL
            obtain ⟨va, vc, hv⟩ := hsz.out.row.slice
            subst hv
            go_wp2_with fail
            refine (wLen _ _ _ _ hsz.out.wri).mono ?_; rintro e w3 ⟨rfl, k3, rfl⟩
            have hs3 := Lib.hid (hsz.out.drewN k3)
            clear hsz
            go_wp2_with fail
            refine (wBytes _ _ _ _ hs3.out.wri).mono ?_; rintro e w4 ⟨rfl, hb4⟩
            have hs4 := Lib.hid (hs3.out.later hb4)
            obtain ⟨vb, vd, hv, hboo⟩ := hs4.out.row.isB
            simp only [Value.slice.injEq, true_and] at hv
            obtain ⟨rfl, rfl⟩ := hv
            have CB := Lib.hid (dBytes va vc L w4 hboo (by have := HL.out; omega))
            clear hs3 hb4 hboo
            go_wp2_with fail
            refine CB.out.mono ?_; rintro e w5 ⟨rfl, hb5⟩
            have hs5 := Lib.hid (hs4.out.later hb5)
            clear hs4 hb5 CB
            go_wp2_with fail
            go_roundw
            case rel => exact ⟨k + 1, L, by omega, by go_num, HL.out, hs5.out⟩
            case measure => simp [intOf]; omega
    · obtain rfl : k = len0 := by omega
      have hb := hs.below
      clear hs
      go_wp2_with fail
      refine (awake01 _).mono ?_; rintro e w4 ⟨rfl, hb4⟩
      go_wp2_with fail
      go_ret
      exact ⟨rfl, hb.trans (hb4.mono hb.size)⟩

theorem lifted (os : Os) (started : os.Started) (H : Type) (enc : TypeId × Value → H) :
    ReturnsInHanded {} Try.checked os 3 .any (Rows.bitwPlaysSpec.pre6 enc Try.prog Try.f3 Rows.bitwPlaysRow.domain false) (Rows.bitwPlaysSpec.post enc Try.prog Try.f3 false true false false) := by
  refine returnsInHanded_of_change (C := Try.checked) own started (by kernel_rfl) Try.func3
    (ChangeSpec.witness6 (enc := enc) (C := Try.checked) false ⟨#[], #[.slice none 0 0], []⟩ 8 (by kernel_rfl) (by kernel_rfl) (by kernel_rfl) (by kernel_rfl)) ?_
  intro W base args ds gs before hval0 hW hcnd _
  have hval : ∀ (j : Nat) t v, Try.f3.params[j]? = some t → args[j]? = some v → Value.okWide Try.prog W .any base t v := hval0
  have hW' := hW
  obtain ⟨p, q, hA0, hV, rfl, hfz, hnd⟩ := hW
  have hA : DataW.TrodAll enc Try.prog W 0 (fun _ => true) true Try.f3.params.toList args.toList ds p := hA0
  rw [Try.params3] at hA hval
  obtain ⟨v0, vs0, d0, ds0, p0, q0, hargs, rfl, rfl, h0, r0⟩ := trodAll_cons hA
  obtain ⟨rfl, rfl, rfl⟩ := trodAll_nil r0
  obtain rfl : args = #[v0] := by cases args; simp_all
  obtain ⟨rfl, rfl⟩ := trodVars_none hV
  obtain ⟨a0, len0, cap0, rfl⟩ := okWide_slice Try.underlying22 (hval 0 22 v0 rfl rfl)
  have k0 := h0
  have lt0 : ∀ x ∈ p0, x.block < W.heap.size := by obtain ⟨m, hm⟩ := k0; exact DataW.trod_lt m _ _ _ hm
  obtain ⟨F0_0, F0_1, F0_2, w0⟩ : ∃ F0 F1 F2, IsRows0 W a0 len0 cap0 F0 F1 F2 := by
    obtain ⟨fuel, hf⟩ := h0
    rcases open_rows Try.underlying22 Try.underlying29 (by kernel_rfl) (by kernel_rfl) hf with hcs | ⟨x, l, c, hcs, hl, hm, hr⟩
    · simp [Value.cells] at hcs
      obtain ⟨rfl, rfl, rfl⟩ := hcs
      exact ⟨fun _ => 0, fun _ => 0, fun _ => 0, .inl ⟨rfl, rfl, rfl⟩⟩
    · simp [Value.cells] at hcs
      obtain ⟨rfl, rfl, rfl⟩ := hcs
      obtain ⟨G0, g0⟩ := hr.int 0 _ rfl Try.underlying3
      obtain ⟨G1, g1⟩ := hr.int 1 _ rfl Try.underlying3
      obtain ⟨G2, g2⟩ := hr.int 2 _ rfl Try.underlying27
      exact ⟨G0, G1, G2, .inr ⟨_, rfl, hl, hm, fun i hi => ⟨g0 i hi, g1 i hi, g2 i hi⟩⟩⟩
  clear hA0 hval0
  refine (walk a0 len0 cap0 F0_0 F0_1 F0_2 W w0).mono fun e W' ⟨he, bel⟩ => ?_
  subst he
  exact ⟨_, rfl, _, _, _, [], _, [], hW', trodAll_mk1 (shut_bool Try.underlying4 _), (trodAll_cons_mk (Below.trod laidOut (by kernel_rfl) (of_decide_eq_true (by kernel_rfl)) k0 bel lt0) trodAll_mk0), rfl, bel.frame _, fun h => by cases h⟩

theorem over : Rows.bitwPlaysRow.holds Try.pinned (OpenSpec.ofChange Rows.bitwPlaysSpec) :=
  OpenClaim.holds_of_wide 3 Try.f3 rfl rfl rfl rfl rfl rfl rfl ⟨rfl, rfl, rfl, rfl, rfl⟩ rfl rfl rfl rfl rfl (by kernel_rfl) Try.func3 (by kernel_rfl)
    (of_decide_eq_true (by kernel_rfl)) (by unfold Func.isWrapper; first | (rw [if_pos (by decide +kernel)]; kernel_rfl) | (rw [if_neg (by decide +kernel)]; exact ⟨rfl, rfl⟩))
    (fun os started H enc _ => lifted os started H enc)

theorem proved : Rows.BitwPlaysSaid := over
#print axioms proved
end Go.Proofs.Ytnpbjnhjgoafpaa.bitwPlays
