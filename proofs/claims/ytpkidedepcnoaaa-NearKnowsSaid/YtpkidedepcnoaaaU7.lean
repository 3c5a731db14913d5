/- Layer 19: Sort. -/
import Derived.Test.YtpkidedepcnoaaaU6
namespace Go.Proofs.Ytpkidedepcnoaaa
open Go.ChangeShapes Go.WideShapes Go.ChangeAt Go.RowKit
set_option linter.unusedVariables false
set_option linter.unusedSimpArgs false
set_option maxRecDepth 100000
theorem cOfK (b3 b5 gR n i : Nat) (rank : List Nat) (w : World) (h3 : w.heap[b3]? = some (.cells #[.int .i64 n] 3 (0, 0))) (h5 : w.heap[b5]? = some (.cells #[.slice (some ⟨gR, 0, none⟩) n n] 22 (0, 0))) (hR : IsN w gR rank) (hl : rank.length = n) :
    Calls Try.prog 34 #[.int .i64 i, .pointer (some ⟨b3, 0, none⟩), .pointer (some ⟨b5, 0, none⟩)] w fun e w' => e = .returned (.int .i64 (ofI rank n i)) ∧ w' = w := by
  have c3 := cell_lit h3 0 _ rfl
  have c5 := cell_lit h5 0 _ rfl
  have l3 := block_lt h3
  have l5 := block_lt h5
  have lR := block_lt hR
  by_cases hi : i < n
  · have cR := hR.cell i (by omega)
    have e : ofI rank n i = (rank.getD i 0 : Int) := if_pos hi
    rw [e]
    obtain ⟨r, hr⟩ : ∃ r, rank.getD i 0 = r := ⟨_, rfl⟩
    rw [hr] at cR ⊢
    have hii : (i : Int) < n := by omega
    clear h3 h5 hR e hr
    go_enter Try.func34, Try.ntmps34
    go_wp2_with fail
    go_ret
    exact ⟨rfl, rfl⟩
  · have e : ofI rank n i = -1 := if_neg hi
    rw [e]
    have hii : ¬ (i : Int) < n := by omega
    clear h3 h5 hR e
    go_enter Try.func34, Try.ntmps34
    go_wp2_with fail
    go_ret
    exact ⟨rfl, rfl⟩
/-- Seven blocks apart. -/
def Dst (b3 b5 ga gs gR gX gc : Nat) : Prop := b3 ≠ b5 ∧ b3 ≠ ga ∧ b3 ≠ gs ∧ b3 ≠ gR ∧ b3 ≠ gX ∧ b3 ≠ gc ∧ b5 ≠ ga ∧ b5 ≠ gs ∧ b5 ≠ gR ∧ b5 ≠ gX ∧ b5 ≠ gc ∧ ga ≠ gs ∧ ga ≠ gR ∧ ga ≠ gX ∧ ga ≠ gc ∧ gs ≠ gR ∧ gs ≠ gX ∧ gs ≠ gc ∧ gR ≠ gX ∧ gR ≠ gc ∧ gX ≠ gc
theorem Dst.swap {b3 b5 ga gs gR gX gc : Nat} (h : Dst b3 b5 ga gs gR gX gc) : Dst b3 b5 ga gs gX gR gc := by
  obtain ⟨d1, d2, d3, d4, d5, d6, d7, d8, d9, d10, d11, d12, d13, d14, d15, d16, d17, d18, d19, d20, d21⟩ := h
  exact ⟨d1, d2, d3, d5, d4, d6, d7, d8, d10, d9, d11, d12, d14, d13, d15, d17, d16, d18, d19.symm, d21, d20⟩
structure StS (w0 wr : World) (n : Nat) (b3 b5 ga gs gR gX gc m : Nat) (a sp rank nx cnt : List Nat) : Prop where
  c3 : wr.heap[b3]? = some (.cells #[.int .i64 n] 3 (0, 0))
  c5 : wr.heap[b5]? = some (.cells #[.slice (some ⟨gR, 0, none⟩) n n] 22 (0, 0))
  ia : IsN wr ga a
  is : IsN wr gs sp
  ir : IsN wr gR rank
  ix : IsN wr gX nx
  ic : IsN wr gc cnt
  sl : sp.length = n
  xl : nx.length = n
  cl : cnt.length = m
  ds : Dst b3 b5 ga gs gR gX gc
  lo : w0.heap.size ≤ b3 ∧ w0.heap.size ≤ b5 ∧ w0.heap.size ≤ ga ∧ w0.heap.size ≤ gs ∧ w0.heap.size ≤ gR ∧ w0.heap.size ≤ gX ∧ w0.heap.size ≤ gc
  bel : Below w0.heap.size w0 wr
theorem StS.drewN {w0 wr : World} {n b3 b5 ga gs gR gX gc m : Nat} {a sp rank nx cnt : List Nat} (h : StS w0 wr n b3 b5 ga gs gR gX gc m a sp rank nx cnt) (k : Nat) : StS w0 (wr.drewN k) n b3 b5 ga gs gR gX gc m a sp rank nx cnt :=
  ⟨h.c3, h.c5, h.ia, h.is, h.ir, h.ix, h.ic, h.sl, h.xl, h.cl, h.ds, h.lo, below_dn h.bel k⟩
/-- A store into the new ranks. -/
theorem StS.setX {w0 wr : World} {n b3 b5 ga gs gR gX gc m : Nat} {a sp rank nx cnt : List Nat} (h : StS w0 wr n b3 b5 ga gs gR gX gc m a sp rank nx cnt) (j x : Nat) : StS w0 (wr.setCell ⟨gX, j, none⟩ (.int .i64 (x : Int))) n b3 b5 ga gs gR gX gc m a sp rank (nx.set j x) cnt := by
  obtain ⟨d1, d2, d3, d4, d5, d6, d7, d8, d9, d10, d11, d12, d13, d14, d15, d16, d17, d18, d19, d20, d21⟩ := h.ds
  obtain ⟨o1, o2, o3, o4, o5, o6, o7⟩ := h.lo
  exact ⟨(Below.heap_setCell _ _ _ _ d5).trans h.c3, (Below.heap_setCell _ _ _ _ d10).trans h.c5, h.ia.away d14, h.is.away d17, h.ir.away d19, h.ix.set j x, h.ic.away d21.symm, h.sl, by rw [List.length_set]; exact h.xl, h.cl, h.ds, h.lo, h.bel.setCell o6 _⟩
/-- Ranks, old and new, change places. -/
theorem StS.swap {w0 wr : World} {n b3 b5 ga gs gR gX gc m : Nat} {a sp rank nx cnt : List Nat} (h : StS w0 wr n b3 b5 ga gs gR gX gc m a sp rank nx cnt) (hr : rank.length = n) : StS w0 (wr.setCell ⟨b5, 0, none⟩ (.slice (some ⟨gX, 0, none⟩) n n)) n b3 b5 ga gs gX gR gc m a sp nx rank cnt := by
  obtain ⟨d1, d2, d3, d4, d5, d6, d7, d8, d9, d10, d11, d12, d13, d14, d15, d16, d17, d18, d19, d20, d21⟩ := h.ds
  obtain ⟨o1, o2, o3, o4, o5, o6, o7⟩ := h.lo
  refine ⟨(Below.heap_setCell _ _ _ _ d1).trans h.c3, ?_, h.ia.away d7.symm, h.is.away d8.symm, h.ix.away d10.symm, h.ir.away d9.symm, h.ic.away d11.symm, h.sl, hr, h.cl, Dst.swap h.ds, ⟨o1, o2, o3, o4, o6, o5, o7⟩, h.bel.setCell o2 _⟩
  have := block_set h.c5 0 (.slice (some ⟨gX, 0, none⟩) n n)
  simpa using this
theorem StS.turned {w0 wr w2 : World} {n b3 b5 ga gs gR gX gc m : Nat} {a sp rank nx cnt sp' : List Nat} (h : StS w0 wr n b3 b5 ga gs gR gX gc m a sp rank nx cnt) (h1 : IsN w2 gs sp') (hl : sp'.length = n) (hk : Keeps (fun j => j = gs) wr w2) : StS w0 w2 n b3 b5 ga gs gR gX gc m a sp' rank nx cnt := by
  obtain ⟨d1, d2, d3, d4, d5, d6, d7, d8, d9, d10, d11, d12, d13, d14, d15, d16, d17, d18, d19, d20, d21⟩ := h.ds
  obtain ⟨o1, o2, o3, o4, o5, o6, o7⟩ := h.lo
  exact ⟨(hk.block _ (block_lt h.c3) d3).trans h.c3, (hk.block _ (block_lt h.c5) d8).trans h.c5, h.ia.keeps hk d12, h1, h.ir.keeps hk d16.symm, h.ix.keeps hk d17.symm, h.ic.keeps hk d18.symm, hl, h.xl, h.cl, h.ds, h.lo, h.bel.trans (hk.below (fun k hk2 => ⟨Nat.lt_of_lt_of_le hk2 h.bel.size, fun e => by subst e; exact Nat.lt_irrefl _ (Nat.lt_of_lt_of_le hk2 o4)⟩))⟩
theorem StS.ranked {w0 wr w2 : World} {n b3 b5 ga gs gR gX gc m : Nat} {a sp rank nx cnt a' cnt' : List Nat} (h : StS w0 wr n b3 b5 ga gs gR gX gc m a sp rank nx cnt) (h1 : IsN w2 ga a') (h2 : IsN w2 gc cnt') (hl : cnt'.length = m) (hk : Keeps (two ga gc) wr w2) : StS w0 w2 n b3 b5 ga gs gR gX gc m a' sp rank nx cnt' := by
  obtain ⟨d1, d2, d3, d4, d5, d6, d7, d8, d9, d10, d11, d12, d13, d14, d15, d16, d17, d18, d19, d20, d21⟩ := h.ds
  obtain ⟨o1, o2, o3, o4, o5, o6, o7⟩ := h.lo
  exact ⟨(hk.block _ (block_lt h.c3) (fun e => e.elim d2 d6)).trans h.c3, (hk.block _ (block_lt h.c5) (fun e => e.elim d7 d11)).trans h.c5, h1, h.is.keeps hk (fun e => e.elim d12.symm d18), h.ir.keeps hk (fun e => e.elim d13.symm d20), h.ix.keeps hk (fun e => e.elim d14.symm d21), h2, h.sl, h.xl, hl, h.ds, h.lo, h.bel.trans (hk.below (fun k hk2 => ⟨Nat.lt_of_lt_of_le hk2 h.bel.size, fun e => e.elim (fun e => by subst e; exact Nat.lt_irrefl _ (Nat.lt_of_lt_of_le hk2 o3)) (fun e => by subst e; exact Nat.lt_irrefl _ (Nat.lt_of_lt_of_le hk2 o7))⟩))⟩
theorem chg_le (c : Nat → Nat → Bool) (b : List Nat) : ∀ j, chg c b j ≤ j
  | 0 => Nat.le_refl _
  | j + 1 => by have := chg_le c b j; rw [chg]; split <;> omega
set_option maxHeartbeats 6400000 in
theorem cSort (L : List UInt8) (w : World) (hL : L.length ≤ 10000) :
    Calls Try.prog 15 #[.string (sM L)] w fun e w' => ∃ ga a, e = .returned (.slice (some ⟨ga, 0, none⟩) L.length L.length) ∧ IsN w' ga a ∧ IsSuf L a ∧ w.heap.size ≤ ga ∧ Below w.heap.size w w' := by
  have hS : (sM L).size = L.length := sM_size L
  obtain ⟨n, hn⟩ : ∃ n, L.length = n := ⟨_, rfl⟩
  have CB := Lib.hid (fun W => cByByte L W (by omega))
  obtain ⟨M0, hM0⟩ : ∃ M, max n 256 = M := ⟨_, rfl⟩
  obtain ⟨m, hm⟩ : ∃ m, M0 + 1 = m := ⟨_, rfl⟩
  have hmA : (if (n : Int) < 256 then (256 : Int) else (n : Int)) = (M0 : Int) := by split <;> omega
  have hmB : (if n < 256 then (256 : Int) else (n : Int)) = (M0 : Int) := by split <;> omega
  have hmC : (M0 : Int) + 1 = (m : Int) := by omega
  have mk1 := mkI n (by omega)
  have mk2 := mkI m (by omega)
  have HN := Lib.hid hn
  have HM := Lib.hid (show n < m ∧ 0 < m ∧ m ≤ 10001 by omega)
  rw [hn] at hS hL CB ⊢
  clear hn hm hM0
  go_enter Try.func15, Try.ntmps15
  go_wp2_with fail
  refine (CB.out _).mono ?_; rintro e w1 ⟨ga, gr, a, rank, rfl, ha, hr, hk, hne, l1, l2, hb⟩
  obtain ⟨b3, hb3⟩ : ∃ b, w.heap.size = b := ⟨_, rfl⟩
  have H3 := Lib.hid (show w1.heap[b3]? = some (.cells #[.int .i64 n] 3 (0, 0)) by
    rw [← hb3]; exact (hb.block _ (by simp)).trans (heap_alloc_new w _))
  have HB := Lib.hid (show Below w.heap.size w w1 from ((Below.refl w.heap.size w).alloc (Nat.le_refl _) (.cells #[.int .i64 n] 3)).trans (hb.mono (by simp)))
  have l1 : b3 + 1 ≤ ga := by rw [← hb3]; simpa using l1
  have l2 : b3 + 1 ≤ gr := by rw [← hb3]; simpa using l2
  have l3 := block_lt H3.out
  have l4 := block_lt ha
  have l5 := block_lt hr
  have HA := Lib.hid ha
  have HR := Lib.hid hr
  have HK := Lib.hid hk
  have HB3 := Lib.hid hb3
  rw [hb3]
  clear ha hr hk hb CB hb3
  go_wp2_with fail
  have hbk := (Below.refl w1.heap.size w1).alloc (Nat.le_refl _) (.cells #[.slice (some ⟨gr, 0, none⟩) n n] 22)
  have H5 := Lib.hid (heap_alloc_new w1 (.cells #[.slice (some ⟨gr, 0, none⟩) n n] 22))
  have H3 := Lib.hid ((hbk.block _ l3).trans H3.out)
  have HA := Lib.hid (HA.out.kept hbk)
  have HR := Lib.hid (HR.out.kept hbk)
  have hz := HB.out.size
  have HB := Lib.hid (HB.out.trans (hbk.mono hz))
  have hs2 : (w1.alloc (.cells #[.slice (some ⟨gr, 0, none⟩) n n] 22)).heap.size = w1.heap.size + 1 := by simp
  clear hbk
  generalize w1.alloc (.cells #[.slice (some ⟨gr, 0, none⟩) n n] 22) = w2 at *
  obtain ⟨b5, hb5⟩ : ∃ b, w1.heap.size = b := ⟨_, rfl⟩
  rw [hb5] at l3 l4 l5 hs2 H5 ⊢
  rw [hb5] at hz
  clear hb5
  have hbm := ((Below.refl w2.heap.size w2).alloc (Nat.le_refl _) (.cells (madeCells #[.int .i64 0] n) 3)).alloc (by simp) (.cells (madeCells #[.int .i64 0] n) 3)
  have c3 := cell_lit H3.out 0 _ rfl
  have S0 := Lib.hid c3
  have S1 := Lib.hid (show (w2.alloc (.cells (madeCells #[.int .i64 0] n) 3)).cell? ⟨b3, 0, none⟩ = some (.int .i64 n) from (((Below.refl w2.heap.size w2).alloc (Nat.le_refl _) (.cells (madeCells #[.int .i64 0] n) 3)).cell (block_lt H3.out)).trans c3)
  have S2 := Lib.hid (show ((w2.alloc (.cells (madeCells #[.int .i64 0] n) 3)).alloc (.cells (madeCells #[.int .i64 0] n) 3)).cell? ⟨b3, 0, none⟩ = some (.int .i64 n) from (hbm.cell (block_lt H3.out)).trans c3)
  have HBM := Lib.hid hbm
  have l6 := block_lt H3.out
  clear hbm c3
  go_region_held3 (fun V => V.cell? ⟨b3, 0, none⟩ = some (.int .i64 n)) (first | exact S0.out | exact S1.out | exact S2.out) (fail)
  all_goals
    simp only [Exit.then]
    rename_i hK hHeld
    refine hK _ _ ?_
    clear hK hHeld
    have HI1 := Lib.hid (show IsN ((w2.alloc (.cells (madeCells #[.int .i64 0] n) 3)).alloc (.cells (madeCells #[.int .i64 0] n) 3)).drew (b5 + 1) (List.replicate n 0) by unfold IsN IsA; rw [← madeI, ← hs2]; exact heap_two_first w2 _ _)
    have HI2 := Lib.hid (show IsN ((w2.alloc (.cells (madeCells #[.int .i64 0] n) 3)).alloc (.cells (madeCells #[.int .i64 0] n) 3)).drew (b5 + 1 + 1) (List.replicate n 0) by unfold IsN IsA; rw [← madeI, ← hs2]; exact heap_two_last w2 _ _)
    have hs3 : ((w2.alloc (.cells (madeCells #[.int .i64 0] n) 3)).alloc (.cells (madeCells #[.int .i64 0] n) 3)).drew.heap.size = b5 + 1 + 1 + 1 := by show ((w2.alloc _).alloc _).heap.size = _; simp [hs2]
    have HH3 := Lib.hid ((HBM.out.drew.block _ (block_lt H3.out)).trans H3.out)
    have HH5 := Lib.hid ((HBM.out.drew.block _ (block_lt H5.out)).trans H5.out)
    have HA3 := Lib.hid (HA.out.kept HBM.out.drew)
    have HR3 := Lib.hid (HR.out.kept HBM.out.drew)
    have HB4 := Lib.hid (HB.out.trans (HBM.out.drew.mono HB.out.size))
    clear HBM S0 S1 S2
    generalize ((w2.alloc (.cells (madeCells #[.int .i64 0] n) 3)).alloc (.cells (madeCells #[.int .i64 0] n) 3)).drew = w3 at *
    obtain ⟨e1, he1⟩ : ∃ e, b5 + 1 = e := ⟨_, rfl⟩
    obtain ⟨e2, he2⟩ : ∃ e, e1 + 1 = e := ⟨_, rfl⟩
    rw [he1, he2] at HI2 hs3
    rw [he1] at HI1
    try rw [he1, he2]
    try rw [he2]
  · have HH3' := HH3.out
    have c3 := cell_lit HH3' 0 _ rfl
    have l3' := block_lt HH3'
    clear HH3'
    go_wp2_with fail
    try rw [hs3]
    clear hmA hmB hmC
    have hw3 := HB3.out
    have hbm := (Below.refl w3.heap.size w3).alloc (Nat.le_refl _) (.cells (madeCells #[.int .i64 0] m) 3)
    have HIC := Lib.hid (show IsN (w3.alloc (.cells (madeCells #[.int .i64 0] m) 3)) (e2 + 1) (List.replicate m 0) by unfold IsN IsA; rw [← madeI, ← hs3]; exact heap_alloc_new w3 _)
    have HST := Lib.hid (show StS w (w3.alloc (.cells (madeCells #[.int .i64 0] m) 3)) n b3 b5 ga e1 gr e2 (e2 + 1) m a (List.replicate n 0) rank (List.replicate n 0) (List.replicate m 0) from
      ⟨(hbm.block _ (block_lt HH3.out)).trans HH3.out, (hbm.block _ (block_lt HH5.out)).trans (by have := HH5.out; exact this), HA3.out.kept hbm, HI1.out.kept hbm, HR3.out.kept hbm, HI2.out.kept hbm, HIC.out, List.length_replicate, List.length_replicate, List.length_replicate,
        ⟨by omega, by omega, by omega, by omega, by omega, by omega, by omega, by omega, by omega, by omega, by omega, by omega, hne, by omega, by omega, by omega, by omega, by omega, by omega, by omega, by omega⟩,
        ⟨by omega, by omega, by omega, by omega, by omega, by omega, by omega⟩, HB4.out.trans (hbm.mono HB4.out.size)⟩)
    clear hbm HIC HI1 HI2 HH3 HH5 HA3 HR3 HB4 c3
    generalize w3.alloc (.cells (madeCells #[.int .i64 0] m) 3) = w4 at *
    generalize e2 + 1 = gc at *
    clear he1 he2 hs3 hs2 l1 l2 l3 l4 l5 l6 hz l3'
    clear hw3
    have HRK := Lib.hid (show Rkd L 1 a rank from HK.out)
    clear HK hne
    go_loopw [7, 9] (fun xv kv wr => ∃ (k gR gX : Nat) (a sp rank nx cnt : List Nat), 1 ≤ k ∧ k ≤ 20000 ∧ kv = .int .i64 k ∧ xv = .slice (some ⟨gX, 0, none⟩) n n ∧ Hid (Rkd L k a rank) ∧ Hid (StS w wr n b3 b5 ga e1 gR gX gc m a sp rank nx cnt)) (fun _ kv _ => 40000 - (intOf kv).toNat)
    case atStart => exact ⟨1, gr, e2, a, _, rank, _, _, Nat.le_refl _, by decide, rfl, rfl, HRK, HST⟩
    case round =>
      clear HRK HST
      obtain ⟨k, gR, gX, a, sp, rank, nx, cnt, hk1, hk2, rfl, rfl, HRK, HST⟩ := hrel
      have c3 := cell_lit HST.out.c3 0 _ rfl
      have l3 := block_lt HST.out.c3
      have c5 := cell_lit HST.out.c5 0 _ rfl
      have l5 := block_lt HST.out.c5
      by_cases hkn : k < n
      · have hki : (k : Int) < n := by omega
        obtain ⟨z, hz⟩ : ∃ z, n - 1 = z := ⟨_, rfl⟩
        have hzi : (n : Int) - 1 = (z : Int) := by omega
        have hz2 : (z : Int) < n := by omega
        have hal := HRK.out.al
        rw [HN.out] at hal
        have ca := HST.out.ia.cell z (by omega)
        have la := block_lt HST.out.ia
        have hxl := HRK.out.lt _ (getD_mem a z (by omega))
        rw [HN.out] at hxl
        obtain ⟨x, hx⟩ : ∃ x, a.getD z 0 = x := ⟨_, rfl⟩
        rw [hx] at ca hxl
        have hrl := HRK.out.rl
        rw [HN.out] at hrl
        have cr := HST.out.ir.cell x (by omega)
        have lr := block_lt HST.out.ir
        obtain ⟨R, hR⟩ : ∃ R, rank.getD x 0 = R := ⟨_, rfl⟩
        rw [hR] at cr
        have hxi : (x : Int) < n := by omega
        by_cases hRz : R < z
        · have hRi : (R : Int) < z := by omega
          have hlt := HRK.out.lt
          rw [HN.out] at hlt
          obtain ⟨T, hT⟩ : ∃ T, turnL n k a = T := ⟨_, rfl⟩
          have hTl := turnL_len hal hlt HRK.out.nd (show k ≤ n by omega)
          have hTok := turnL_ok HRK.out.al HRK.out.lt HRK.out.nd HRK.out.inc hk1 (by rw [HN.out]; exact hkn)
          rw [HN.out, hT] at hTok
          have hrlt := HRK.out.rank_lt
          rw [HN.out] at hrlt
          have CT := Lib.hid (fun q => cTurn n k ga e1 a sp (wr.drewN q) (HST.out.drewN q).ia (HST.out.drewN q).is HST.out.ds.2.2.2.2.2.2.2.2.2.2.2.1 hal HST.out.sl hTl hkn (by omega) hlt)
          rw [hT] at CT hTl
          have HTL := Lib.hid hTl
          have HAL := Lib.hid hal
          have HTOK := Lib.hid hTok
          have HRLT := Lib.hid hrlt
          have HRL := Lib.hid hrl
          clear hx hR hRz hz hT hTl hTok hlt hal hrlt hrl
          go_wp2_with fail
          go_quiet (fail)
          go_wp2_with fail
          refine (CT.out _).mono ?_; rintro e w5 ⟨rfl, ht5, hk5⟩
          have HS5 := Lib.hid ((HST.out.drewN nq).turned ht5 HTL.out hk5)
          clear ht5 hk5 CT HST c3 c5 l3 l5 ca la cr lr
          have c5 := cell_lit HS5.out.c5 0 _ rfl
          have l5 := block_lt HS5.out.c5
          obtain ⟨d1, d2, d3, d4, d5, d6, d7, d8, d9, d10, d11, d12, d13, d14, d15, d16, d17, d18, d19, d20, d21⟩ := HS5.out.ds
          go_wp2_with fail
          refine (cByRank n m e1 ga gR gc T a rank cnt w5 HS5.out.is HS5.out.ia HS5.out.ir HS5.out.ic d12.symm d18 d13.symm d20 d15 HTL.out HAL.out HRL.out HS5.out.cl (by omega) (by omega) HM.out.2.1 (by have := HM.out.2.2; omega) (fun i hi => by have := HRLT.out i hi; have := HM.out.1; omega) (HTOK.out.2.imp (fun h => h.1)) HTOK.out.1).mono ?_; rintro e w6 ⟨rfl, ⟨out, cnt', hA6, hC6, hcl6, hlaid⟩, hk6⟩
          have HS6 := Lib.hid (HS5.out.ranked hA6 hC6 hcl6 hk6)
          have HOL := Lib.hid (show out.length = n by rw [hlaid.ol, HTL.out])
          have HOX := Lib.hid (show ∀ x ∈ out, x < n from fun x hx => HTOK.out.1 x (hlaid.mem x hx))
          have HOS := Lib.hid (hlaid.sorted HTOK.out.2)
          clear hA6 hC6 hcl6 hk6 hlaid HS5 c5 l5 d1 d2 d3 d4 d5 d6 d7 d8 d9 d10 d11 d12 d13 d14 d15 d16 d17 d18 d19 d20 d21
          obtain ⟨cc, hcc⟩ : ∃ cc : Nat → Nat → Bool, ∀ p q, cc p q = decide (ofI rank n p ≠ ofI rank n q ∨ ofI rank n (p + k) ≠ ofI rank n (q + k)) := ⟨_, fun p q => rfl⟩
          have HCC := Lib.hid hcc
          have HOD := Lib.hid (show out.Nodup from HOS.out.imp (fun h e => by
            rcases h with h | h
            · rw [e] at h; exact Nat.lt_irrefl _ h
            · exact h.2.1 e))
          clear hcc
          have ca := HS6.out.ia.cell 0 (by rw [HOL.out]; omega)
          have la := block_lt HS6.out.ia
          have hy0 := HOX.out _ (getD_mem out 0 (by rw [HOL.out]; omega))
          obtain ⟨y0, hy⟩ : ∃ y, out.getD 0 0 = y := ⟨_, rfl⟩
          rw [hy] at ca hy0
          have cx := HS6.out.ix.cell y0 (by rw [HS6.out.xl]; exact hy0)
          have fx := HS6.out.ix.free y0
          have lx := block_lt HS6.out.ix
          have hyi : (y0 : Int) < n := by omega
          have h0n : (0 : Int) < n := by omega
          have HS7 := Lib.hid (HS6.out.setX y0 0)
          have HNX := Lib.hid (show ∀ x, x < 1 → (nx.set y0 0).getD (out.getD x 0) 0 = chg cc out x from fun x hx => by
            have : x = 0 := by omega
            subst this
            rw [hy, setN_getD _ _ _ _ (by rw [HS6.out.xl]; exact hy0), if_pos rfl]; rfl)
          clear hy hy0 HS6
          go_wp2_with fail
          clear ca la cx fx lx hyi
          go_loopw [11] (fun jv wr => ∃ (j : Nat) (nx : List Nat), 1 ≤ j ∧ j ≤ n ∧ jv = .int .i64 j ∧ Hid (∀ x, x < j → nx.getD (out.getD x 0) 0 = chg cc out x) ∧ Hid (StS w wr n b3 b5 ga e1 gR gX gc m out T rank nx cnt')) (fun jv _ => n - (intOf jv).toNat)
          case atStart => exact ⟨1, _, Nat.le_refl _, by omega, rfl, HNX, HS7⟩
          case round =>
            clear HNX HS7
            obtain ⟨j, nx, hj1, hj2, rfl, HNX, HST⟩ := hrel
            have c3 := cell_lit HST.out.c3 0 _ rfl
            have l3 := block_lt HST.out.c3
            by_cases hjn : j < n
            · have hji : (j : Int) < n := by omega
              obtain ⟨z, hz⟩ : ∃ z, j - 1 = z := ⟨_, rfl⟩
              have hzi : (j : Int) - 1 = (z : Int) := by omega
              have hz2 : (z : Int) < n := by omega
              have ca1 := HST.out.ia.cell z (by rw [HOL.out]; omega)
              have ca2 := HST.out.ia.cell j (by rw [HOL.out]; omega)
              have la := block_lt HST.out.ia
              have hp := HOX.out _ (getD_mem out z (by rw [HOL.out]; omega))
              have hq := HOX.out _ (getD_mem out j (by rw [HOL.out]; omega))
              have hpq := pw_getD HOD.out z j (by omega) (by rw [HOL.out]; omega)
              have hV := HNX.out z (by omega)
              obtain ⟨p, hpp⟩ : ∃ p, out.getD z 0 = p := ⟨_, rfl⟩
              obtain ⟨q, hqq⟩ : ∃ q, out.getD j 0 = q := ⟨_, rfl⟩
              rw [hpp] at ca1 hp hpq hV
              rw [hqq] at ca2 hq hpq
              obtain ⟨V, hVV⟩ : ∃ V, nx.getD p 0 = V := ⟨_, rfl⟩
              rw [hVV] at hV
              have hVz := chg_le cc out z
              rw [← hV] at hVz
              have cx1 := HST.out.ix.cell p (by rw [HST.out.xl]; exact hp)
              have cx2 := HST.out.ix.cell q (by rw [HST.out.xl]; exact hq)
              have fx := HST.out.ix.free q
              have lx := block_lt HST.out.ix
              rw [hVV] at cx1
              have hpi : (p : Int) < n := by omega
              have hqi : (q : Int) < n := by omega
              have hst : chg cc out (j) = V + if cc p q = true then 1 else 0 := by
                rw [show j = z + 1 by omega, chg, ← hV, show z + 1 = j by omega, hpp, hqq]
              have HS2 := Lib.hid (fun N => (HST.out.drewN N).setX q V)
              have CO := Lib.hid (fun W i (hs : StS w W n b3 b5 ga e1 gR gX gc m out T rank (nx.set q V) cnt') => cOfK b3 b5 gR n i rank W hs.c3 hs.c5 hs.ir HRL.out)
              have HX2 := Lib.hid (show ∀ D, chg cc out j = V + D → ∀ x, x < j + 1 → ((nx.set q V).set q (V + D)).getD (out.getD x 0) 0 = chg cc out x from fun D hD x hx => by
                by_cases e : x = j
                · subst e
                  rw [hqq, setN_getD _ _ _ _ (by rw [List.length_set, HST.out.xl]; exact hq), if_pos rfl, hD]
                · have hne : q ≠ out.getD x 0 := by rw [← hqq]; exact (pw_getD HOD.out x j (by omega) (by rw [HOL.out]; omega)).symm
                  rw [setN_getD _ _ _ _ (by rw [List.length_set, HST.out.xl]; exact hq), if_neg hne, setN_getD _ _ _ _ (by rw [HST.out.xl]; exact hq), if_neg hne]
                  exact HNX.out x (by omega))
              have HCS := Lib.hid (HCC.out p q)
              have HVN := Lib.hid (show V < n by omega)
              obtain ⟨P1, hP1⟩ : ∃ P, ofI rank n p = P := ⟨_, rfl⟩
              obtain ⟨Q1, hQ1⟩ : ∃ P, ofI rank n q = P := ⟨_, rfl⟩
              obtain ⟨P2, hP2⟩ : ∃ P, ofI rank n (p + k) = P := ⟨_, rfl⟩
              obtain ⟨Q2, hQ2⟩ : ∃ P, ofI rank n (q + k) = P := ⟨_, rfl⟩
              have CP1 := Lib.hid (fun W hs => CO.out W p hs)
              have CQ1 := Lib.hid (fun W hs => CO.out W q hs)
              have CP2 := Lib.hid (fun W hs => CO.out W (p + k) hs)
              have CQ2 := Lib.hid (fun W hs => CO.out W (q + k) hs)
              rw [hP1] at CP1
              rw [hQ1] at CQ1
              rw [hP2] at CP2
              rw [hQ2] at CQ2
              rw [hP1, hQ1, hP2, hQ2] at HCS
              rw [Int.natCast_add] at CP2 CQ2
              have HNXO := Lib.hid HNX
              clear hP1 hQ1 hP2 hQ2 hV hVV hpp hqq hz hVz hpq hp hq CO
              go_wp2_with fail
              go_quiet (fail)
              go_wp2_with fail
              have HS3 := Lib.hid (HS2.out nq)
              clear HS2 ca1 ca2 la cx1 cx2 fx lx c3 l3 HST
              generalize (wr.drewN nq).setCell ⟨gX, q, none⟩ (.int .i64 (V : Int)) = w8 at *
              refine (CP1.out _ HS3.out).mono ?_; rintro e w9 ⟨rfl, rfl⟩
              go_wp2_with fail
              refine (CQ1.out _ HS3.out).mono ?_; rintro e w9 ⟨rfl, rfl⟩
              have hqn := hqi
              have cx2 := HS3.out.ix.cell q (by rw [HS3.out.xl]; omega)
              rw [setN_getD _ _ _ _ (by have := HS3.out.xl; rw [List.length_set] at this; omega), if_pos rfl] at cx2
              have fx := HS3.out.ix.free q
              have lx := block_lt HS3.out.ix
              have hVi : (V : Int) < n := by have := HVN.out; omega
              by_cases e1 : P1 = Q1
              · have f1 : (P1 != Q1) = false := by rw [e1]; simp
                have f1' : (P1 == Q1) = true := by rw [e1]; simp
                have hcs := HCS.out
                clear HCS
                go_wp2_with fail
                refine (CP2.out _ HS3.out).mono ?_; rintro e w9 ⟨rfl, rfl⟩
                go_wp2_with fail
                refine (CQ2.out _ HS3.out).mono ?_; rintro e w9 ⟨rfl, rfl⟩
                by_cases e2 : P2 = Q2
                · have f2 : (P2 != Q2) = false := by rw [e2]; simp
                  have f2' : (P2 == Q2) = true := by rw [e2]; simp
                  have HCH := Lib.hid (HX2.out 0 (by rw [hst, hcs, if_neg (by simp [e1, e2])]))
                  clear hst hcs e1 e2
                  go_wp2_with fail
                  go_roundw
                  case rel => exact ⟨j + 1, _, by omega, by omega, by go_num, Lib.hid (by have := HCH.out; rw [Nat.add_zero, List.set_set] at this; exact this), HS3⟩
                  case measure => simp [intOf]; omega
                · have f2 : (P2 != Q2) = true := by simp [e2]
                  have f2' : (P2 == Q2) = false := by simp [e2]
                  have HCH := Lib.hid (HX2.out 1 (by rw [hst, hcs, if_pos (by simp [e1, e2])]))
                  have HS4 := Lib.hid (HS3.out.setX q (V + 1))
                  clear hst hcs e1 e2
                  go_wp2_with fail
                  go_roundw
                  case rel => exact ⟨j + 1, _, by omega, by omega, by go_num, HCH, HS4⟩
                  case measure => simp [intOf]; omega
              · have f1 : (P1 != Q1) = true := by simp [e1]
                have f1' : (P1 == Q1) = false := by simp [e1]
                have hcs := HCS.out
                have HCH := Lib.hid (HX2.out 1 (by rw [hst, hcs, if_pos (by simp [e1])]))
                have HS4 := Lib.hid (HS3.out.setX q (V + 1))
                clear hst hcs e1 HCS
                go_wp2_with fail
                go_roundw
                case rel => exact ⟨j + 1, _, by omega, by omega, by go_num, HCH, HS4⟩
                case measure => simp [intOf]; omega
            · obtain rfl : j = n := by omega
              have c5 := cell_lit HST.out.c5 0 _ rfl
              have l5 := block_lt HST.out.c5
              have f5 := free_in HST.out.c5 0
              have HTW := Lib.hid (HRK.out.twice hk1 (by rw [HN.out]; exact HOL.out) (by rw [HN.out]; exact HOX.out) HOS.out (by rw [HN.out]; exact HST.out.xl) cc (by rw [HN.out]; exact HCC.out) (by rw [HN.out]; exact HNX.out))
              have HS9 := Lib.hid (HST.out.swap HRL.out)
              clear HNX HST
              go_wp2_with fail
              go_roundw
              case rel => exact ⟨k * 2, gX, gR, out, T, nx, rank, cnt', by omega, by omega, by go_num, rfl, HTW, HS9⟩
              case measure => simp [intOf]; omega
        · have hRi : ¬ (R : Int) < z := by omega
          have HF := Lib.hid (HRK.out.suf (.inr (by rw [HN.out, hz, hx, hR]; omega)))
          clear hx hR hRz hz
          go_wp2_with fail
          go_quiet (fail)
          go_wp2_with fail
          go_ret
          exact ⟨ga, a, rfl, HST.out.ia, HF.out, HST.out.lo.2.2.1, below_dn HST.out.bel _⟩
      · have hki : ¬ (k : Int) < n := by omega
        have HF := Lib.hid (HRK.out.suf (.inl (by rw [HN.out]; omega)))
        go_wp2_with fail
        go_quiet (fail)
        go_wp2_with fail
        go_ret
        exact ⟨ga, a, rfl, HST.out.ia, HF.out, HST.out.lo.2.2.1, below_dn HST.out.bel _⟩
  · have HH3' := HH3.out
    have c3 := cell_lit HH3' 0 _ rfl
    have l3' := block_lt HH3'
    clear HH3'
    go_wp2_with fail
    try rw [hs3]
    clear hmA hmB hmC
    have hw3 := HB3.out
    have hbm := (Below.refl w3.heap.size w3).alloc (Nat.le_refl _) (.cells (madeCells #[.int .i64 0] m) 3)
    have HIC := Lib.hid (show IsN (w3.alloc (.cells (madeCells #[.int .i64 0] m) 3)) (e2 + 1) (List.replicate m 0) by unfold IsN IsA; rw [← madeI, ← hs3]; exact heap_alloc_new w3 _)
    have HST := Lib.hid (show StS w (w3.alloc (.cells (madeCells #[.int .i64 0] m) 3)) n b3 b5 ga e2 gr e1 (e2 + 1) m a (List.replicate n 0) rank (List.replicate n 0) (List.replicate m 0) from
      ⟨(hbm.block _ (block_lt HH3.out)).trans HH3.out, (hbm.block _ (block_lt HH5.out)).trans (by have := HH5.out; exact this), HA3.out.kept hbm, HI2.out.kept hbm, HR3.out.kept hbm, HI1.out.kept hbm, HIC.out, List.length_replicate, List.length_replicate, List.length_replicate,
        ⟨by omega, by omega, by omega, by omega, by omega, by omega, by omega, by omega, by omega, by omega, by omega, by omega, hne, by omega, by omega, by omega, by omega, by omega, by omega, by omega, by omega⟩,
        ⟨by omega, by omega, by omega, by omega, by omega, by omega, by omega⟩, HB4.out.trans (hbm.mono HB4.out.size)⟩)
    clear hbm HIC HI1 HI2 HH3 HH5 HA3 HR3 HB4 c3
    generalize w3.alloc (.cells (madeCells #[.int .i64 0] m) 3) = w4 at *
    generalize e2 + 1 = gc at *
    clear he1 he2 hs3 hs2 l1 l2 l3 l4 l5 l6 hz l3'
    clear hw3
    have HRK := Lib.hid (show Rkd L 1 a rank from HK.out)
    clear HK hne
    go_loopw [7, 9] (fun xv kv wr => ∃ (k gR gX : Nat) (a sp rank nx cnt : List Nat), 1 ≤ k ∧ k ≤ 20000 ∧ kv = .int .i64 k ∧ xv = .slice (some ⟨gX, 0, none⟩) n n ∧ Hid (Rkd L k a rank) ∧ Hid (StS w wr n b3 b5 ga e2 gR gX gc m a sp rank nx cnt)) (fun _ kv _ => 40000 - (intOf kv).toNat)
    case atStart => exact ⟨1, gr, e1, a, _, rank, _, _, Nat.le_refl _, by decide, rfl, rfl, HRK, HST⟩
    case round =>
      clear HRK HST
      obtain ⟨k, gR, gX, a, sp, rank, nx, cnt, hk1, hk2, rfl, rfl, HRK, HST⟩ := hrel
      have c3 := cell_lit HST.out.c3 0 _ rfl
      have l3 := block_lt HST.out.c3
      have c5 := cell_lit HST.out.c5 0 _ rfl
      have l5 := block_lt HST.out.c5
      by_cases hkn : k < n
      · have hki : (k : Int) < n := by omega
        obtain ⟨z, hz⟩ : ∃ z, n - 1 = z := ⟨_, rfl⟩
        have hzi : (n : Int) - 1 = (z : Int) := by omega
        have hz2 : (z : Int) < n := by omega
        have hal := HRK.out.al
        rw [HN.out] at hal
        have ca := HST.out.ia.cell z (by omega)
        have la := block_lt HST.out.ia
        have hxl := HRK.out.lt _ (getD_mem a z (by omega))
        rw [HN.out] at hxl
        obtain ⟨x, hx⟩ : ∃ x, a.getD z 0 = x := ⟨_, rfl⟩
        rw [hx] at ca hxl
        have hrl := HRK.out.rl
        rw [HN.out] at hrl
        have cr := HST.out.ir.cell x (by omega)
        have lr := block_lt HST.out.ir
        obtain ⟨R, hR⟩ : ∃ R, rank.getD x 0 = R := ⟨_, rfl⟩
        rw [hR] at cr
        have hxi : (x : Int) < n := by omega
        by_cases hRz : R < z
        · have hRi : (R : Int) < z := by omega
          have hlt := HRK.out.lt
          rw [HN.out] at hlt
          obtain ⟨T, hT⟩ : ∃ T, turnL n k a = T := ⟨_, rfl⟩
          have hTl := turnL_len hal hlt HRK.out.nd (show k ≤ n by omega)
          have hTok := turnL_ok HRK.out.al HRK.out.lt HRK.out.nd HRK.out.inc hk1 (by rw [HN.out]; exact hkn)
          rw [HN.out, hT] at hTok
          have hrlt := HRK.out.rank_lt
          rw [HN.out] at hrlt
          have CT := Lib.hid (fun q => cTurn n k ga e2 a sp (wr.drewN q) (HST.out.drewN q).ia (HST.out.drewN q).is HST.out.ds.2.2.2.2.2.2.2.2.2.2.2.1 hal HST.out.sl hTl hkn (by omega) hlt)
          rw [hT] at CT hTl
          have HTL := Lib.hid hTl
          have HAL := Lib.hid hal
          have HTOK := Lib.hid hTok
          have HRLT := Lib.hid hrlt
          have HRL := Lib.hid hrl
          clear hx hR hRz hz hT hTl hTok hlt hal hrlt hrl
          go_wp2_with fail
          go_quiet (fail)
          go_wp2_with fail
          refine (CT.out _).mono ?_; rintro e w5 ⟨rfl, ht5, hk5⟩
          have HS5 := Lib.hid ((HST.out.drewN nq).turned ht5 HTL.out hk5)
          clear ht5 hk5 CT HST c3 c5 l3 l5 ca la cr lr
          have c5 := cell_lit HS5.out.c5 0 _ rfl
          have l5 := block_lt HS5.out.c5
          obtain ⟨d1, d2, d3, d4, d5, d6, d7, d8, d9, d10, d11, d12, d13, d14, d15, d16, d17, d18, d19, d20, d21⟩ := HS5.out.ds
          go_wp2_with fail
          refine (cByRank n m e2 ga gR gc T a rank cnt w5 HS5.out.is HS5.out.ia HS5.out.ir HS5.out.ic d12.symm d18 d13.symm d20 d15 HTL.out HAL.out HRL.out HS5.out.cl (by omega) (by omega) HM.out.2.1 (by have := HM.out.2.2; omega) (fun i hi => by have := HRLT.out i hi; have := HM.out.1; omega) (HTOK.out.2.imp (fun h => h.1)) HTOK.out.1).mono ?_; rintro e w6 ⟨rfl, ⟨out, cnt', hA6, hC6, hcl6, hlaid⟩, hk6⟩
          have HS6 := Lib.hid (HS5.out.ranked hA6 hC6 hcl6 hk6)
          have HOL := Lib.hid (show out.length = n by rw [hlaid.ol, HTL.out])
          have HOX := Lib.hid (show ∀ x ∈ out, x < n from fun x hx => HTOK.out.1 x (hlaid.mem x hx))
          have HOS := Lib.hid (hlaid.sorted HTOK.out.2)
          clear hA6 hC6 hcl6 hk6 hlaid HS5 c5 l5 d1 d2 d3 d4 d5 d6 d7 d8 d9 d10 d11 d12 d13 d14 d15 d16 d17 d18 d19 d20 d21
          obtain ⟨cc, hcc⟩ : ∃ cc : Nat → Nat → Bool, ∀ p q, cc p q = decide (ofI rank n p ≠ ofI rank n q ∨ ofI rank n (p + k) ≠ ofI rank n (q + k)) := ⟨_, fun p q => rfl⟩
          have HCC := Lib.hid hcc
          have HOD := Lib.hid (show out.Nodup from HOS.out.imp (fun h e => by
            rcases h with h | h
            · rw [e] at h; exact Nat.lt_irrefl _ h
            · exact h.2.1 e))
          clear hcc
          have ca := HS6.out.ia.cell 0 (by rw [HOL.out]; omega)
          have la := block_lt HS6.out.ia
          have hy0 := HOX.out _ (getD_mem out 0 (by rw [HOL.out]; omega))
          obtain ⟨y0, hy⟩ : ∃ y, out.getD 0 0 = y := ⟨_, rfl⟩
          rw [hy] at ca hy0
          have cx := HS6.out.ix.cell y0 (by rw [HS6.out.xl]; exact hy0)
          have fx := HS6.out.ix.free y0
          have lx := block_lt HS6.out.ix
          have hyi : (y0 : Int) < n := by omega
          have h0n : (0 : Int) < n := by omega
          have HS7 := Lib.hid (HS6.out.setX y0 0)
          have HNX := Lib.hid (show ∀ x, x < 1 → (nx.set y0 0).getD (out.getD x 0) 0 = chg cc out x from fun x hx => by
            have : x = 0 := by omega
            subst this
            rw [hy, setN_getD _ _ _ _ (by rw [HS6.out.xl]; exact hy0), if_pos rfl]; rfl)
          clear hy hy0 HS6
          go_wp2_with fail
          clear ca la cx fx lx hyi
          go_loopw [11] (fun jv wr => ∃ (j : Nat) (nx : List Nat), 1 ≤ j ∧ j ≤ n ∧ jv = .int .i64 j ∧ Hid (∀ x, x < j → nx.getD (out.getD x 0) 0 = chg cc out x) ∧ Hid (StS w wr n b3 b5 ga e2 gR gX gc m out T rank nx cnt')) (fun jv _ => n - (intOf jv).toNat)
          case atStart => exact ⟨1, _, Nat.le_refl _, by omega, rfl, HNX, HS7⟩
          case round =>
            clear HNX HS7
            obtain ⟨j, nx, hj1, hj2, rfl, HNX, HST⟩ := hrel
            have c3 := cell_lit HST.out.c3 0 _ rfl
            have l3 := block_lt HST.out.c3
            by_cases hjn : j < n
            · have hji : (j : Int) < n := by omega
              obtain ⟨z, hz⟩ : ∃ z, j - 1 = z := ⟨_, rfl⟩
              have hzi : (j : Int) - 1 = (z : Int) := by omega
              have hz2 : (z : Int) < n := by omega
              have ca1 := HST.out.ia.cell z (by rw [HOL.out]; omega)
              have ca2 := HST.out.ia.cell j (by rw [HOL.out]; omega)
              have la := block_lt HST.out.ia
              have hp := HOX.out _ (getD_mem out z (by rw [HOL.out]; omega))
              have hq := HOX.out _ (getD_mem out j (by rw [HOL.out]; omega))
              have hpq := pw_getD HOD.out z j (by omega) (by rw [HOL.out]; omega)
              have hV := HNX.out z (by omega)
              obtain ⟨p, hpp⟩ : ∃ p, out.getD z 0 = p := ⟨_, rfl⟩
              obtain ⟨q, hqq⟩ : ∃ q, out.getD j 0 = q := ⟨_, rfl⟩
              rw [hpp] at ca1 hp hpq hV
              rw [hqq] at ca2 hq hpq
              obtain ⟨V, hVV⟩ : ∃ V, nx.getD p 0 = V := ⟨_, rfl⟩
              rw [hVV] at hV
              have hVz := chg_le cc out z
              rw [← hV] at hVz
              have cx1 := HST.out.ix.cell p (by rw [HST.out.xl]; exact hp)
              have cx2 := HST.out.ix.cell q (by rw [HST.out.xl]; exact hq)
              have fx := HST.out.ix.free q
              have lx := block_lt HST.out.ix
              rw [hVV] at cx1
              have hpi : (p : Int) < n := by omega
              have hqi : (q : Int) < n := by omega
              have hst : chg cc out (j) = V + if cc p q = true then 1 else 0 := by
                rw [show j = z + 1 by omega, chg, ← hV, show z + 1 = j by omega, hpp, hqq]
              have HS2 := Lib.hid (fun N => (HST.out.drewN N).setX q V)
              have CO := Lib.hid (fun W i (hs : StS w W n b3 b5 ga e2 gR gX gc m out T rank (nx.set q V) cnt') => cOfK b3 b5 gR n i rank W hs.c3 hs.c5 hs.ir HRL.out)
              have HX2 := Lib.hid (show ∀ D, chg cc out j = V + D → ∀ x, x < j + 1 → ((nx.set q V).set q (V + D)).getD (out.getD x 0) 0 = chg cc out x from fun D hD x hx => by
                by_cases e : x = j
                · subst e
                  rw [hqq, setN_getD _ _ _ _ (by rw [List.length_set, HST.out.xl]; exact hq), if_pos rfl, hD]
                · have hne : q ≠ out.getD x 0 := by rw [← hqq]; exact (pw_getD HOD.out x j (by omega) (by rw [HOL.out]; omega)).symm
                  rw [setN_getD _ _ _ _ (by rw [List.length_set, HST.out.xl]; exact hq), if_neg hne, setN_getD _ _ _ _ (by rw [HST.out.xl]; exact hq), if_neg hne]
                  exact HNX.out x (by omega))
              have HCS := Lib.hid (HCC.out p q)
              have HVN := Lib.hid (show V < n by omega)
              obtain ⟨P1, hP1⟩ : ∃ P, ofI rank n p = P := ⟨_, rfl⟩
              obtain ⟨Q1, hQ1⟩ : ∃ P, ofI rank n q = P := ⟨_, rfl⟩
              obtain ⟨P2, hP2⟩ : ∃ P, ofI rank n (p + k) = P := ⟨_, rfl⟩
              obtain ⟨Q2, hQ2⟩ : ∃ P, ofI rank n (q + k) = P := ⟨_, rfl⟩
              have CP1 := Lib.hid (fun W hs => CO.out W p hs)
              have CQ1 := Lib.hid (fun W hs => CO.out W q hs)
              have CP2 := Lib.hid (fun W hs => CO.out W (p + k) hs)
              have CQ2 := Lib.hid (fun W hs => CO.out W (q + k) hs)
              rw [hP1] at CP1
              rw [hQ1] at CQ1
              rw [hP2] at CP2
              rw [hQ2] at CQ2
              rw [hP1, hQ1, hP2, hQ2] at HCS
              rw [Int.natCast_add] at CP2 CQ2
              have HNXO := Lib.hid HNX
              clear hP1 hQ1 hP2 hQ2 hV hVV hpp hqq hz hVz hpq hp hq CO
              go_wp2_with fail
              go_quiet (fail)
              go_wp2_with fail
              have HS3 := Lib.hid (HS2.out nq)
              clear HS2 ca1 ca2 la cx1 cx2 fx lx c3 l3 HST
              generalize (wr.drewN nq).setCell ⟨gX, q, none⟩ (.int .i64 (V : Int)) = w8 at *
              refine (CP1.out _ HS3.out).mono ?_; rintro e w9 ⟨rfl, rfl⟩
              go_wp2_with fail
              refine (CQ1.out _ HS3.out).mono ?_; rintro e w9 ⟨rfl, rfl⟩
              have hqn := hqi
              have cx2 := HS3.out.ix.cell q (by rw [HS3.out.xl]; omega)
              rw [setN_getD _ _ _ _ (by have := HS3.out.xl; rw [List.length_set] at this; omega), if_pos rfl] at cx2
              have fx := HS3.out.ix.free q
              have lx := block_lt HS3.out.ix
              have hVi : (V : Int) < n := by have := HVN.out; omega
              by_cases e1 : P1 = Q1
              · have f1 : (P1 != Q1) = false := by rw [e1]; simp
                have f1' : (P1 == Q1) = true := by rw [e1]; simp
                have hcs := HCS.out
                clear HCS
                go_wp2_with fail
                refine (CP2.out _ HS3.out).mono ?_; rintro e w9 ⟨rfl, rfl⟩
                go_wp2_with fail
                refine (CQ2.out _ HS3.out).mono ?_; rintro e w9 ⟨rfl, rfl⟩
                by_cases e2 : P2 = Q2
                · have f2 : (P2 != Q2) = false := by rw [e2]; simp
                  have f2' : (P2 == Q2) = true := by rw [e2]; simp
                  have HCH := Lib.hid (HX2.out 0 (by rw [hst, hcs, if_neg (by simp [e1, e2])]))
                  clear hst hcs e1 e2
                  go_wp2_with fail
                  go_roundw
                  case rel => exact ⟨j + 1, _, by omega, by omega, by go_num, Lib.hid (by have := HCH.out; rw [Nat.add_zero, List.set_set] at this; exact this), HS3⟩
                  case measure => simp [intOf]; omega
                · have f2 : (P2 != Q2) = true := by simp [e2]
                  have f2' : (P2 == Q2) = false := by simp [e2]
                  have HCH := Lib.hid (HX2.out 1 (by rw [hst, hcs, if_pos (by simp [e1, e2])]))
                  have HS4 := Lib.hid (HS3.out.setX q (V + 1))
                  clear hst hcs e1 e2
                  go_wp2_with fail
                  go_roundw
                  case rel => exact ⟨j + 1, _, by omega, by omega, by go_num, HCH, HS4⟩
                  case measure => simp [intOf]; omega
              · have f1 : (P1 != Q1) = true := by simp [e1]
                have f1' : (P1 == Q1) = false := by simp [e1]
                have hcs := HCS.out
                have HCH := Lib.hid (HX2.out 1 (by rw [hst, hcs, if_pos (by simp [e1])]))
                have HS4 := Lib.hid (HS3.out.setX q (V + 1))
                clear hst hcs e1 HCS
                go_wp2_with fail
                go_roundw
                case rel => exact ⟨j + 1, _, by omega, by omega, by go_num, HCH, HS4⟩
                case measure => simp [intOf]; omega
            · obtain rfl : j = n := by omega
              have c5 := cell_lit HST.out.c5 0 _ rfl
              have l5 := block_lt HST.out.c5
              have f5 := free_in HST.out.c5 0
              have HTW := Lib.hid (HRK.out.twice hk1 (by rw [HN.out]; exact HOL.out) (by rw [HN.out]; exact HOX.out) HOS.out (by rw [HN.out]; exact HST.out.xl) cc (by rw [HN.out]; exact HCC.out) (by rw [HN.out]; exact HNX.out))
              have HS9 := Lib.hid (HST.out.swap HRL.out)
              clear HNX HST
              go_wp2_with fail
              go_roundw
              case rel => exact ⟨k * 2, gX, gR, out, T, nx, rank, cnt', by omega, by omega, by go_num, rfl, HTW, HS9⟩
              case measure => simp [intOf]; omega
        · have hRi : ¬ (R : Int) < z := by omega
          have HF := Lib.hid (HRK.out.suf (.inr (by rw [HN.out, hz, hx, hR]; omega)))
          clear hx hR hRz hz
          go_wp2_with fail
          go_quiet (fail)
          go_wp2_with fail
          go_ret
          exact ⟨ga, a, rfl, HST.out.ia, HF.out, HST.out.lo.2.2.1, below_dn HST.out.bel _⟩
      · have hki : ¬ (k : Int) < n := by omega
        have HF := Lib.hid (HRK.out.suf (.inl (by rw [HN.out]; omega)))
        go_wp2_with fail
        go_quiet (fail)
        go_wp2_with fail
        go_ret
        exact ⟨ga, a, rfl, HST.out.ia, HF.out, HST.out.lo.2.2.1, below_dn HST.out.bel _⟩
end Go.Proofs.Ytpkidedepcnoaaa
