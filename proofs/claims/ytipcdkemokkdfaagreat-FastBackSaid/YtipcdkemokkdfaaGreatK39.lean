import Derived.Test.YtipcdkemokkdfaaGreatK38
/- Layer 11: (*Table).add of a code whose head is opened. -/
namespace Go.Proofs.YtipcdkemokkdfaaGreat
open Go.ChangeShapes Go.WideShapes Go.ChangeAt Go.RowKit Go.Lib
set_option linter.unusedVariables false
set_option linter.unusedSimpArgs false
set_option maxRecDepth 100000
open Two
set_option maxHeartbeats 32000000 in
theorem tAddOpen (w : World) (B gt gs R root L D SZ T n s H N C d : Nat) (ao : Option Addr) (P : Ent) (short long : List Ent) (h : IsT2 w B gt gs R root L (.slice ao N C) short long) (hR : 2 ^ root = R) (hSZ : 2 ^ D = SZ) (hL : root + D = L) (hL15 : L ≤ 15) (hr : 1 ≤ root) (hd : n = root + d) (hd0 : 0 < d) (hdD : d ≤ D) (hT : T < 2 ^ n) (hH : T % R = H)
    (hfar : short[H]? = some P) (hP : P.2.2.1 = false) (hN : N = long.length) (hf2 : N ≤ 32768) (hB : B ≤ w.heap.size) :
    Calls Tryz.prog 97 #[.pointer (some ⟨gt, 0, none⟩), .int .i64 T, .agg #[.int .i32 s, .int .i16 n, .bool false, .int .i32 0]] w fun e w' => e = .returned (.tuple #[]) ∧ (∃ k cap, IsT2 w' B gt gs R root L (.slice (some ⟨k, 0, none⟩) (N + SZ) cap) (short.set H (0, 0, true, (N : Int))) (segF (long ++ List.replicate SZ z0) N SZ (T / R) (2 ^ d) ((s : Int), (n : Int), false, 0)) ∧ N + SZ ≤ cap) ∧ Keeps (fun j => j = gt ∨ j = gs ∨ (Value.slice ao N C).ownBlock = some j) w w' := by
  have hRp : 0 < R := by rw [← hR]; exact Nat.pow_pos (by decide)
  have hSp : 0 < SZ := by rw [← hSZ]; exact Nat.pow_pos (by decide)
  have hR15 : R ≤ 32768 := by rw [← hR]; exact Nat.le_trans (Nat.pow_le_pow_right (by decide) (show root ≤ 15 by omega)) (by decide)
  have hS15 : SZ ≤ 32768 := by rw [← hSZ]; exact Nat.le_trans (Nat.pow_le_pow_right (by decide) (show D ≤ 15 by omega)) (by decide)
  have hHR : H < R := by rw [← hH]; exact Nat.mod_lt _ hRp
  have hT15 : T < 32768 := Nat.lt_of_lt_of_le hT (Nat.le_trans (Nat.pow_le_pow_right (by decide) (show n ≤ 15 by omega)) (by decide))
  have hAnd : Go.bits .and .i64 (T : Int) ((R : Int) - 1) = (H : Int) := by rw [← hH, ← hR]; exact mask_bits T root (by omega) (by omega)
  have hW1 : IntKind.i64.wrap ((2 : Int) ^ root) = (R : Int) := by
    have e1 : (2 : Int) ^ root = ((2 ^ root : Nat) : Int) := by simp
    rw [e1, hR, IntKind.wrap_i64]; omega
  have hW2 : IntKind.i64.wrap ((2 : Int) ^ D) = (SZ : Int) := by
    have e1 : (2 : Int) ^ D = ((2 ^ D : Nat) : Int) := by simp
    rw [e1, hSZ, IntKind.wrap_i64]; omega
  obtain ⟨s1', s2', s3', s4'⟩ := P
  simp only at hP
  subst hP
  have HT0 := Lib.hid h
  have hgt : gt < w.heap.size := block_lt HT0.out.tb
  obtain ⟨gb, hgb⟩ : ∃ gb, w.heap.size = gb := ⟨_, rfl⟩
  obtain ⟨W, hWW⟩ : ∃ W, w.alloc (.cells #[.int .i32 s, .int .i16 n, .bool false, .int .i32 0] 168) = W := ⟨_, rfl⟩
  have hbox : W.heap[gb]? = some (.cells #[.int .i32 s, .int .i16 n, .bool false, .int .i32 0] 168 (0, 0)) := by rw [← hWW, ← hgb]; exact heap_alloc_new _ _
  have htab := heap_old HT0.out.tb (.cells #[.int .i32 s, .int .i16 n, .bool false, .int .i32 0] 168)
  have t1' := cell_lit htab 1 _ rfl
  rw [hWW] at htab
  have HBL := Lib.hid (show Below w.heap.size w W by rw [← hWW]; exact (Below.refl _ _).alloc (Nat.le_refl _) _)
  have HK1 := Lib.hid (show Keeps (fun j => j = gt ∨ j = gs ∨ (Value.slice ao N C).ownBlock = some j) w W by rw [← hWW]; exact (Keeps.refl _ w).alloc _)
  have b0 : W.cell? ⟨gb, 0, none⟩ = some (.int .i32 s) := cell_lit hbox 0 _ rfl
  have b1 : W.cell? ⟨gb, 1, none⟩ = some (.int .i16 n) := cell_lit hbox 1 _ rfl
  have t0 : W.cell? ⟨gt, 0, none⟩ = some (.slice (some ⟨gs, 0, none⟩) R R) := cell_lit htab 0 _ rfl
  have t1 : W.cell? ⟨gt, 1, none⟩ = some (.int .i64 root) := cell_lit htab 1 _ rfl
  have t2 : W.cell? ⟨gt, 2, none⟩ = some (.slice ao N C) := cell_lit htab 2 _ rfl
  have t3 : W.cell? ⟨gt, 3, none⟩ = some (.int .i64 L) := cell_lit htab 3 _ rfl
  have s0 := OwnS.cell flatT (HT0.out.kept HBL.out).rs H 0 _ hfar (by decide)
  have s1 := OwnS.cell flatT (HT0.out.kept HBL.out).rs H 1 _ hfar (by decide)
  have s2 := OwnS.cell flatT (HT0.out.kept HBL.out).rs H 2 _ hfar (by decide)
  have s3 := OwnS.cell flatT (HT0.out.kept HBL.out).rs H 3 _ hfar (by decide)
  simp only [fT, List.getElem?_cons_zero, List.getElem?_cons_succ, Nat.add_zero] at s0 s1 s2 s3
  have f0 := (HT0.out.kept HBL.out).rs.free (H * 4)
  have f1 := (HT0.out.kept HBL.out).rs.free (H * 4 + 1)
  have f2 := (HT0.out.kept HBL.out).rs.free (H * 4 + 2)
  have f3 := (HT0.out.kept HBL.out).rs.free (H * 4 + 3)
  have HBX := Lib.hid hbox
  have HT2 := Lib.hid (show T / R < 2 ^ d by rw [Nat.div_lt_iff_lt_mul hRp, ← hR, ← Nat.pow_add, Nat.add_comm, ← hd]; exact hT)
  have hShr : (T : Int) / 2 ^ root = ((T / R : Nat) : Int) := by
    have e1 : (2 : Int) ^ root = ((2 ^ root : Nat) : Int) := by simp
    rw [e1, hR]; simp
  obtain ⟨T2, hT2e⟩ : ∃ T2, T / R = T2 := ⟨_, rfl⟩
  rw [hT2e] at HT2 hShr ⊢
  clear hT2e
  have HTT := Lib.hid hT
  have HSZ := Lib.hid hSZ
  have HFR := Lib.hid hfar
  have hW3 : IntKind.i64.wrap ((R : Int) - 1) = (R : Int) - 1 := by rw [IntKind.wrap_i64]; omega
  have hW4 : IntKind.i64.wrap ((n : Int) - (root : Int)) = (d : Int) := by rw [IntKind.wrap_i64]; omega
  have hW5 : IntKind.i64.wrap ((L : Int) - (root : Int)) = (D : Int) := by rw [IntKind.wrap_i64]; omega
  have hW8 : wrap32 (N : Int) = (N : Int) := by unfold wrap32; omega
  have hmin : min D 64 = D := by omega
  have hD15 : D ≤ 15 := by omega
  have hn1 : n ≤ 15 := by omega
  have hrn : root < n := by omega
  have hrn2 : (root : Int) < (n : Int) := by omega
  have hHi : (H : Int) < (R : Int) := by omega
  have HD := Lib.hid hd
  have HL := Lib.hid hL
  have HNL := Lib.hid hN
  have HMT := Lib.hid hH
  clear hd hL hN
  clear hbox htab h hT hH hfar hR hSZ
  go_enter Tryz.func97, Tryz.ntmps97
  go_wp2_with fail
  clear t1'
  go_quiet (fail)
  rename_i nq
  obtain ⟨W2, hW2'⟩ : ∃ W2, W.drewN nq = W2 := ⟨_, rfl⟩
  have b0 : W2.cell? ⟨gb, 0, none⟩ = some (.int .i32 s) := by rw [← hW2']; exact b0
  have b1 : W2.cell? ⟨gb, 1, none⟩ = some (.int .i16 n) := by rw [← hW2']; exact b1
  have t0 : W2.cell? ⟨gt, 0, none⟩ = some (.slice (some ⟨gs, 0, none⟩) R R) := by rw [← hW2']; exact t0
  have t1 : W2.cell? ⟨gt, 1, none⟩ = some (.int .i64 root) := by rw [← hW2']; exact t1
  have t2 : W2.cell? ⟨gt, 2, none⟩ = some (.slice ao N C) := by rw [← hW2']; exact t2
  have t3 : W2.cell? ⟨gt, 3, none⟩ = some (.int .i64 L) := by rw [← hW2']; exact t3
  have s0 : W2.cell? ⟨gs, H * 4, none⟩ = some (.int .i32 s1') := by rw [← hW2']; exact s0
  have s1 : W2.cell? ⟨gs, H * 4 + 1, none⟩ = some (.int .i16 s2') := by rw [← hW2']; exact s1
  have s2 : W2.cell? ⟨gs, H * 4 + 2, none⟩ = some (.bool false) := by rw [← hW2']; exact s2
  have s3 : W2.cell? ⟨gs, H * 4 + 3, none⟩ = some (.int .i32 s4') := by rw [← hW2']; exact s3
  have f0 : W2.frozen? ⟨gs, H * 4, none⟩ = false := by rw [← hW2']; exact f0
  have f1 : W2.frozen? ⟨gs, H * 4 + 1, none⟩ = false := by rw [← hW2']; exact f1
  have f2 : W2.frozen? ⟨gs, H * 4 + 2, none⟩ = false := by rw [← hW2']; exact f2
  have f3 : W2.frozen? ⟨gs, H * 4 + 3, none⟩ = false := by rw [← hW2']; exact f3
  have HBL2 := Lib.hid (show Below w.heap.size w W2 by rw [← hW2']; exact below_dn HBL.out nq)
  have HK2 := Lib.hid (show Keeps (fun j => j = gt ∨ j = gs ∨ (Value.slice ao N C).ownBlock = some j) w W2 by rw [← hW2']; exact HK1.out.drewN nq)
  have HBX2 := Lib.hid (show W2.heap[gb]? = some (.cells #[.int .i32 s, .int .i16 n, .bool false, .int .i32 0] 168 (0, 0)) by rw [← hW2']; exact HBX.out)
  rw [hW2']
  clear hW2' HBL HK1
  have HHW1 := Lib.hid hW1; have HHW2 := Lib.hid hW2; have HHW3 := Lib.hid hW3; have HHW4 := Lib.hid hW4; have HHW5 := Lib.hid hW5; have HAND := Lib.hid hAnd; have HSHR := Lib.hid hShr; have HMIN := Lib.hid hmin
  have HR0 := Lib.hid hR15; have HS0 := Lib.hid hS15; have HT0' := Lib.hid hT15; have HHR := Lib.hid hHR; have HD15 := Lib.hid hD15; have HHI := Lib.hid hHi; have Hn1 := Lib.hid hn1; have Hrn := Lib.hid hrn; have Hrn2 := Lib.hid hrn2; have HSP := Lib.hid hSp; have HRP := Lib.hid hRp; have HL15 := Lib.hid hL15; have Hr := Lib.hid hr; have HdD := Lib.hid hdD; have Hd0 := Lib.hid hd0; have Hf2 := Lib.hid hf2; have HBB := Lib.hid hB; have Hgb := Lib.hid hgb; have Hgt := Lib.hid hgt
  clear hW1 hW2 hW3 hW4 hW5 hAnd hShr hmin hR15 hS15 hT15 hHR hD15 hHi hn1 hrn hrn2 hSp hRp hL15 hr hdD hd0 hf2 hB hgb hgt
  go_wp2_with fail
  obtain ⟨W3, hW3e⟩ : ∃ W3, (((W2.setCell ⟨gs, H * 4, none⟩ (.int .i32 0)).setCell ⟨gs, H * 4 + 1, none⟩ (.int .i16 0)).setCell ⟨gs, H * 4 + 2, none⟩ (.bool true)).setCell ⟨gs, H * 4 + 3, none⟩ (.int .i32 (N : Int)) = W3 := ⟨_, rfl⟩
  have hgs := HT0.out.ne
  have hgbs : gb ≠ gs := by have := (World.ownsRow.lt HT0.out.rs gs rfl).2; have := Hgb.out; omega
  have HKS := Lib.hid (show Keeps (fun j => j = gs) W2 W3 by rw [← hW3e]; exact ((((Keeps.refl (fun j => j = gs) W2).setCell (p := ⟨gs, H * 4, none⟩) (.inr rfl) _).setCell (p := ⟨gs, H * 4 + 1, none⟩) (.inr rfl) _).setCell (p := ⟨gs, H * 4 + 2, none⟩) (.inr rfl) _).setCell (p := ⟨gs, H * 4 + 3, none⟩) (.inr rfl) _)
  have HT3 := Lib.hid (show IsT2 W3 B gt gs R root L (.slice ao N C) (short.set H (0, 0, true, (N : Int))) long from by
    have h2 := HT0.out.kept HBL2.out
    refine ⟨HKS.out.heap h2.tb hgs, ?_, HKS.out.ownsRow h2.rl (fun k hk e => h2.sl (by rw [hk, e])), h2.sl⟩
    rw [← hW3e]
    exact OwnS.set4 flatT h2.rs H (0, 0, true, (N : Int)) _ _ _ _ rfl (by rw [h2.len]; exact HHR.out))
  have HBX3 := Lib.hid (HKS.out.heap HBX2.out hgbs)
  have HK3 := Lib.hid (HK2.out.trans (HKS.out.mono (fun j _ e => .inr (.inl e))))
  have t0 : W3.cell? ⟨gt, 0, none⟩ = some (.slice (some ⟨gs, 0, none⟩) R R) := cell_lit HT3.out.tb 0 _ rfl
  have t1 : W3.cell? ⟨gt, 1, none⟩ = some (.int .i64 root) := cell_lit HT3.out.tb 1 _ rfl
  have t2 : W3.cell? ⟨gt, 2, none⟩ = some (.slice ao N C) := cell_lit HT3.out.tb 2 _ rfl
  have t3 : W3.cell? ⟨gt, 3, none⟩ = some (.int .i64 L) := cell_lit HT3.out.tb 3 _ rfl
  rw [hW3e]
  clear hgs hgbs hW8
  clear hW3e s0 s1 s2 s3 f0 f1 f2 f3 b0 b1 HKS HBX2 HK2
  have hW5 := HHW5.out
  have hW2 := HHW2.out
  have hmin := HMIN.out
  have hD15 := HD15.out
  have hsz3 : w.heap.size ≤ W3.heap.size := HK3.out.size
  have HNB := Lib.hid (show long.length + SZ ≤ 1099511627776 by have := HNL.out; have := HS0.out; have := Hf2.out; omega)
  have HBW := Lib.hid (show B ≤ W3.drew.heap.size by show B ≤ W3.heap.size; have := HBB.out; omega)
  have HOD := Lib.hid (OwnS.drew HT3.out.rl)
  have HROW := Lib.hid (show (Value.slice ao N C).ownBlock ≠ some gt from fun e => own_ne HT3.out.rl HT3.out.tb (by decide) e)
  have HTB := Lib.hid (show W3.drew.heap[gt]? = some (.cells #[.slice (some ⟨gs, 0, none⟩) R R, .int .i64 root, .slice ao N C, .int .i64 L] 164 (0, 0)) from HT3.out.tb)
  go_region_law (refine step_make info_tent (by decide) Tryz.underlying160 .i64 .i64 Tryz.underlying3 z0 rfl flatT (by decide) rfl (.tmp 60) (.tmp 71) rfl (.slice ao N C) long ?hd HOD.out SZ ?hx HSP.out HNB.out HBW.out ?_; (case hd => go_simp); (case hx => go_simp); intro k cap w5 ho5 hg5 hk5; have HB5 := Lib.hid (grown_heap hg5 HTB.out HROW.out); have u2 : w5.cell? ⟨gt, 2, none⟩ = some (.slice ao N C) := cell_lit HB5.out 2 _ rfl; have fr2 : w5.frozen? ⟨gt, 2, none⟩ = false := free_in HB5.out 2)
  all_goals
    rw [← HNL.out] at ho5 ⊢
    have hcap : N + SZ ≤ cap := by
      rcases ho5.2 with ⟨h0, -⟩ | ⟨g', cap', cur', h0, -, -, hnc, -⟩
      · simp at h0
      · simp only [List.length_append, List.length_replicate, ← HNL.out] at hnc; simp at h0; omega
    have hcap2 : cap ≤ maxLen := by
      rcases ho5.2 with ⟨h0, -⟩ | ⟨g', cap', cur', h0, -, -, hnc, hcm, -⟩
      · simp at h0
      · simp at h0; omega
    have hgt3 : gt < W3.heap.size := by have := Hgt.out; omega
    have hgs3 : gs < W3.heap.size := (World.ownsRow.lt HT3.out.rs gs rfl).2
    have hkt : k ≠ gt := by rcases hk5 with e | e; (· intro e2; exact HROW.out (by rw [e, e2])); (· have : k = W3.heap.size := e; omega)
    have hks : k ≠ gs := by rcases hk5 with e | e; (· intro e2; exact HT3.out.sl (by rw [e, e2])); (· have : k = W3.heap.size := e; omega)
    have HO5 := Lib.hid ho5
    have HG5 := Lib.hid hg5
    have HKT := Lib.hid hkt; have HKSS := Lib.hid hks; have HCAP := Lib.hid hcap; have HCAP2 := Lib.hid hcap2; have HK5 := Lib.hid hk5
    clear hkt hks hcap hcap2 hk5 hsz3 hgt3 hgs3
    clear ho5 hg5 t0 t1 t2 t3 hW5 hW2 hmin hD15
    go_wp2_with fail
    obtain ⟨W6, hW6e⟩ : ∃ W6, w5.setCell ⟨gt, 2, none⟩ (.slice (some ⟨k, 0, none⟩) (N + SZ) cap) = W6 := ⟨_, rfl⟩
    have HK6 := Lib.hid (show Keeps (fun j => j = gt ∨ j = gs ∨ (Value.slice ao N C).ownBlock = some j) w W6 by
      rw [← hW6e]
      exact ((HK3.out.drew.grown HG5.out (fun j hj => .inr (.inr (.inr hj))))).setCell (p := ⟨gt, 2, none⟩) (.inr (.inl rfl)) _)
    have HT6 := Lib.hid (show IsT2 W6 B gt gs R root L (.slice (some ⟨k, 0, none⟩) (N + SZ) cap) (short.set H (0, 0, true, (N : Int))) (long ++ List.replicate SZ z0) by
      have hx : Keeps (fun j => j = gt) w5 W6 := by rw [← hW6e]; exact (Keeps.refl (fun j => j = gt) w5).setCell (p := ⟨gt, 2, none⟩) (.inr rfl) _
      refine ⟨by rw [← hW6e]; exact block_set HB5.out 2 _, ?_, ?_, fun e => HKSS.out (by simpa [Value.ownBlock] using e)⟩
      · refine hx.ownsRow (OwnS.grown (OwnS.drew HT3.out.rs) HG5.out (.inr (fun e => HT3.out.sl e.symm))) (fun j hj e => ?_)
        have e1 : gs = j := by simpa [Value.ownBlock] using hj
        exact HT0.out.ne (by rw [e1]; exact e.symm)
      · refine hx.ownsRow HO5.out (fun j hj e => ?_)
        have e1 : k = j := by simpa [Value.ownBlock] using hj
        exact HKT.out (by rw [e1]; exact e))
    have HBX6 := Lib.hid (show W6.heap[gb]? = some (.cells #[.int .i32 s, .int .i16 n, .bool false, .int .i32 0] 168 (0, 0)) by
      have hgg : gt ≠ gb := by have := Hgb.out; have := Hgt.out; omega
      have hx : Keeps (fun j => j = gt) w5 W6 := by rw [← hW6e]; exact (Keeps.refl (fun j => j = gt) w5).setCell (p := ⟨gt, 2, none⟩) (.inr rfl) _
      refine hx.heap (grown_heap HG5.out (show W3.drew.heap[gb]? = _ from HBX3.out) ?_) (fun e => hgg e.symm)
      exact fun e => by have h1 := (World.ownsRow.lt HT0.out.rl gb e).2; have := Hgb.out; omega)
    rw [hW6e]
    clear hW6e u2 fr2
    have b0 : W6.cell? ⟨gb, 0, none⟩ = some (.int .i32 s) := cell_lit HBX6.out 0 _ rfl
    have b1 : W6.cell? ⟨gb, 1, none⟩ = some (.int .i16 n) := cell_lit HBX6.out 1 _ rfl
    have b2 : W6.cell? ⟨gb, 2, none⟩ = some (.bool false) := cell_lit HBX6.out 2 _ rfl
    have b3 : W6.cell? ⟨gb, 3, none⟩ = some (.int .i32 0) := cell_lit HBX6.out 3 _ rfl
    have t0 : W6.cell? ⟨gt, 0, none⟩ = some (.slice (some ⟨gs, 0, none⟩) R R) := cell_lit HT6.out.tb 0 _ rfl
    have t1 : W6.cell? ⟨gt, 1, none⟩ = some (.int .i64 root) := cell_lit HT6.out.tb 1 _ rfl
    have t2 : W6.cell? ⟨gt, 2, none⟩ = some (.slice (some ⟨k, 0, none⟩) (N + SZ : Nat) cap) := cell_lit HT6.out.tb 2 _ rfl
    have t3 : W6.cell? ⟨gt, 3, none⟩ = some (.int .i64 L) := cell_lit HT6.out.tb 3 _ rfl
    have s3 := OwnS.cell flatT HT6.out.rs H 3 (0, 0, true, (N : Int)) (by
      have hl : H < short.length := by have := HHR.out; rw [HT0.out.len]; exact this
      rw [List.getElem?_set]; simp [hl]) (by decide)
    simp only [fT, List.getElem?_cons_zero, List.getElem?_cons_succ] at s3
    have hN32 : (N : Int) ≤ 32768 := by have := Hf2.out; omega
    have hcp : N + SZ ≤ cap := HCAP.out
    have hSp := HSP.out
    have hmx : (cap : Int) ≤ 9223372036854775807 := by have := HCAP2.out; unfold maxLen at this; omega
    have hW1 := HHW1.out
    have hW2 := HHW2.out
    have hmin := HMIN.out
    have hD15 := HD15.out
    have hmr : min root 64 = root := by have := Hn1.out; have := Hrn.out; omega
    have hW3 := HHW3.out
    have hW4 := HHW4.out
    have hW5 := HHW5.out
    have hW7 : IntKind.i64.wrap (N : Int) = (N : Int) := by clear hW1 hW2 hW3 hW4 hW5; rw [IntKind.wrap_i64]; omega
    have hS15 : (SZ : Int) ≤ 32768 := by clear hW1 hW2 hW3 hW4 hW5; have := HS0.out; omega
    have hW6 : IntKind.i64.wrap ((N : Int) + (SZ : Int)) = (N : Int) + (SZ : Int) := by clear hW1 hW2 hW3 hW4 hW5; rw [IntKind.wrap_i64]; omega
    have hCf : ¬ (cap = N) := by clear hW1 hW2 hW3 hW4 hW5; omega
    have hx1 : (0 : Int) ≤ (N : Int) + (SZ : Int) := by clear hW1 hW2 hW3 hW4 hW5; omega
    have hx2 : (N : Int) + (SZ : Int) ≤ (cap : Int) := by clear hW1 hW2 hW3 hW4 hW5; omega
    have hx3 : ((N : Int) + (SZ : Int)).toNat = N + SZ := by clear hW1 hW2 hW3 hW4 hW5; omega
    have hfl : N + SZ ≤ cap := hcp
    have hShr := HSHR.out
    have CF := Lib.hid (fun W (hk : Below W6.heap.size W6 W) (o c : Nat) (ho : o = N * 4) => show Calls Tryz.prog 113 #[.slice (some ⟨k, o, none⟩) SZ c, .int .i64 T2, .int .i64 d, .agg #[.int .i32 s, .int .i16 n, .bool false, .int .i32 0]] W _ from tFill W B k N o SZ c T2 d (N + SZ) cap ((s : Int), (n : Int), false, 0) (long ++ List.replicate SZ z0) (HT6.out.kept hk).rl ho (by simp [← HNL.out]) HS0.out (by have := Hn1.out; have := HD.out; omega) HT2.out)
    go_still_tail 41, (by kernel_rfl)
    clear hmr hW1 hW2 hW3 hW4 hW5 hW6 hW7 hmin hCf hx1 hx2 hx3 hShr b0 b1 b2 b3 t0 t1 t2 t3 s3
    clear hcp hSp hmx hD15 hS15 hfl hN32
    change wpList _ _ _ _ _ W6.drew
    go_wp2_with fail
    refine (CF.out W6.drew ((Below.refl _ W6).drew) (N * 4) (cap - N) rfl).mono ?_; rintro e w8 ⟨rfl, h8, hk8⟩
    have HK8 := Lib.hid (hk8)
    have HT := Lib.hid (show IsT2 w8 B gt gs R root L (.slice (some ⟨k, 0, none⟩) (N + SZ) cap) (short.set H (0, 0, true, (N : Int))) (segF (long ++ List.replicate SZ z0) N SZ T2 (2 ^ d) ((s : Int), (n : Int), false, 0)) from
      ⟨hk8.heap (show W6.drew.heap[gt]? = _ from HT6.out.tb) (fun e => HKT.out e.symm), hk8.ownsRow (OwnS.drew HT6.out.rs) (fun j hj e => HKSS.out (by
        have e1 : gs = j := by simpa [Value.ownBlock] using hj
        rw [e1]; exact e.symm)), h8, HT6.out.sl⟩)
    have HKK := Lib.hid (show Keeps (fun j => j = gt ∨ j = gs ∨ (Value.slice ao N C).ownBlock = some j) w w8 from HK6.out.drew.trans' hk8 (fun j hj e => by
      have e : j = k := e
      rcases HK5.out with e2 | e2
      · exact .inr (.inr (by rw [e]; exact e2))
      · have h1 := HK3.out.size
        have e2 : k = W3.heap.size := e2
        omega))
    clear h8 hk8 HK8
    go_wp2_with fail
    go_end0
    exact ⟨rfl, ⟨k, cap, HT.out, HCAP.out⟩, HKK.out⟩
end Go.Proofs.YtipcdkemokkdfaaGreat
