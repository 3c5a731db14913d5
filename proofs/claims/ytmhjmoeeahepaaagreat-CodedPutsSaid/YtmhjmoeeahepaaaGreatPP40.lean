import Derived.Test.YtmhjmoeeahepaaaGreatPP39
/- Layer 27: reading: a token that copies. -/
namespace Go.Proofs.YtmhjmoeeahepaaaGreat
open Go.ChangeShapes Go.WideShapes Go.ChangeAt Go.RowKit
set_option linter.unusedVariables false
set_option linter.unusedSimpArgs false
set_option maxRecDepth 100000
open Bits hiding packF pack_length
open RunsMath KraftMath CanonMath TurnMath Pm Two
set_option maxHeartbeats 3200000 in
theorem tok27FarBad (w0 : World) (gr g gm gd : Nat) (M d : List Int) (s : List UInt8) (t : Nat) (h : Rd27 w0 gr g gm (.pointer (some ⟨gd, 0, none⟩)) M (some d)) (hr : IsReader w0 g s t) (X Y : Int) (hX : nextL M 15 ((spread s).drop t) = (X, Y, 0)) (t2 : Nat) (ht2 : t + Y.toNat = t2) (k : Nat) (hk : k ≤ 28) (CO : Hid (∀ W, Calls Tryz.prog 83 #[.int .i64 X] W fun e w' => e = .returned (.tuple #[.int .i64 1, .int .i64 0, .int .i64 0, .int .i64 k, .int .i64 0]) ∧ W = w')) (n p : Nat) (hN : numL (spread s) t2 k = .good n p) (k2 : Nat) (Y2 : Int) (hX2 : nextL d 15 ((spread s).drop p) = ((k2 : Int), Y2, 0)) (hk2 : k2 ≤ 51) (p2 : Nat) (hp2 : p + Y2.toNat = p2) (E : Int) (hM : numD (spread s) p2 k2 = .bad E) :
    Calls Tryz.prog 58 #[.pointer (some ⟨gr, 0, none⟩)] w0 (EndT (.bad E) w0 g s) := by
  obtain ⟨dv, hdv⟩ : ∃ dv, Value.pointer (some ⟨gd, 0, none⟩) = dv := ⟨_, rfl⟩
  obtain ⟨D, hD⟩ : ∃ D, some d = D := ⟨_, rfl⟩
  rw [hdv, hD] at h
  have CL := Lib.hid (fun W (h : Mid w0 W gr g gm dv M D s t2) => num27L W gr g t2 k s h.rd.c0 h.rd.ne h.at' hk)
  rw [hN] at CL
  have CN2 := Lib.hid (fun W (h : Mid w0 W gr g gm dv M D s p) => nx27Ok W (feet27 g gr) gr gd g d s p h.rd.c0 (by
    have h2 := h.rd.td
    rw [← hdv, ← hD] at h2
    obtain ⟨gd', e, h3, -⟩ := h2
    obtain rfl : gd = gd' := by simpa using e
    exact h3) h.at' (k2 : Int) Y2 hX2)
  rw [hp2] at CN2
  have CD := Lib.hid (fun W (h : Mid w0 W gr g gm dv M D s p2) => num27D W gr g p2 k2 s h.rd.c0 h.rd.ne h.at' hk2)
  rw [hM] at CD
  have HGL := Lib.hid hr.lt
  have HDV := Lib.hid hdv.symm
  clear hN hdv hD hX2 hM hp2
  have c1 := h.c1
  have hgrl := block_lt h.bk
  have HM := Lib.hid (show Mid w0 w0 gr g gm dv M D s t from ⟨h, hr, Keeps.refl _ _, fun _ h => h⟩)
  have CN := Lib.hid (fun W (h : Mid w0 W gr g gm dv M D s t) => nx27Ok W (feet27 g gr) gr gm g M s t h.rd.c0 h.rd.tm h.at' X Y hX)
  have CM := Lib.hid m27Ok
  rw [ht2] at CN
  clear ht2 hX h hr
  go_enter Tryz.func58, Tryz.ntmps58
  go_wp2_with fail
  have HX1 := Lib.hid (box_new w0 0 0 0 0 0)
  have HM1 := Lib.hid (HM.out.low ((Below.refl _ w0).alloc (Nat.le_refl _) (.cells #[.int .i64 0, .int .i64 0, .int .i64 0, .int .i64 0, .int .i64 0] 35)))
  have hgg : g < w0.heap.size := HM.out.at'.lt
  obtain ⟨w1, hw1⟩ : ∃ w1, w0.alloc (.cells #[.int .i64 0, .int .i64 0, .int .i64 0, .int .i64 0, .int .i64 0] 35) = w1 := ⟨_, rfl⟩
  obtain ⟨gx, hgx⟩ : ∃ gx, w0.heap.size = gx := ⟨_, rfl⟩
  have hgx0 : w0.heap.size ≤ gx := by omega
  rw [hw1] at HM1 HX1 ⊢
  rw [hgx] at hgg HX1 ⊢
  clear hw1 hgx c1 hgrl HM
  refine (CN.out w1 HM1.out).mono ?_; rintro e w2 ⟨rfl, hr2, hk2, hF2⟩
  have HM2 := Lib.hid (HM1.out.go hr2 hk2 hF2)
  have HX2 := Lib.hid (hk2.heap HX1.out (by omega))
  clear hr2 hk2 hF2 HM1 HX1 CN
  go_wp2_with fail
  refine (CO.out _).mono ?_; rintro e w3 ⟨rfl, rfl⟩
  go_wp2_with fail
  refine (CM.out _).mono ?_; rintro e w4 ⟨rfl, h4⟩; rw [h4]; clear h4 w4 CO
  obtain ⟨gy, hgy⟩ : ∃ gy, w2.heap.size = gy := ⟨_, rfl⟩
  go_wp2_with fail
  have HY5 := Lib.hid (box_new w2 1 0 0 0 0)
  have HB5 := (Below.refl w2.heap.size w2).alloc (Nat.le_refl _) (.cells #[.int .i64 1, .int .i64 0, .int .i64 0, .int .i64 0, .int .i64 0] 35)
  have HM5 := Lib.hid (HM2.out.low HB5)
  have HX5 := Lib.hid ((HB5.block gx (block_lt HX2.out)).trans HX2.out)
  have hgy0 : w0.heap.size ≤ gy := by rw [← hgy]; exact HM2.out.kp.size
  obtain ⟨w5, hw5⟩ : ∃ w5, w2.alloc (.cells #[.int .i64 1, .int .i64 0, .int .i64 0, .int .i64 0, .int .i64 0] 35) = w5 := ⟨_, rfl⟩
  rw [hw5] at HM5 HX5 HY5 ⊢
  try rw [hgy]
  rw [hgy] at HY5
  have hxy : gx ≠ gy := by have := block_lt HX2.out; omega
  have hgg0 : g < w0.heap.size := HM2.out.rd0.c0 |> fun _ => HGL.out
  clear HB5 hw5 hgy HM2 HX2
  refine (CL.out w5 HM5.out).mono ?_; rintro e w6 ⟨rfl, hr6, hk6, hF6⟩
  have HM6 := Lib.hid (HM5.out.go hr6 hk6 hF6)
  have HX6 := Lib.hid (hk6.heap HX5.out (by omega))
  have HY6 := Lib.hid (hk6.heap HY5.out (by omega))
  have hgrl := block_lt HM6.out.rd0.bk
  have z2 := HM6.out.rd.c2
  have z0 := HM6.out.rd.c0
  obtain ⟨⟨y0, y1, y2, y3, y4⟩, ⟨e0, e1, e2, e3, e4⟩, hylt⟩ := box_cell HY6.out
  have HM7 := Lib.hid (HM6.out.put HY6.out hgy0 ((Keeps.refl (fun j => j = gy) w6).setCell (p := ⟨gy, 2, none⟩) (.inr rfl) (.int .i64 n)))
  have HY7 := Lib.hid (show (w6.setCell ⟨gy, 2, none⟩ (.int .i64 n)).heap[gy]? = some (.cells (box5 1 0 n 0 0) 35 (0, 0)) from block_set HY6.out 2 _)
  have HX7 := Lib.hid ((heap_setCell_other w6 ⟨gy, 2, none⟩ gx (.int .i64 n) hxy).trans HX6.out)
  have hgry : ¬ gr = gy := by omega
  clear hr6 hk6 hF6 CL HM5 HX5 HY5
  rw [HDV.out] at z2
  have hp7 : (w6.setCell ⟨gy, 2, none⟩ (.int .i64 n)).cell? ⟨gr, 0, none⟩ = some (.pointer (some ⟨g, 0, none⟩)) := HM7.out.rd.c0
  have hp72 : (w6.setCell ⟨gy, 2, none⟩ (.int .i64 n)).cell? ⟨gr, 2, none⟩ = some dv := HM7.out.rd.c2
  rw [HDV.out] at hp72
  clear z2 z0
  have hgy7 : w6.heap.size = (w6.setCell ⟨gy, 2, none⟩ (.int .i64 n)).heap.size := by simp
  go_wp2_with fail
  obtain ⟨w7, hw7⟩ : ∃ w7, w6.setCell ⟨gy, 2, none⟩ (.int .i64 n) = w7 := ⟨_, rfl⟩
  rw [hw7] at HM7 HX7 HY7 ⊢
  clear hw7 hp7 hp72 hgy7 HM6 HX6 HY6 y0 y1 y2 y3 y4 e0 e1 e2 e3 e4 hylt
  refine (CN2.out w7 HM7.out).mono ?_; rintro e w8 ⟨rfl, hr8, hk8, hF8⟩
  have HM8 := Lib.hid (HM7.out.go hr8 hk8 hF8)
  have HX8 := Lib.hid (hk8.heap HX7.out (by omega))
  have HY8 := Lib.hid (hk8.heap HY7.out (by omega))
  clear hr8 hk8 hF8 CN2 HM7 HX7 HY7
  go_wp2_with fail
  refine (CD.out w8 HM8.out).mono ?_; rintro e w9 ⟨rfl, hk9⟩
  have HKE := Lib.hid (HM8.out.kp.trans hk9)
  clear hk9 CD HM8 HX8 HY8
  go_wp2_with fail
  exact ⟨rfl, rfl, HKE.out⟩
set_option maxHeartbeats 3200000 in
theorem tok27Copy (w0 : World) (gr g gm gd : Nat) (M d : List Int) (s : List UInt8) (t : Nat) (h : Rd27 w0 gr g gm (.pointer (some ⟨gd, 0, none⟩)) M (some d)) (hr : IsReader w0 g s t) (X Y : Int) (hX : nextL M 15 ((spread s).drop t) = (X, Y, 0)) (t2 : Nat) (ht2 : t + Y.toNat = t2) (k : Nat) (hk : k ≤ 28) (CO : Hid (∀ W, Calls Tryz.prog 83 #[.int .i64 X] W fun e w' => e = .returned (.tuple #[.int .i64 1, .int .i64 0, .int .i64 0, .int .i64 k, .int .i64 0]) ∧ W = w')) (n p : Nat) (hN : numL (spread s) t2 k = .good n p) (k2 : Nat) (Y2 : Int) (hX2 : nextL d 15 ((spread s).drop p) = ((k2 : Int), Y2, 0)) (hk2 : k2 ≤ 51) (p2 : Nat) (hp2 : p + Y2.toNat = p2) (m p3 : Nat) (hM : numD (spread s) p2 k2 = .good m p3) :
    Calls Tryz.prog 58 #[.pointer (some ⟨gr, 0, none⟩)] w0 (EndT (.good ⟨1, 0, n, m, 0⟩ p3) w0 g s) := by
  obtain ⟨dv, hdv⟩ : ∃ dv, Value.pointer (some ⟨gd, 0, none⟩) = dv := ⟨_, rfl⟩
  obtain ⟨D, hD⟩ : ∃ D, some d = D := ⟨_, rfl⟩
  rw [hdv, hD] at h
  have CL := Lib.hid (fun W (h : Mid w0 W gr g gm dv M D s t2) => num27L W gr g t2 k s h.rd.c0 h.rd.ne h.at' hk)
  rw [hN] at CL
  have CN2 := Lib.hid (fun W (h : Mid w0 W gr g gm dv M D s p) => nx27Ok W (feet27 g gr) gr gd g d s p h.rd.c0 (by
    have h2 := h.rd.td
    rw [← hdv, ← hD] at h2
    obtain ⟨gd', e, h3, -⟩ := h2
    obtain rfl : gd = gd' := by simpa using e
    exact h3) h.at' (k2 : Int) Y2 hX2)
  rw [hp2] at CN2
  have CD := Lib.hid (fun W (h : Mid w0 W gr g gm dv M D s p2) => num27D W gr g p2 k2 s h.rd.c0 h.rd.ne h.at' hk2)
  rw [hM] at CD
  have HGL := Lib.hid hr.lt
  have HDV := Lib.hid hdv.symm
  clear hN hdv hD hX2 hM hp2
  have c1 := h.c1
  have hgrl := block_lt h.bk
  have HM := Lib.hid (show Mid w0 w0 gr g gm dv M D s t from ⟨h, hr, Keeps.refl _ _, fun _ h => h⟩)
  have CN := Lib.hid (fun W (h : Mid w0 W gr g gm dv M D s t) => nx27Ok W (feet27 g gr) gr gm g M s t h.rd.c0 h.rd.tm h.at' X Y hX)
  have CM := Lib.hid m27Ok
  rw [ht2] at CN
  clear ht2 hX h hr
  go_enter Tryz.func58, Tryz.ntmps58
  go_wp2_with fail
  have HX1 := Lib.hid (box_new w0 0 0 0 0 0)
  have HM1 := Lib.hid (HM.out.low ((Below.refl _ w0).alloc (Nat.le_refl _) (.cells #[.int .i64 0, .int .i64 0, .int .i64 0, .int .i64 0, .int .i64 0] 35)))
  have hgg : g < w0.heap.size := HM.out.at'.lt
  obtain ⟨w1, hw1⟩ : ∃ w1, w0.alloc (.cells #[.int .i64 0, .int .i64 0, .int .i64 0, .int .i64 0, .int .i64 0] 35) = w1 := ⟨_, rfl⟩
  obtain ⟨gx, hgx⟩ : ∃ gx, w0.heap.size = gx := ⟨_, rfl⟩
  have hgx0 : w0.heap.size ≤ gx := by omega
  rw [hw1] at HM1 HX1 ⊢
  rw [hgx] at hgg HX1 ⊢
  clear hw1 hgx c1 hgrl HM
  refine (CN.out w1 HM1.out).mono ?_; rintro e w2 ⟨rfl, hr2, hk2, hF2⟩
  have HM2 := Lib.hid (HM1.out.go hr2 hk2 hF2)
  have HX2 := Lib.hid (hk2.heap HX1.out (by omega))
  clear hr2 hk2 hF2 HM1 HX1 CN
  go_wp2_with fail
  refine (CO.out _).mono ?_; rintro e w3 ⟨rfl, rfl⟩
  go_wp2_with fail
  refine (CM.out _).mono ?_; rintro e w4 ⟨rfl, h4⟩; rw [h4]; clear h4 w4 CO
  obtain ⟨gy, hgy⟩ : ∃ gy, w2.heap.size = gy := ⟨_, rfl⟩
  go_wp2_with fail
  have HY5 := Lib.hid (box_new w2 1 0 0 0 0)
  have HB5 := (Below.refl w2.heap.size w2).alloc (Nat.le_refl _) (.cells #[.int .i64 1, .int .i64 0, .int .i64 0, .int .i64 0, .int .i64 0] 35)
  have HM5 := Lib.hid (HM2.out.low HB5)
  have HX5 := Lib.hid ((HB5.block gx (block_lt HX2.out)).trans HX2.out)
  have hgy0 : w0.heap.size ≤ gy := by rw [← hgy]; exact HM2.out.kp.size
  obtain ⟨w5, hw5⟩ : ∃ w5, w2.alloc (.cells #[.int .i64 1, .int .i64 0, .int .i64 0, .int .i64 0, .int .i64 0] 35) = w5 := ⟨_, rfl⟩
  rw [hw5] at HM5 HX5 HY5 ⊢
  try rw [hgy]
  rw [hgy] at HY5
  have hxy : gx ≠ gy := by have := block_lt HX2.out; omega
  have hgg0 : g < w0.heap.size := HM2.out.rd0.c0 |> fun _ => HGL.out
  clear HB5 hw5 hgy HM2 HX2
  refine (CL.out w5 HM5.out).mono ?_; rintro e w6 ⟨rfl, hr6, hk6, hF6⟩
  have HM6 := Lib.hid (HM5.out.go hr6 hk6 hF6)
  have HX6 := Lib.hid (hk6.heap HX5.out (by omega))
  have HY6 := Lib.hid (hk6.heap HY5.out (by omega))
  have hgrl := block_lt HM6.out.rd0.bk
  have z2 := HM6.out.rd.c2
  have z0 := HM6.out.rd.c0
  obtain ⟨⟨y0, y1, y2, y3, y4⟩, ⟨e0, e1, e2, e3, e4⟩, hylt⟩ := box_cell HY6.out
  have HM7 := Lib.hid (HM6.out.put HY6.out hgy0 ((Keeps.refl (fun j => j = gy) w6).setCell (p := ⟨gy, 2, none⟩) (.inr rfl) (.int .i64 n)))
  have HY7 := Lib.hid (show (w6.setCell ⟨gy, 2, none⟩ (.int .i64 n)).heap[gy]? = some (.cells (box5 1 0 n 0 0) 35 (0, 0)) from block_set HY6.out 2 _)
  have HX7 := Lib.hid ((heap_setCell_other w6 ⟨gy, 2, none⟩ gx (.int .i64 n) hxy).trans HX6.out)
  have hgry : ¬ gr = gy := by omega
  clear hr6 hk6 hF6 CL HM5 HX5 HY5
  rw [HDV.out] at z2
  have hp7 : (w6.setCell ⟨gy, 2, none⟩ (.int .i64 n)).cell? ⟨gr, 0, none⟩ = some (.pointer (some ⟨g, 0, none⟩)) := HM7.out.rd.c0
  have hp72 : (w6.setCell ⟨gy, 2, none⟩ (.int .i64 n)).cell? ⟨gr, 2, none⟩ = some dv := HM7.out.rd.c2
  rw [HDV.out] at hp72
  clear z2 z0
  have hgy7 : w6.heap.size = (w6.setCell ⟨gy, 2, none⟩ (.int .i64 n)).heap.size := by simp
  go_wp2_with fail
  obtain ⟨w7, hw7⟩ : ∃ w7, w6.setCell ⟨gy, 2, none⟩ (.int .i64 n) = w7 := ⟨_, rfl⟩
  rw [hw7] at HM7 HX7 HY7 ⊢
  clear hw7 hp7 hp72 hgy7 HM6 HX6 HY6 y0 y1 y2 y3 y4 e0 e1 e2 e3 e4 hylt
  refine (CN2.out w7 HM7.out).mono ?_; rintro e w8 ⟨rfl, hr8, hk8, hF8⟩
  have HM8 := Lib.hid (HM7.out.go hr8 hk8 hF8)
  have HX8 := Lib.hid (hk8.heap HX7.out (by omega))
  have HY8 := Lib.hid (hk8.heap HY7.out (by omega))
  clear hr8 hk8 hF8 CN2 HM7 HX7 HY7
  go_wp2_with fail
  refine (CD.out w8 HM8.out).mono ?_; rintro e w9 ⟨rfl, hr9, hk9, hF9⟩
  have HM9 := Lib.hid (HM8.out.go hr9 hk9 hF9)
  have HX9 := Lib.hid (hk9.heap HX8.out (by omega))
  have HY9 := Lib.hid (hk9.heap HY8.out (by omega))
  obtain ⟨⟨y0, y1, y2, y3, y4⟩, ⟨e0, e1, e2, e3, e4⟩, hylt⟩ := box_cell HY9.out
  have HM10 := Lib.hid (HM9.out.put HY9.out hgy0 ((Keeps.refl (fun j => j = gy) w9).setCell (p := ⟨gy, 3, none⟩) (.inr rfl) (.int .i64 m)))
  have HX10 := Lib.hid ((heap_setCell_other w9 ⟨gy, 3, none⟩ gx (.int .i64 m) hxy).trans HX9.out)
  clear hr9 hk9 hF9 CD HM8 HX8 HY8 HM9 HY9
  obtain ⟨⟨x0, x1, x2, x3, x4⟩, ⟨f0, f1, f2, f3, f4⟩, hxlt⟩ := box_cell HX9.out
  have hyx : ¬ gy = gx := fun e => hxy e.symm
  clear HX9
  go_wp2_with fail
  refine res27 rfl rfl (gx := gx) (k := 1) (b := 0) (l := n) (d := m) (r := 0) (t := 35) (putBox_at HX10.out) ?_
  exact (HM10.out.put HX10.out hgx0 (putBox_keeps _ gx 1 0 n m 0)).done _
set_option maxHeartbeats 3200000 in
theorem tok27Next (w0 : World) (gr g gm : Nat) (dv : Value) (M : List Int) (D : Option (List Int)) (s : List UInt8) (t : Nat) (h : Rd27 w0 gr g gm dv M D) (hr : IsReader w0 g s t) (X Y E : Int) (hX : nextL M 15 ((spread s).drop t) = (X, Y, E)) (hE : E ≠ 0) :
    Calls Tryz.prog 58 #[.pointer (some ⟨gr, 0, none⟩)] w0 (EndT (.bad (musE E)) w0 g s) := by
  have c1 := h.c1
  have hgrl := block_lt h.bk
  have HM := Lib.hid (show Mid w0 w0 gr g gm dv M D s t from ⟨h, hr, Keeps.refl _ _, fun _ h => h⟩)
  have CN := Lib.hid (fun W (h : Mid w0 W gr g gm dv M D s t) => nx27No W (feet27 g gr) gr gm g M s t h.rd.c0 h.rd.tm h.at' X Y E hX hE)
  clear hX h hr
  go_enter Tryz.func58, Tryz.ntmps58
  go_wp2_with fail
  have HM1 := Lib.hid (HM.out.low ((Below.refl _ w0).alloc (Nat.le_refl _) (.cells #[.int .i64 0, .int .i64 0, .int .i64 0, .int .i64 0, .int .i64 0] 35)))
  obtain ⟨w1, hw1⟩ : ∃ w1, w0.alloc (.cells #[.int .i64 0, .int .i64 0, .int .i64 0, .int .i64 0, .int .i64 0] 35) = w1 := ⟨_, rfl⟩
  rw [hw1] at HM1 ⊢
  clear hw1 c1 hgrl HM
  refine (CN.out w1 HM1.out).mono ?_; rintro e w2 ⟨rfl, hk2⟩
  have HKE := Lib.hid (HM1.out.kp.trans hk2)
  clear hk2 HM1 CN
  go_wp2_with fail
  exact ⟨rfl, rfl, HKE.out⟩
/-- A token is read. -/
theorem tok27 (w0 : World) (gr g gm : Nat) (dv : Value) (M : List Int) (D : Option (List Int)) (s : List UInt8) (t : Nat) (h : Rd27 w0 gr g gm dv M D) (hr : IsReader w0 g s t) :
    Calls Tryz.prog 58 #[.pointer (some ⟨gr, 0, none⟩)] w0 (EndT (tokR M D (spread s) t) w0 g s) := by
  unfold tokR
  obtain ⟨⟨X, Y, E⟩, hX⟩ : ∃ q, nextL M 15 ((spread s).drop t) = q := ⟨_, rfl⟩
  rw [hX]
  simp only
  by_cases hE : E = 0
  · subst hE
    rw [if_neg (by simp)]
    obtain ⟨hx0, hx1, -⟩ := next_lt hX
    rw [h.lm] at hx1
    by_cases h256 : X < 256
    · rw [if_pos h256]
      exact tok27Lit w0 gr g gm dv M D s t h hr X Y hX h256 _ rfl
    · rw [if_neg h256]
      obtain ⟨t2, ht2⟩ : ∃ t2, t + Y.toNat = t2 := ⟨_, rfl⟩
      rw [ht2]
      by_cases h285 : X < 285
      · obtain ⟨k1, k2, k3, ⟨k, k4, hk⟩, k5⟩ := of_copy (by omega) h285
        have CO := Lib.hid (fun W => Tok.Of_any X W)
        rw [k1, k2, k3, k4, k5] at CO
        rw [k4, Int.toNat_natCast]
        cases hN : numL (spread s) t2 k with
        | bad E => exact tok27NumNo w0 gr g gm dv M D s t h hr X Y hX t2 ht2 1 0 k hk rfl CO E hN
        | good n p =>
          simp only [if_pos h285]
          cases hD : D with
          | none =>
            subst hD
            have hdv : dv = .pointer none := h.td
            subst hdv
            exact tok27None w0 gr g gm M s t h hr X Y hX t2 ht2 k hk CO n p hN
          | some d =>
            subst hD
            obtain ⟨gd, hdv, -, hdl⟩ := h.td
            subst hdv
            simp only
            unfold farR
            obtain ⟨⟨X2, Y2, E2⟩, hX2⟩ : ∃ q, nextL d 15 ((spread s).drop p) = q := ⟨_, rfl⟩
            rw [hX2]
            simp only
            by_cases hE2 : E2 = 0
            · subst hE2
              rw [if_neg (by simp)]
              obtain ⟨hy0, hy1, -⟩ := next_lt hX2
              rw [hdl] at hy1
              obtain ⟨k2, rfl⟩ : ∃ k2 : Nat, X2 = k2 := ⟨X2.toNat, by omega⟩
              rw [Int.toNat_natCast]
              obtain ⟨p2, hp2⟩ : ∃ p2, p + Y2.toNat = p2 := ⟨_, rfl⟩
              rw [hp2]
              cases hM : numD (spread s) p2 k2 with
              | bad E => exact tok27FarBad w0 gr g gm gd M d s t h hr X Y hX t2 ht2 k hk CO n p hN k2 Y2 hX2 (by omega) p2 hp2 E hM
              | good m p3 => exact tok27Copy w0 gr g gm gd M d s t h hr X Y hX t2 ht2 k hk CO n p hN k2 Y2 hX2 (by omega) p2 hp2 m p3 hM
            · rw [if_pos hE2]
              exact tok27FarNo w0 gr g gm gd M d s t h hr X Y hX t2 ht2 k hk CO n p hN X2 Y2 E2 hX2 hE2
      · obtain ⟨k1, k2, k3, ⟨k, k4, hk⟩, k5⟩ := of_rep (show 285 ≤ X by omega) (by omega)
        have CO := Lib.hid (fun W => Tok.Of_any X W)
        rw [k1, k2, k4, k5] at CO
        have CO' := Lib.hid CO.out
        rw [k3] at CO'
        rw [k4, Int.toNat_natCast]
        cases hN : numL (spread s) t2 k with
        | bad E => exact tok27NumNo w0 gr g gm dv M D s t h hr X Y hX t2 ht2 2 _ k hk rfl CO E hN
        | good n p =>
          simp only [if_neg h285]
          exact tok27Rep w0 gr g gm dv M D s t h hr X Y hX t2 ht2 _ k hk CO' n p hN
  · rw [if_pos hE]
    exact tok27Next w0 gr g gm dv M D s t h hr X Y E hX hE
end Go.Proofs.YtmhjmoeeahepaaaGreat

/- Layer 27: reading: tables, rows of tokens. -/
namespace Go.Proofs.YtmhjmoeeahepaaaGreat
open Go.ChangeShapes Go.WideShapes Go.ChangeAt Go.RowKit
set_option linter.unusedVariables false
set_option linter.unusedSimpArgs false
set_option maxRecDepth 100000
open Bits hiding packF pack_length
open RunsMath KraftMath CanonMath TurnMath Pm Two
def fK (t : Tk) : List Value := [.int .i64 t.k, .int .i64 t.b, .int .i64 t.l, .int .i64 t.d, .int .i64 t.r]
theorem flatK : Flat fK 5 := fun x => ⟨rfl, by intro u hu; simp [fK] at hu; rcases hu with rfl | rfl | rfl | rfl | rfl <;> rfl⟩
abbrev OwnK (B : Nat) (w : World) (v : Value) (l : List Tk) : Prop := OwnS fK 35 5 B w v l
theorem info_tk : (Tryz.prog.info? 35).map (fun i => (i.zero, i.size, i.bytes)) = some (some (.agg #[.int .i64 0, .int .i64 0, .int .i64 0, .int .i64 0, .int .i64 0]), 5, 40) := by kernel_rfl
theorem app_tk {X : World} {ops : Array Oper} {rest : List Oper} {o : Oper} {a : Act} {Q : Exit → Act → World → Prop} (hgd : o.guard = none) (s xo : Operand)
    (ho : o.op = .call { callee := .builtin .append, args := #[s, xo], argTypes := #[22, 22] })
    (B T : Nat) (v : Value) (l : List Tk) (k b n d r : Int) (hs : a.eval s = v) (hown : OwnK B X v l) (g c1 : Nat) (hg : X.heap.size = g) (hx : a.eval xo = .slice (some ⟨g, 0, none⟩) 1 c1) (hl : l.length ≤ 1099511627776) (hB : B ≤ X.heap.size)
    (h : ∀ v' w', OwnK B w' v' (l ++ [⟨k, b, n, d, r⟩]) → Below B X w' → X.grownBy w' v.ownBlock → wpList Tryz.prog ops Q rest (a.put o.dst v') w') : wpList Tryz.prog ops Q (o :: rest) a (X.alloc (.cells #[.int .i64 k, .int .i64 b, .int .i64 n, .int .i64 d, .int .i64 r] T)) :=
  app_one (f := fK) info_tk rfl (by decide) (by decide) Tryz.underlying22 flatK hgd s xo ho B T v l ⟨k, b, n, d, r⟩ hs hown g c1 hg hx hl hB h
theorem OwnS.isTk {B : Nat} {w : World} {v : Value} {l : List Tk} (h : OwnK B w v l) : ∃ a cap, v = .slice a l.length cap ∧ IsTk w a l := by
  by_cases h0 : 0 < l.length
  · obtain ⟨g, cap, rfl, -, -⟩ := h.form h0 (by decide)
    refine ⟨_, cap, rfl, .inr ⟨_, rfl, fun i t ht => ?_⟩⟩
    have e1 : (⟨g, 0, none⟩ : Addr).add (i * 5) = ⟨g, i * 5 + 0, none⟩ := by unfold Addr.add; split <;> simp_all
    have hc := fun j hj => h.cell flatK i j t ht hj
    have q0 := hc 0 (by decide); have q1 := hc 1 (by decide); have q2 := hc 2 (by decide); have q3 := hc 3 (by decide); have q4 := hc 4 (by decide)
    simp only [fK, List.getElem?_cons_zero, List.getElem?_cons_succ] at q0 q1 q2 q3 q4
    unfold tkAt
    rw [e1]
    exact ⟨q0, q1, q2, q3, q4⟩
  · obtain ⟨a, cap, rfl⟩ := h.slice
    exact ⟨a, cap, rfl, .inl (List.eq_nil_of_length_eq_zero (by omega))⟩
/-- What a token counts. -/
def szN (t : Tk) : Nat := if t.k = 0 then 1 else t.l.toNat
theorem sz_ok {t : Tk} (h : t.ok) : Tok.szTok t.k t.b t.l t.d t.r = (szN t : Int) ∧ 1 ≤ szN t ∧ szN t ≤ 258 := by
  unfold Tok.szTok szN
  unfold Tk.ok at h
  rw [if_pos h]
  unfold Tok.OkTok at h
  by_cases h0 : t.k = 0
  · rw [if_pos h0, if_pos h0]; omega
  · rw [if_neg h0, if_neg h0]; omega
theorem numL_ok : ∀ s : Fin 29, 2 ≤ Slo.tbL s.val ∧ Slo.tbL s.val + Slo.wideL s.val ≤ 259 := by decide +kernel
theorem numD_ok : ∀ s : Fin 52, 1 ≤ Slo.tbD s.val ∧ Slo.tbD s.val + Slo.wideD s.val ≤ 67108865 := by decide +kernel
theorem numR_in {ex tb wide : Nat → Nat} {L : List Bool} {t k n p : Nat} (h : numR ex tb wide L t k = .good n p) : tb k ≤ n ∧ n < tb k + wide k ∧ p = t + ex k ∧ p ≤ L.length ∧ n = tb k + peek (L.drop t) (ex k) ∧ peek (L.drop t) (ex k) < wide k := by
  unfold numR at h
  by_cases h1 : L.length < t + ex k
  · rw [if_pos h1] at h; exact NR.noConfusion h
  · rw [if_neg h1] at h
    by_cases h2 : peek (L.drop t) (ex k) < wide k
    · rw [if_pos h2] at h
      injection h with e1 e2
      omega
    · rw [if_neg h2] at h; exact NR.noConfusion h
theorem farR_ok {d : List Int} {L : List Bool} {n t p : Nat} {k : Tk} (hd : d.length = 52) (hn : 2 ≤ n ∧ n ≤ 258) (h : farR d L n t = .good k p) : k.ok ∧ p ≤ L.length := by
  unfold farR at h
  obtain ⟨⟨X, Y, E⟩, hX⟩ : ∃ q, nextL d 15 (L.drop t) = q := ⟨_, rfl⟩
  rw [hX] at h
  simp only at h
  by_cases hE : E = 0
  · subst hE
    rw [if_neg (by simp)] at h
    obtain ⟨h0, h1, -⟩ := next_lt hX
    cases hN : numD L (t + Y.toNat) X.toNat with
    | bad E => rw [hN] at h; exact TR.noConfusion h
    | good m q =>
      rw [hN] at h
      simp only at h
      injection h with e1 e2
      subst e1 e2
      obtain ⟨a1, a2, a3, a4, -⟩ := numR_in hN
      obtain ⟨b1, b2⟩ := numD_ok ⟨X.toNat, by omega⟩
      simp only at b1 b2
      refine ⟨?_, a4⟩
      exact .inr (.inl ⟨rfl, by show (2:Int) ≤ (n:Int); omega, by show (n:Int) ≤ 258; omega, by show (1:Int) ≤ (m:Int); omega, by show (m:Int) ≤ 67108864; omega, rfl, rfl⟩)
  · rw [if_pos hE] at h; exact TR.noConfusion h
theorem tokR_ok {M : List Int} {D : Option (List Int)} {L : List Bool} {t p : Nat} {k : Tk} (hM : M.length = 401) (hD : ∀ d, D = some d → d.length = 52) (htL : t ≤ L.length) (h : tokR M D L t = .good k p) : k.ok ∧ p ≤ L.length := by
  unfold tokR at h
  obtain ⟨⟨X, Y, E⟩, hX⟩ : ∃ q, nextL M 15 (L.drop t) = q := ⟨_, rfl⟩
  rw [hX] at h
  simp only at h
  by_cases hE : E = 0
  · subst hE
    rw [if_neg (by simp)] at h
    obtain ⟨h0, h1, y, hy, hy0, hyl⟩ := next_lt hX
    rw [List.length_drop] at hyl
    by_cases h2 : X < 256
    · rw [if_pos h2] at h
      injection h with e1 e2
      subst e1 e2
      refine ⟨?_, by omega⟩
      exact .inl ⟨rfl, h0, by show X ≤ 255; omega, rfl, rfl, rfl⟩
    · rw [if_neg h2] at h
      cases hN : numL L (t + Y.toNat) (Tok.ofS X).toNat with
      | bad E => rw [hN] at h; exact TR.noConfusion h
      | good n q =>
        rw [hN] at h
        simp only at h
        obtain ⟨a1, a2, a3, a4, -⟩ := numR_in hN
        have hk : (Tok.ofS X).toNat ≤ 28 := by
          by_cases h3 : X < 285
          · obtain ⟨-, -, -, ⟨k, e, hk⟩, -⟩ := of_copy (by omega) h3
            rw [e]; omega
          · obtain ⟨-, -, -, ⟨k, e, hk⟩, -⟩ := of_rep (show 285 ≤ X by omega) (by omega)
            rw [e]; omega
        obtain ⟨b1, b2⟩ := numL_ok ⟨(Tok.ofS X).toNat, by omega⟩
        simp only at b1 b2
        by_cases h3 : X < 285
        · rw [if_pos h3] at h
          cases D with
          | none => exact TR.noConfusion h
          | some d => exact farR_ok (hD d rfl) ⟨by omega, by omega⟩ h
        · rw [if_neg h3] at h
          injection h with e1 e2
          subst e1 e2
          refine ⟨?_, a4⟩
          exact .inr (.inr ⟨rfl, by show (2:Int) ≤ (n:Int); omega, by show (n:Int) ≤ 258; omega, by show (0:Int) ≤ (X - 285) / 29; omega, by show (X - 285) / 29 ≤ 3; omega, rfl, rfl⟩)
  · rw [if_pos hE] at h; exact TR.noConfusion h
inductive FR where
  | bad (E : Int)
  | good (l : List Tk)
/-- Behind the last token there are less than eight bits, all 0. -/
def endR (L : List Bool) (t : Nat) (a : List Tk) : FR := if 8 ≤ L.length - t ∨ peek (L.drop t) (L.length - t) ≠ 0 then .bad 4 else .good a
def loopR (M : List Int) (D : Option (List Int)) (L : List Bool) : Nat → Nat → Nat → List Tk → FR
  | 0, _, _, _ => .bad 0
  | f + 1, raw, t, a => if raw = 0 then endR L t a else match tokR M D L t with
    | .bad E => .bad E
    | .good k p => if raw < szN k then .bad 4 else loopR M D L f (raw - szN k) p (a ++ [k])
/-- The contract of a table's reading. -/
def Rdt (g t n : Nat) (s : List UInt8) (R : RdR) : Prop := ∀ W, IsReader W g s t → Calls Tryz.prog 80 #[.pointer (some ⟨g, 0, none⟩), .int .i64 n] W fun e w' => ∃ v E, e = .returned (.tuple #[v, .int .i64 E]) ∧ Keeps (fun k => k = g) W w' ∧ EndRd R W g s n v E w'
set_option maxHeartbeats 1600000 in
theorem tab27No (w : World) (gr g t n root : Nat) (s : List UInt8) (hp : w.cell? ⟨gr, 0, none⟩ = some (.pointer (some ⟨g, 0, none⟩))) (hr : IsReader w g s t) (E : Int) (hE : E ≠ 0) (C : Rdt g t n s (.bad E)) :
    Calls Tryz.prog 56 #[.pointer (some ⟨gr, 0, none⟩), .int .i64 n, .int .i64 root] w fun e w' => e = .panicked [flt27 (musE E)] ∧ Keeps (fun k => k = g) w w' := by
  have C1 := Lib.hid (C w hr)
  have CM := Lib.hid (fun W => m27No E hE W)
  clear C hr hE
  go_enter Tryz.func56, Tryz.ntmps56
  go_wp2_with fail
  refine C1.out.mono ?_; rintro e w1 ⟨v, E', rfl, hk, rfl, rfl⟩
  have HK := Lib.hid hk
  clear hk C1
  go_wp2_with fail
  refine (CM.out _).mono ?_; rintro e w2 ⟨rfl, h2⟩; rw [h2]; clear h2 w2
  go_wp2_with fail
  exact ⟨rfl, rfl, HK.out⟩
set_option maxHeartbeats 1600000 in
theorem tab27Ok (w : World) (gr g t n root : Nat) (s : List UInt8) (hp : w.cell? ⟨gr, 0, none⟩ = some (.pointer (some ⟨g, 0, none⟩))) (hr : IsReader w g s t) (r : List Run) (t' : Nat) (C : Rdt g t n s (.good r t')) (l : List Int) (hl : (unpack r n).2 = l) (hn : l.length = n) (h0 : l ≠ []) (hn2 : n ≤ 1000) (hr1 : 1 ≤ root) (hr15 : root ≤ 15) (hE : check l 15 = 0) :
    Calls Tryz.prog 56 #[.pointer (some ⟨gr, 0, none⟩), .int .i64 n, .int .i64 root] w fun e w' => ∃ gt, e = .returned (.pointer (some ⟨gt, 0, none⟩)) ∧ IsReader w' g s t' ∧ Keeps (fun k => k = g) w w' ∧ T27 w' (fun k => k < w.heap.size) gt l := by
  have C1 := Lib.hid (C w hr)
  have CM := Lib.hid m27Ok
  have CN := Lib.hid (fun W a c (h : IsInts W a l) => tNew a c l root 15 hr1 hr15 (by decide) hE W h)
  rw [hn] at CN
  obtain ⟨h16, hlen, -, -⟩ := check_16 hE
  have HLE := Lib.hid (show (∀ s, s < l.length → len l s ≤ 15) ∧ l.length ≤ 1024 from ⟨hlen, by omega⟩)
  have HR2 := Lib.hid (show 1 ≤ root ∧ root ≤ 15 ∧ 2 ^ root = 2 ^ root from ⟨hr1, hr15, rfl⟩)
  clear C hr hE h16 hlen hr1 hr15
  go_enter Tryz.func56, Tryz.ntmps56
  go_wp2_with fail
  refine C1.out.mono ?_; rintro e w1 ⟨v, E', rfl, hk, rfl, ho, hr1⟩
  rw [hl] at ho
  obtain ⟨gv, cv, hv, -, -, hi⟩ := own_slI ho (by rw [Ne, List.length_eq_zero_iff]; exact h0) (by omega)
  rw [hn] at hv
  subst hv
  have HK := Lib.hid hk
  have HR1 := Lib.hid hr1
  have C2 := Lib.hid (CN.out w1 (some ⟨gv, 0, none⟩) cv hi)
  have hws := hk.size
  clear hk C1 hr1 ho hi CN
  go_wp2_with fail
  refine (CM.out _).mono ?_; rintro e w2 ⟨rfl, h2⟩; rw [h2]; clear h2 w2
  go_wp2_with fail
  refine C2.out.mono ?_; rintro e w3 ⟨gt, gs, ao, N, C, short, long, hs, rfl, h1, h2, h3, h4, hb⟩
  have HE := Lib.hid (show IsReader w3 g s t' ∧ Keeps (fun k => k = g) w w3 ∧ T27 w3 (fun k => k < w.heap.size) gt l from
    ⟨HR1.out.kept hb, HK.out.trans (Keeps.of_below hb), w1.heap.size, gs, 2 ^ root, root, N, C, ao, short, long, hs, ⟨h1, by rw [hn] at *; exact h2⟩, ⟨HR2.out.1, HR2.out.2.1, rfl⟩, ⟨by omega, by omega, fun k hk => by have := (OwnS.lt h1.rl k hk).1; omega⟩, HLE.out⟩)
  clear h1 h2 h3 h4 hb C2 HR1 HK HR2 HLE
  go_wp2_with fail
  refine (CM.out _).mono ?_; rintro e w2 ⟨rfl, h2⟩; rw [h2]; clear h2 w2
  go_wp2_with fail
  go_ret
  exact ⟨gt, rfl, HE.out⟩
end Go.Proofs.YtmhjmoeeahepaaaGreat

/- Layer 27: reading: tokens one by one. -/
namespace Go.Proofs.YtmhjmoeeahepaaaGreat
open Go.ChangeShapes Go.WideShapes Go.ChangeAt Go.RowKit
set_option linter.unusedVariables false
set_option linter.unusedSimpArgs false
set_option maxRecDepth 100000
open Bits hiding packF pack_length
open RunsMath KraftMath CanonMath TurnMath Pm Two
def EndF (R : FR) (w0 : World) (g : Nat) (e : Ending) (w' : World) : Prop :=
  match R with
  | .bad E => e = .panicked [flt27 E] ∧ Keeps (fun k => k = g) w0 w'
  | .good l => ∃ v, e = .returned v ∧ OwnK w0.heap.size w' v l ∧ Keeps (fun k => k = g) w0 w'
theorem T27.mono {w : World} {S S' : Nat → Prop} {gt : Nat} {l : List Int} (h : T27 w S gt l) (hS : ∀ k, S' k → S k) : T27 w S' gt l := by
  obtain ⟨B, gs, R, root, N, C, ao, short, long, hs, h1, h3, ⟨h4, h5, h6⟩, h7⟩ := h
  exact ⟨B, gs, R, root, N, C, ao, short, long, hs, h1, h3, ⟨fun e => h4 (hS _ e), fun e => h5 (hS _ e), fun k hk e => h6 k hk (hS _ e)⟩, h7⟩
theorem reader_box {w w' : World} {g a gx : Nat} {s : List UInt8} {cs : Array Value} {t : TypeId} (h : IsReader w g s a) (hx : w.heap[gx]? = some (.cells cs t (0, 0))) (hns : ∀ (j : Nat) (x : Int), cs[j]? ≠ some (Value.int .u8 x)) (hne : gx ≠ g) (hK : Keeps (fun b => b = gx) w w') : IsReader w' g s a := by
  refine reader_away h (k := gx) (fun j x e => ?_) hne hK
  rw [cell_in hx j] at e
  exact hns j x e
def rdA (g : Nat) (a b : Value) : Array Value := #[.pointer (some ⟨g, 0, none⟩), a, b]
theorem rdA_no (g : Nat) (a b : Option Addr) : ∀ (j : Nat) (x : Int), (rdA g (.pointer a) (.pointer b))[j]? ≠ some (Value.int .u8 x) := by
  intro j x e
  unfold rdA at e
  rcases j with _ | _ | _ | j <;> simp at e
/-- How the reader stands with its first table. -/
structure Tb1 (w0 w : World) (g gr gm t : Nat) (s : List UInt8) (M : List Int) (dv : Value) (D : Option (List Int)) : Prop where
  rd : Rd27 w gr g gm dv M D
  at' : IsReader w g s t
  kp : Keeps (fun k => k = g) w0 w
  new : w0.heap.size ≤ gr
theorem tb1_start {w0 w1 w2 : World} {g gr gm t : Nat} {s : List UInt8} {M : List Int} (hgr : w0.heap.size = gr) (hg : g < w0.heap.size) (h1 : w0.alloc (.cells (rdA g (.pointer none) (.pointer none)) 99) = w1) (hr : IsReader w2 g s t) (hk : Keeps (fun k => k = g) w1 w2) (hT : T27 w2 (fun k => k < w1.heap.size) gm M) (lm : M.length = 401) :
    Tb1 w0 (w2.setCell ⟨gr, 1, none⟩ (.pointer (some ⟨gm, 0, none⟩))) g gr gm t s M (.pointer none) none := by
  have hne : gr ≠ g := by omega
  have hx1 : w1.heap[gr]? = some (.cells (rdA g (.pointer none) (.pointer none)) 99 (0, 0)) := by rw [← h1, ← hgr]; exact heap_alloc_new w0 _
  have hx2 := hk.heap hx1 hne
  have hs1 : gr < w1.heap.size := block_lt hx1
  have hkg : Keeps (fun j => j = gr) w2 (w2.setCell ⟨gr, 1, none⟩ (.pointer (some ⟨gm, 0, none⟩))) := (Keeps.refl (fun j => j = gr) w2).setCell (p := ⟨gr, 1, none⟩) (.inr rfl) _
  refine ⟨⟨block_set hx2 1 _, hne, (hT.mono (S' := feet27 g gr) (fun k hk => ?_)).keeps (hkg.mono (fun k _ e => .inr e)), rfl, lm⟩, reader_box hr hx2 (rdA_no g none none) hne hkg, ?_, by omega⟩
  · rcases hk with e | e
    · show k < w1.heap.size; omega
    · show k < w1.heap.size; omega
  · have hb : Below w0.heap.size w0 w1 := by rw [← h1]; exact (Below.refl _ w0).alloc (Nat.le_refl _) _
    exact ((show Keeps (fun k => k = g) w0 w1 from Keeps.of_below hb).trans hk).setCell (.inl (by show w0.heap.size ≤ gr; omega)) _
theorem tb1_go {w0 w w' : World} {g gr gm t t' : Nat} {s : List UInt8} {M : List Int} {dv : Value} {D : Option (List Int)} (h : Tb1 w0 w g gr gm t s M dv D) (hr : IsReader w' g s t') (hk : Keeps (fun k => k = g) w w') : Tb1 w0 w' g gr gm t' s M dv D :=
  ⟨h.rd.keeps hk, hr, h.kp.trans hk, h.new⟩
theorem tb1_far {w0 w w' : World} {g gr gm gd t t' : Nat} {s : List UInt8} {M d : List Int} (h : Tb1 w0 w g gr gm t s M (.pointer none) none) (hr : IsReader w' g s t') (hk : Keeps (fun k => k = g) w w') (hT : T27 w' (fun k => k < w.heap.size) gd d) (ld : d.length = 52) :
    Tb1 w0 (w'.setCell ⟨gr, 2, none⟩ (.pointer (some ⟨gd, 0, none⟩))) g gr gm t' s M (.pointer (some ⟨gd, 0, none⟩)) (some d) := by
  have h' := tb1_go h hr hk
  have hgl : g < w.heap.size := h.at'.lt
  have hgrl : gr < w.heap.size := block_lt h.rd.bk
  have hkg : Keeps (fun j => j = gr) w' (w'.setCell ⟨gr, 2, none⟩ (.pointer (some ⟨gd, 0, none⟩))) := (Keeps.refl (fun j => j = gr) w').setCell (p := ⟨gr, 2, none⟩) (.inr rfl) _
  refine ⟨⟨block_set h'.rd.bk 2 _, h'.rd.ne, h'.rd.tm.keeps (hkg.mono (fun k _ e => .inr e)), ⟨gd, rfl, (hT.mono (S' := feet27 g gr) (fun k hk => ?_)).keeps (hkg.mono (fun k _ e => .inr e)), ld⟩, h'.rd.lm⟩, reader_box hr (show w'.heap[gr]? = some (.cells (rdA g (.pointer (some ⟨gm, 0, none⟩)) (.pointer none)) 99 (0, 0)) from h'.rd.bk) (rdA_no g _ none) h'.rd.ne hkg, h'.kp.setCell (.inl h'.new) _, h'.new⟩
  rcases hk with e | e
  · show k < w.heap.size; omega
  · show k < w.heap.size; omega
set_option maxHeartbeats 3200000 in
theorem read27No1 (w0 : World) (g raw : Nat) (s : List UInt8) (hr : IsReader w0 g s 0) (E : Int) (hE : E ≠ 0) (C : Rdt g 0 401 s (.bad E)) :
    Calls Tryz.prog 32 #[.pointer (some ⟨g, 0, none⟩), .int .i64 raw] w0 (EndF (.bad (musE E)) w0 g) := by
  have HC := Lib.hid C
  have HR := Lib.hid hr
  clear C hr
  go_enter Tryz.func32, Tryz.ntmps32
  go_wp2_with fail
  have hb := (Below.refl w0.heap.size w0).alloc (Nat.le_refl _) (.cells (rdA g (.pointer none) (.pointer none)) 99)
  have HX := Lib.hid (heap_alloc_new w0 (.cells (rdA g (.pointer none) (.pointer none)) 99))
  have C1 := Lib.hid (tab27No _ w0.heap.size g 0 401 10 s (cell_in HX.out 0) (HR.out.kept hb) E hE HC.out)
  have HB := Lib.hid hb
  clear hb
  refine C1.out.mono ?_; rintro e w1 ⟨rfl, hk⟩
  have HK := Lib.hid ((show Keeps (fun k => k = g) w0 _ from Keeps.of_below HB.out).trans hk)
  clear hk C1 HB HX HR HC
  go_wp2_with fail
  exact ⟨rfl, rfl, HK.out⟩
set_option maxHeartbeats 3200000 in
theorem read27No2 (w0 : World) (g raw : Nat) (s : List UInt8) (hr : IsReader w0 g s 0) (r1 : List Run) (t1 : Nat) (M : List Int) (C1 : Rdt g 0 401 s (.good r1 t1)) (hM : (unpack r1 401).2 = M) (lm : M.length = 401) (hEM : check M 15 = 0) (hout : 8 * s.length < t1 + 1) :
    Calls Tryz.prog 32 #[.pointer (some ⟨g, 0, none⟩), .int .i64 raw] w0 (EndF (.bad 3) w0 g) := by
  have CF := Lib.hid (fun W gr (hp : W.cell? ⟨gr, 0, none⟩ = some (.pointer (some ⟨g, 0, none⟩))) (h : IsReader W g s t1) => show Calls Tryz.prog 57 #[.pointer (some ⟨gr, 0, none⟩), .int .i64 1] W _ from rdTakeOut W gr g t1 1 s hp h (by decide) hout)
  clear hout
  have HR := Lib.hid hr
  have hgl : g < w0.heap.size := hr.lt
  have CT := Lib.hid (fun W gr (hp : W.cell? ⟨gr, 0, none⟩ = some (.pointer (some ⟨g, 0, none⟩))) (h : IsReader W g s 0) => show Calls Tryz.prog 56 #[.pointer (some ⟨gr, 0, none⟩), .int .i64 401, .int .i64 10] W _ from tab27Ok W gr g 0 401 10 s hp h r1 t1 C1 M hM lm (fun e => by rw [e] at lm; simp at lm) (by decide) (by decide) (by decide) hEM)
  clear C1 hr hM hEM
  go_enter Tryz.func32, Tryz.ntmps32
  go_wp2_with fail
  have hb := (Below.refl w0.heap.size w0).alloc (Nat.le_refl _) (.cells (rdA g (.pointer none) (.pointer none)) 99)
  have hx := heap_alloc_new w0 (.cells (rdA g (.pointer none) (.pointer none)) 99)
  have C2 := Lib.hid (CT.out _ w0.heap.size (cell_in hx 0) (HR.out.kept hb))
  obtain ⟨w1, hw1⟩ : ∃ w1, w0.alloc (.cells (rdA g (.pointer none) (.pointer none)) 99) = w1 := ⟨_, rfl⟩
  change Calls Tryz.prog _ _ (w0.alloc (.cells (rdA g (.pointer none) (.pointer none)) 99)) _
  rw [hw1] at C2 ⊢
  obtain ⟨gr, hgr⟩ : ∃ gr, w0.heap.size = gr := ⟨_, rfl⟩
  rw [hgr] at C2 ⊢
  clear hb hx CT HR
  refine C2.out.mono ?_; rintro e w2 ⟨gm, rfl, hr2, hk2, hT2⟩
  have HT := Lib.hid (tb1_start hgr hgl hw1 hr2 hk2 hT2 lm)
  have hgr1 : w2.heap.size ≤ w2.heap.size := Nat.le_refl _
  have hgrl : gr < w2.heap.size := by
    have h1 := block_lt HT.out.rd.bk
    simpa using h1
  have hf1 : w2.frozen? ⟨gr, 1, none⟩ = false := by
    have hx1 : w1.heap[gr]? = some (.cells (rdA g (.pointer none) (.pointer none)) 99 (0, 0)) := by rw [← hw1, ← hgr]; exact heap_alloc_new w0 _
    exact free_in (hk2.heap hx1 (by omega)) 1
  have hc1 : w2.cell? ⟨gr, 1, none⟩ = some (.pointer none) := by
    have hx1 : w1.heap[gr]? = some (.cells (rdA g (.pointer none) (.pointer none)) 99 (0, 0)) := by rw [← hw1, ← hgr]; exact heap_alloc_new w0 _
    exact cell_in (hk2.heap hx1 (by omega)) 1
  clear hw1 hgr hgl hr2 hk2 hT2 C2
  go_wp2_with fail
  obtain ⟨w3, hw3⟩ : ∃ w3, w2.setCell ⟨gr, 1, none⟩ (.pointer (some ⟨gm, 0, none⟩)) = w3 := ⟨_, rfl⟩
  rw [hw3] at HT ⊢
  clear hw3 hf1 hc1 hgr1 hgrl
  refine (CF.out w3 gr HT.out.rd.c0 HT.out.at').mono ?_; rintro e w4 ⟨rfl, hk4⟩
  have HK := Lib.hid (HT.out.kp.trans hk4)
  clear hk4 HT CF
  go_wp2_with fail
  exact ⟨rfl, rfl, HK.out⟩
end Go.Proofs.YtmhjmoeeahepaaaGreat

/- Layer 27: reading: all tokens. -/
namespace Go.Proofs.YtmhjmoeeahepaaaGreat
open Go.ChangeShapes Go.WideShapes Go.ChangeAt Go.RowKit
set_option linter.unusedVariables false
set_option linter.unusedSimpArgs false
set_option maxRecDepth 100000
open Bits hiding packF pack_length
open RunsMath KraftMath CanonMath TurnMath Pm Two
set_option maxHeartbeats 6400000 in
theorem read27Near (w0 : World) (g raw : Nat) (s : List UInt8) (hr : IsReader w0 g s 0) (r1 : List Run) (t1 : Nat) (M : List Int) (C1 : Rdt g 0 401 s (.good r1 t1)) (hM : (unpack r1 401).2 = M) (lm : M.length = 401) (hEM : check M 15 = 0) (hin : t1 + 1 ≤ 8 * s.length) (hV : peek ((spread s).drop t1) 1 = 0) (hraw : raw ≤ 65536) (R : FR) (hL : loopR M none (spread s) (raw + 1) raw (t1 + 1) [] = R) :
    Calls Tryz.prog 32 #[.pointer (some ⟨g, 0, none⟩), .int .i64 raw] w0 (EndF R w0 g) := by
  have CF := Lib.hid (fun W gr (hp : W.cell? ⟨gr, 0, none⟩ = some (.pointer (some ⟨g, 0, none⟩))) (h : IsReader W g s t1) => show Calls Tryz.prog 57 #[.pointer (some ⟨gr, 0, none⟩), .int .i64 1] W _ from rdTakeIn W gr g t1 1 s hp h (by decide) hin)
  rw [hV] at CF
  have HL := Lib.hid hL
  clear hin hL hV
  have HR := Lib.hid hr
  have hgl : g < w0.heap.size := hr.lt
  have CT := Lib.hid (fun W gr (hp : W.cell? ⟨gr, 0, none⟩ = some (.pointer (some ⟨g, 0, none⟩))) (h : IsReader W g s 0) => show Calls Tryz.prog 56 #[.pointer (some ⟨gr, 0, none⟩), .int .i64 401, .int .i64 10] W _ from tab27Ok W gr g 0 401 10 s hp h r1 t1 C1 M hM lm (fun e => by rw [e] at lm; simp at lm) (by decide) (by decide) (by decide) hEM)
  clear C1 hr hM hEM
  go_enter Tryz.func32, Tryz.ntmps32
  go_wp2_with fail
  have hb := (Below.refl w0.heap.size w0).alloc (Nat.le_refl _) (.cells (rdA g (.pointer none) (.pointer none)) 99)
  have hx := heap_alloc_new w0 (.cells (rdA g (.pointer none) (.pointer none)) 99)
  have C2 := Lib.hid (CT.out _ w0.heap.size (cell_in hx 0) (HR.out.kept hb))
  obtain ⟨w1, hw1⟩ : ∃ w1, w0.alloc (.cells (rdA g (.pointer none) (.pointer none)) 99) = w1 := ⟨_, rfl⟩
  change Calls Tryz.prog _ _ (w0.alloc (.cells (rdA g (.pointer none) (.pointer none)) 99)) _
  rw [hw1] at C2 ⊢
  obtain ⟨gr, hgr⟩ : ∃ gr, w0.heap.size = gr := ⟨_, rfl⟩
  rw [hgr] at C2 ⊢
  clear hb hx CT HR
  refine C2.out.mono ?_; rintro e w2 ⟨gm, rfl, hr2, hk2, hT2⟩
  have HT := Lib.hid (tb1_start hgr hgl hw1 hr2 hk2 hT2 lm)
  have hgr1 : w2.heap.size ≤ w2.heap.size := Nat.le_refl _
  have hgrl : gr < w2.heap.size := by
    have h1 := block_lt HT.out.rd.bk
    simpa using h1
  have hf1 : w2.frozen? ⟨gr, 1, none⟩ = false := by
    have hx1 : w1.heap[gr]? = some (.cells (rdA g (.pointer none) (.pointer none)) 99 (0, 0)) := by rw [← hw1, ← hgr]; exact heap_alloc_new w0 _
    exact free_in (hk2.heap hx1 (by omega)) 1
  have hc1 : w2.cell? ⟨gr, 1, none⟩ = some (.pointer none) := by
    have hx1 : w1.heap[gr]? = some (.cells (rdA g (.pointer none) (.pointer none)) 99 (0, 0)) := by rw [← hw1, ← hgr]; exact heap_alloc_new w0 _
    exact cell_in (hk2.heap hx1 (by omega)) 1
  clear hw1 hgr hgl hr2 hk2 hT2 C2
  go_wp2_with fail
  obtain ⟨w3, hw3⟩ : ∃ w3, w2.setCell ⟨gr, 1, none⟩ (.pointer (some ⟨gm, 0, none⟩)) = w3 := ⟨_, rfl⟩
  rw [hw3] at HT ⊢
  clear hw3 hf1 hc1 hgr1 hgrl
  refine (CF.out w3 gr HT.out.rd.c0 HT.out.at').mono ?_; rintro e w4 ⟨rfl, hr4, hk4, hF4⟩
  have HT := Lib.hid (tb1_go HT.out hr4 hk4)
  clear hr4 hk4 hF4 CF
  obtain ⟨D0, hD0⟩ : ∃ D0, w4.heap.size = D0 := ⟨_, rfl⟩
  have hw0 : w0.heap.size ≤ D0 := by rw [← hD0]; exact HT.out.kp.size
  have HRS := Lib.hid (Rs.start HT.out.at')
  have HTK := Lib.hid (fun (W : World) t (h : Rs w4 W g s t) => tok27 W gr g gm (.pointer none) M none s t (HT.out.rd.keeps h.keep) h.rd)
  have HOK := Lib.hid (fun t p k (ht : t ≤ (spread s).length) (h : tokR M none (spread s) t = .good k p) => tokR_ok (M := M) (D := none) HT.out.rd.lm (fun d e => by cases e) ht h)
  have HKW := Lib.hid (fun (W : World) t (h : Rs w4 W g s t) => HT.out.kp.trans' h.keep (fun j _ e => e))
  have CM4 := Lib.hid (fun W => m27No 4 (by decide) W)
  have htl := HT.out.at'.le
  have HD0 := Lib.hid hD0
  have HSL := Lib.hid (spread_length s)
  clear HT hD0
  go_wp2_with fail
  go_loopw [1, 6] (fun rv ov wr => ∃ (m t f : Nat) (a : List Tk), rv = .int .i64 m ∧ m ≤ 65536 ∧ m < f ∧ a.length + m ≤ 65536 ∧ t ≤ (spread s).length ∧ Hid (loopR M none (spread s) f m t a = R) ∧ D0 ≤ wr.heap.size ∧ Hid (Rs w4 wr g s t) ∧ Hid (OwnK D0 wr ov a)) (fun rv _ _ => (intOf rv).toNat)
  case atStart => exact ⟨raw, _, _, [], rfl, hraw, Nat.lt_succ_self _, by simpa using hraw, htl, HL, by rw [HD0.out]; exact Nat.le_refl _, HRS, Lib.hid OwnS.nil⟩
  case round =>
    clear HL HRS htl hraw
    obtain ⟨m, t, f, a, rfl, hm, hf, ham, htl, hl, hDs, hs, ho⟩ := hrel
    obtain ⟨f, rfl⟩ : ∃ f', f = f' + 1 := ⟨f - 1, by omega⟩
    by_cases hm0 : m = 0
    · subst hm0
      have hR := hl.out
      unfold loopR at hR
      rw [if_pos rfl] at hR
      unfold endR at hR
      rw [HSL.out] at hR
      have CL := Lib.hid (rLeft wr g t s hs.out.rd)
      obtain ⟨q, hq⟩ : ∃ q, 8 * s.length - t = q := ⟨_, rfl⟩
      rw [hq] at CL hR
      have CP := Lib.hid (fun k (h8 : q < 8) => rPeek (wr.drewN k) g t q s (by have := hs.out.rd.kept (below_dn (Below.refl _ wr) k); exact this) (by omega))
      have HK := Lib.hid (fun k => (HKW.out wr t hs.out).drewN k)
      by_cases h8 : 8 ≤ q
      · rw [if_pos (.inl h8)] at hR
        have HRR := Lib.hid hR
        have h8i : decide ((8 : Int) ≤ (q : Int)) = true := by simp; omega
        clear hl hR CP hq hs ho HKW
        go_wp2_with fail
        refine CL.out.mono ?_; rintro e w5 ⟨rfl, k, rfl⟩
        go_wp2_with fail
        refine (CM4.out _).mono ?_; rintro e w6 ⟨rfl, h6⟩; rw [h6]; clear h6 w6
        go_wp2_with fail
        exact ⟨rfl, by rw [← HRR.out]; exact ⟨rfl, HK.out k⟩⟩
      · have h8i : decide ((8 : Int) ≤ (q : Int)) = false := by simp; omega
        have CPP := Lib.hid (fun k => CP.out k (by omega))
        obtain ⟨P, hP⟩ : ∃ P, peek ((spread s).drop t) q = P := ⟨_, rfl⟩
        rw [hP] at hR CPP
        have HO := Lib.hid (fun k => ho.out.kept (below_dn (Below.refl _ wr) k))
        by_cases hP0 : P = 0
        · subst hP0
          rw [if_neg (by omega)] at hR
          have HRR := Lib.hid hR
          clear hl hR CP hq hs ho HKW hP
          go_wp2_with fail
          refine CL.out.mono ?_; rintro e w5 ⟨rfl, k, rfl⟩
          go_wp2_with fail
          refine (CPP.out k).mono ?_; rintro e w6 ⟨rfl, k2, rfl⟩
          have HKE := Lib.hid (HK.out (k + k2))
          have HOE := Lib.hid ((HO.out k).kept (below_dn (Below.refl _ (wr.drewN k)) k2))
          go_wp2_with fail
          go_ret
          rw [← HRR.out]
          exact ⟨_, rfl, HOE.out.base hw0, HKE.out⟩
        · rw [if_pos (.inr hP0)] at hR
          have HRR := Lib.hid hR
          have hPb : ((P : Int) != 0) = true := by rw [bne_iff_ne]; omega
          clear hl hR CP hq hs ho HKW hP
          go_wp2_with fail
          refine CL.out.mono ?_; rintro e w5 ⟨rfl, k, rfl⟩
          go_wp2_with fail
          refine (CPP.out k).mono ?_; rintro e w6 ⟨rfl, k2, rfl⟩
          have HKE := Lib.hid (HK.out (k + k2))
          go_wp2_with fail
          refine (CM4.out _).mono ?_; rintro e w7 ⟨rfl, h7⟩; rw [h7]; clear h7 w7
          go_wp2_with fail
          exact ⟨rfl, by rw [← HRR.out]; exact ⟨rfl, HKE.out⟩⟩
    · have hmi : (0 : Int) < (m : Int) := by omega
      have hR := hl.out
      unfold loopR at hR
      rw [if_neg hm0] at hR
      have CT := Lib.hid (HTK.out wr t hs.out)
      cases hT : tokR M none (spread s) t with
      | bad E =>
        rw [hT] at CT hR
        simp only at hR
        have HRR := Lib.hid hR
        have HK := Lib.hid (HKW.out wr t hs.out)
        clear hl hR hs ho HTK HKW hT
        go_wp2_with fail
        refine CT.out.mono ?_; rintro e w5 ⟨rfl, hk5⟩
        have HKE := Lib.hid (HK.out.trans hk5)
        clear hk5 CT
        go_wp2_with fail
        exact ⟨rfl, by rw [← HRR.out]; exact ⟨rfl, HKE.out⟩⟩
      | good k p =>
        rw [hT] at CT hR
        simp only at hR
        obtain ⟨hko, hpl⟩ := HOK.out t p k htl hT
        obtain ⟨hz1, hz2, hz3⟩ := sz_ok hko
        have CS := Lib.hid (fun W => Tok.size_any k.k k.b k.l k.d k.r W)
        rw [hz1] at CS
        obtain ⟨z, hz⟩ : ∃ z, szN k = z := ⟨_, rfl⟩
        rw [hz] at CS hR hz2 hz3
        obtain ⟨tk, tb, tn, td, tr⟩ := k
        simp only at CS
        have HRR := Lib.hid hR
        obtain ⟨pv, cv, hov⟩ := OwnS.slice ho.out
        subst hov
        have hgl : g < wr.heap.size := hs.out.rd.lt
        have hgD : g < D0 := by rw [← HD0.out]; exact hs.out.far.1
        clear hl hR hT hko hz1 hz
        go_wp2_with fail
        refine CT.out.mono ?_; rintro e w5 ⟨rfl, hr5, hk5, hF5⟩
        have HS5 := Lib.hid (hs.out.step hr5 hk5 hF5)
        have HO5 := Lib.hid (own_keeps ho.out hk5 hgD)
        have hD5 : D0 ≤ w5.heap.size := Nat.le_trans hDs hk5.size
        clear hr5 hk5 hF5 CT hs ho hDs hgl
        simp only [tkV]
        have HBX := Lib.hid (box_new w5 tk tb tn td tr)
        have hb6 := (Below.refl w5.heap.size w5).alloc (Nat.le_refl _) (.cells #[.int .i64 tk, .int .i64 tb, .int .i64 tn, .int .i64 td, .int .i64 tr] 35)
        have HS6 := Lib.hid (HS5.out.below (hb6.mono (by rw [HD0.out]; exact hD5)))
        have HO6 := Lib.hid (OwnS.kept HO5.out hb6)
        have hD6 : D0 ≤ (w5.alloc (.cells #[.int .i64 tk, .int .i64 tb, .int .i64 tn, .int .i64 td, .int .i64 tr] 35)).heap.size := Nat.le_trans hD5 hb6.size
        have HHB := Lib.hid hb6
        clear hb6
        go_wp2_with fail
        obtain ⟨w6, hw6⟩ : ∃ w6, w5.alloc (.cells #[.int .i64 tk, .int .i64 tb, .int .i64 tn, .int .i64 td, .int .i64 tr] 35) = w6 := ⟨_, rfl⟩
        obtain ⟨gx, hgx⟩ : ∃ gx, w5.heap.size = gx := ⟨_, rfl⟩
        rw [hw6] at HBX HS6 HO6 hD6 ⊢
        rw [hgx] at HBX ⊢
        clear hw6 hgx HHB HS5 HO5 hD5
        refine (CS.out w6).mono ?_; rintro e w7 ⟨rfl, hb7⟩
        obtain ⟨⟨b0, b1, b2, b3, b4⟩, -, hxl⟩ := box_cell ((hb7.block gx (block_lt HBX.out)).trans HBX.out)
        have HS7 := Lib.hid (HS6.out.below (hb7.mono (by rw [HD0.out]; exact hD6)))
        have HO7 := Lib.hid (OwnS.kept HO6.out hb7)
        have hD7 : D0 ≤ w7.heap.size := Nat.le_trans hD6 hb7.size
        clear hb7 HS6 HO6 hD6 HBX CS
        by_cases hov : m < z
        · have hovi : (m : Int) < (z : Int) := by omega
          have hR := HRR.out
          rw [if_pos hov] at hR
          have HRE := Lib.hid hR
          have HKE := Lib.hid (HKW.out w7 p HS7.out)
          clear hR HRR HS7 HO7 HKW HTK
          go_wp2_with fail
          refine (CM4.out _).mono ?_; rintro e w8 ⟨rfl, h8⟩; rw [h8]; clear h8 w8
          go_wp2_with fail
          exact ⟨rfl, by rw [← HRE.out]; exact ⟨rfl, HKE.out⟩⟩
        · have hovi : ¬ (m : Int) < (z : Int) := by omega
          have hR := HRR.out
          rw [if_neg hov] at hR
          have HRE := Lib.hid hR
          obtain ⟨N, hN⟩ : ∃ N, m - z = N := ⟨_, rfl⟩
          rw [hN] at HRE
          have hwN : IntKind.i64.wrap ((m : Int) - (z : Int)) = (N : Int) := by rw [IntKind.wrap_i64]; omega
          have HLN := Lib.hid (show a.length ≤ 1099511627776 by omega)
          have HBZ := Lib.hid hD7
          have HSB := Lib.hid (fun W (h : Below D0 w7 W) => HS7.out.below (w' := W) (by rw [HD0.out]; exact h))
          clear hR HRR HKW HTK HS7
          go_wp2_with (at_builtin; refine app_tk rfl (.tmp 39) (.tmp 41) rfl _ _ _ a tk tb tn td tr rfl HO7.out w7.heap.size 1 rfl rfl HLN.out HBZ.out ?_; intro v2 w8 hown2 hb2 hgr2; have HO8 := Lib.hid hown2; have HS8 := Lib.hid (HSB.out w8 hb2); have hD8 := Nat.le_trans HBZ.out hb2.size; clear hown2 hb2 hgr2 b0 b1 b2 b3 b4 hxl)
          go_roundw
          case rel => exact ⟨N, p, f, _, rfl, by omega, by omega, by rw [List.length_append, List.length_singleton]; omega, hpl, HRE, hD8, HS8, HO8⟩
          case measure => simp [intOf]; omega
end Go.Proofs.YtmhjmoeeahepaaaGreat
