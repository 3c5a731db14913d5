/- Layer 20: LcpRows. -/
import Derived.Test.YtpkidedepcnoaaaX4
namespace Go.Proofs.Ytpkidedepcnoaaa
open Go.ChangeShapes Go.WideShapes Go.ChangeAt Go.RowKit
set_option linter.unusedVariables false
set_option linter.unusedSimpArgs false
set_option maxRecDepth 100000
set_option maxHeartbeats 6400000 in
theorem rows_walk (L : List UInt8) (a1 : Option Addr) (m1 c1 : Nat) (l : List Int) (x y : Int) (w : World) (hL : L.length ≤ 400) (hl : l.length = m1) (hm : m1 ≤ 400) (hi : IsInts w a1 l) :
    Calls Try.prog 5 #[.string (sM L), .slice a1 m1 c1, .agg #[.int .i64 x, .int .i64 y]] w fun e w' => e = .returned (.bool true) ∧ Below w.heap.size w w' := by
  have hS : (sM L).size = L.length := sM_size L
  have HA := Lib.hid (show IsL w (.slice a1 m1 c1) l from ⟨a1, c1, by rw [hl], hi⟩)
  have HLL := Lib.hid (show l.length ≤ 1000000 by omega)
  have DS := Lib.hid (fun W => dSort L W (by omega))
  have CR := Lib.hid (fun v a W (h : IsL W v (nI a)) (hs : IsSuf L a) => cRow L v a W h hs (by omega))
  have CN := Lib.hid (fun v m W (h : IsL W v m) (hm : m.length ≤ 1000000) (hN : ¬ SufI L m) => cRowNo L v m W h hm (by omega) hN)
  obtain ⟨C, hC⟩ : ∃ C, ofZ L x y = C := ⟨_, rfl⟩
  have CZ := Lib.hid (fun W => cLofZ L x y W (by omega) C hC)
  have DZ := Lib.hid (fun W => dOfZ L x y W (by omega) C hC)
  have DO := Lib.hid (fun i k W (hi : i ≤ L.length) (hk : k ≤ L.length) C (hC : comAt L i k = C) => dOfIn L i k W (by omega) hi hk C hC)
  obtain ⟨n, hn⟩ : ∃ n, L.length = n := ⟨_, rfl⟩
  have HN := Lib.hid hn
  rw [hn] at hS hL DO
  have d1 : decide ((400 : Int) < n) = false := decide_eq_false (by omega)
  have d2 : decide ((400 : Int) < m1) = false := decide_eq_false (by omega)
  have d3 : decide (400 < n) = false := decide_eq_false (by omega)
  have d4 : decide (400 < m1) = false := decide_eq_false (by omega)
  clear hC hn hl hi hm
  go_enter Try.func5, Try.ntmps5
  go_wp2_with fail
  obtain ⟨gx, hgx⟩ : ∃ g, w.heap.size = g := ⟨_, rfl⟩
  have hb0 := (Below.refl w.heap.size w).alloc (Nat.le_refl _) (.cells #[.int .i64 x, .int .i64 y] 30)
  have H2 := Lib.hid (show (w.alloc (.cells #[.int .i64 x, .int .i64 y] 30)).heap[gx]? = some (.cells #[.int .i64 x, .int .i64 y] 30 (0, 0)) by rw [← hgx]; exact heap_alloc_new w _)
  have HA := Lib.hid (HA.out.kept hb0)
  have HB := Lib.hid hb0
  have HGX := Lib.hid hgx
  rw [hgx] at HB
  try rw [hgx]
  clear hb0 hgx
  generalize w.alloc (.cells #[.int .i64 x, .int .i64 y] 30) = w0 at *
  refine (DS.out _).mono ?_; rintro e w1 ⟨v, b, rfl, ho, hs, hb⟩
  have HS := Lib.hid hs
  have HV := Lib.hid (ho.isL (by rw [nI_len, hs.len, HN.out]; omega))
  have HA := Lib.hid (HA.out.kept hb)
  have hsz := HB.out.size
  have H2 := Lib.hid ((hb.block _ (block_lt H2.out)).trans H2.out)
  have HB := Lib.hid (HB.out.trans (hb.mono (by have := HGX.out; omega)))
  clear ho hs hb DS hsz d1 d2 d3 d4
  go_wp2_with fail
  refine (CR.out _ _ _ HV.out HS.out).mono ?_; rintro e w2 ⟨u, rfl, hu, hb⟩
  have HV := Lib.hid (HV.out.kept hb)
  have HA := Lib.hid (HA.out.kept hb)
  have H2 := Lib.hid ((hb.block _ (block_lt H2.out)).trans H2.out)
  have HU := Lib.hid hu
  have hsz := HB.out.size
  have HB := Lib.hid (HB.out.trans (hb.mono (by have := HGX.out; omega)))
  have HBL := Lib.hid (show b.length = n by rw [HS.out.len, HN.out])
  clear hu hb CR hsz
  obtain ⟨va, vc, rfl, hva⟩ := HV.out
  obtain ⟨ua, uc, rfl, hua⟩ := HU.out
  have e1 : (nI b).length = n := by rw [nI_len, HBL.out]
  have e2 : (nI (rowL L b)).length = n := by rw [nI_len, rowL_len, HBL.out]
  have HVA := Lib.hid hva
  have HUA := Lib.hid hua
  have E1 := Lib.hid e1
  have E2 := Lib.hid e2
  rw [e1, e2]
  have f1 : ((n : Int) == (n : Int)) = true := by simp
  have f2 : ((n : Int) != (n : Int)) = false := by simp
  have c0 := cell_lit H2.out 0 _ rfl
  have c1' := cell_lit H2.out 1 _ rfl
  have l2 := block_lt H2.out
  have HC0 := Lib.hid (And.intro (show w2.drew.cell? ⟨gx, 0, none⟩ = some (.int .i64 x) from c0) (show w2.drew.cell? ⟨gx, 1, none⟩ = some (.int .i64 y) from c1'))
  have HL2 := Lib.hid l2
  clear hva hua HV HU e1 e2
  go_wp2_with fail
  have keep2 := Lib.hid (fun (V U : World) (h : V.cell? ⟨gx, 0, none⟩ = some (.int .i64 x) ∧ V.cell? ⟨gx, 1, none⟩ = some (.int .i64 y) ∧ Below w2.heap.size w2 V) (hb : Below V.heap.size V U) => (show U.cell? ⟨gx, 0, none⟩ = some (.int .i64 x) ∧ U.cell? ⟨gx, 1, none⟩ = some (.int .i64 y) ∧ Below w2.heap.size w2 U from ⟨(hb.cell (cell_block h.1)).trans h.1, (hb.cell (cell_block h.2.1)).trans h.2.1, h.2.2.trans (hb.mono h.2.2.size)⟩))
  have HS0 := Lib.hid (show w2.drew.cell? ⟨gx, 0, none⟩ = some (.int .i64 x) ∧ w2.drew.cell? ⟨gx, 1, none⟩ = some (.int .i64 y) ∧ Below w2.heap.size w2 w2.drew from ⟨HC0.out.1, HC0.out.2, (Below.refl _ _).drew⟩)
  have f3 : ((C : Int) != (C : Int)) = false := by simp
  have f4 : ((C : Int) == (C : Int)) = true := by simp
  go_region_held3 (fun V => V.cell? ⟨gx, 0, none⟩ = some (.int .i64 x) ∧ V.cell? ⟨gx, 1, none⟩ = some (.int .i64 y) ∧ Below w2.heap.size w2 V) (first | exact HS0.out | exact HS1.out | exact HS2.out) (first | (go_at_call 21; with_reducible refine (CZ.out _).mono ?_; rintro e wx ⟨rfl, hbx⟩; first | have HS2 := Lib.hid (keep2.out _ _ HS1.out hbx) | have HS1 := Lib.hid (keep2.out _ _ HS0.out hbx)) | (go_at_call 22; with_reducible refine (DZ.out _).mono ?_; rintro e wy ⟨rfl, hby⟩; first | have HS2 := Lib.hid (keep2.out _ _ HS1.out hby) | have HS1 := Lib.hid (keep2.out _ _ HS0.out hby)) | fail)
  simp only [Exit.then]
  rename_i hK hHeld
  refine hK _ _ ?_
  clear hK
  have HW := Lib.hid hHeld.2.2
  clear hHeld
  have HVA := Lib.hid (HVA.out.kept HW.out)
  have HUA := Lib.hid (HUA.out.kept HW.out)
  have HA := Lib.hid (HA.out.kept HW.out)
  have HB := Lib.hid (show Below w.heap.size w wy by rw [HGX.out]; exact HB.out.trans (HW.out.mono (by have := HB.out.size; have := HGX.out; omega)))
  clear HW HS0 HS1 HS2 HC0 HL2 c0 c1' l2 H2 keep2 f1 f2
  generalize wy = w3 at *
  go_wp2_with fail
  go_loopw [9] (fun iv wr => ∃ i : Nat, i ≤ n ∧ iv = .int .i64 i ∧ Hid (Below w3.heap.size w3 wr)) (fun iv _ => n - (intOf iv).toNat)
  case atStart => exact ⟨0, Nat.zero_le _, rfl, Lib.hid (Below.refl _ _)⟩
  case round =>
    obtain ⟨i, hin, rfl, HW⟩ := hrel
    by_cases hlt : i < n
    · have hii : (i : Int) < n := by omega
      obtain ⟨y2, rfl, hyb, hcy⟩ := (HUA.out.kept HW.out).at i (by rw [E2.out]; exact hlt)
      have cy := hcy i (by rw [E2.out]; exact hlt)
      have hg2 : (nI (rowL L b)).getD i 0 = (((rowL L b).getD i 0 : Nat) : Int) := mapN_getD _ i (by rw [rowL_len, HBL.out]; exact hlt)
      rw [hg2, rowL_getD L b i (by rw [HBL.out]; exact hlt)] at cy
      clear hcy hg2
      by_cases hi0 : i = 0
      · rw [if_pos hi0] at cy
        have hi1 : ¬ (0 : Int) < i := by omega
        have hi2 : ¬ 0 < i := by omega
        clear hi0
        go_wp2_with fail
        go_roundw
        case rel => exact ⟨i + 1, by omega, by go_num, HW⟩
        case measure => simp [intOf] <;> omega
      · rw [if_neg hi0] at cy
        obtain ⟨z, hz⟩ : ∃ z, i - 1 = z := ⟨_, rfl⟩
        have hzi : (i : Int) - 1 = (z : Int) := by omega
        have hzn : (z : Int) < n := by omega
        have hi1 : (0 : Int) < i := by omega
        have hz0 : (0 : Int) ≤ (z : Int) := by omega
        have hi00 : (0 : Int) ≤ (i : Int) := by omega
        have hzw : IntKind.i64.wrap ((i : Int) - 1) = (z : Int) := by rw [hzi]; exact IntWalk.i64_in _ (by omega)
        rw [hz] at cy
        obtain ⟨y3, rfl, hyb3, hcy3⟩ := (HVA.out.kept HW.out).at i (by rw [E1.out]; exact hlt)
        have cp := hcy3 z (by rw [E1.out]; omega)
        have cq := hcy3 i (by rw [E1.out]; exact hlt)
        have gp : (nI b).getD z 0 = ((b.getD z 0 : Nat) : Int) := mapN_getD b z (by rw [HBL.out]; omega)
        have gq : (nI b).getD i 0 = ((b.getD i 0 : Nat) : Int) := mapN_getD b i (by rw [HBL.out]; omega)
        rw [gp] at cp
        rw [gq] at cq
        have hp := HS.out.lt _ (getD_mem b z (by rw [HBL.out]; omega))
        have hq := HS.out.lt _ (getD_mem b i (by rw [HBL.out]; omega))
        obtain ⟨p, hpp⟩ : ∃ p, b.getD z 0 = p := ⟨_, rfl⟩
        obtain ⟨q, hqq⟩ : ∃ q, b.getD i 0 = q := ⟨_, rfl⟩
        rw [hpp] at cp hp cy
        rw [hqq] at cq hq cy
        obtain ⟨R, hR⟩ : ∃ R, comAt L p q = R := ⟨_, rfl⟩
        have DO1 := Lib.hid (fun W => DO.out p q W (by have := HN.out; omega) (by have := HN.out; omega) R hR)
        rw [hR] at cy
        have hRR : ((R : Int) == (R : Int)) = true := by simp
        have hRR2 : ((R : Int) != (R : Int)) = false := by simp
        have HCY := Lib.hid cy
        have hzw2 : IntKind.i64.wrap (z : Int) = (z : Int) := IntWalk.i64_in _ (by omega)
        clear hcy3 gp gq hp hq hpp hqq hR hz hzi
        have HS0 := Lib.hid (show wr.drew.cell? (y3.add z) = some (.int .i64 p) ∧ wr.drew.cell? (y3.add i) = some (.int .i64 q) ∧ Below wr.heap.size wr wr.drew from ⟨cp, cq, (Below.refl _ _).drew⟩)
        have keep3 := Lib.hid (fun (V U : World) (h : V.cell? (y3.add z) = some (.int .i64 p) ∧ V.cell? (y3.add i) = some (.int .i64 q) ∧ Below wr.heap.size wr V) (hb : Below V.heap.size V U) => (show U.cell? (y3.add z) = some (.int .i64 p) ∧ U.cell? (y3.add i) = some (.int .i64 q) ∧ Below wr.heap.size wr U from ⟨(hb.cell (cell_block h.1)).trans h.1, (hb.cell (cell_block h.2.1)).trans h.2.1, h.2.2.trans (hb.mono h.2.2.size)⟩))
        go_wp2_with fail
        go_region_held3 (fun V => V.cell? (y3.add z) = some (.int .i64 p) ∧ V.cell? (y3.add i) = some (.int .i64 q) ∧ Below wr.heap.size wr V) (first | exact HS0.out | exact HS1.out) (first | (go_at_call 22; with_reducible refine (DO1.out _).mono ?_; rintro e wx ⟨rfl, hbx⟩; have HS1 := Lib.hid (keep3.out _ _ HS0.out hbx)) | fail)
        simp only [Exit.then]
        rename_i hK h0i hHeld
        refine hK _ _ ?_
        clear hK h0i
        have HX := Lib.hid hHeld.2.2
        clear hHeld
        have cy2 := (HX.out.cell (p := y2.add i) (by rw [add_block]; exact hyb)).trans HCY.out
        have hyb2 : y2.block < wx.heap.size := Nat.lt_of_lt_of_le hyb HX.out.size
        have HW2 := Lib.hid (HW.out.trans (HX.out.mono HW.out.size))
        clear HS0 HS1 keep3 cp cq cy hyb3 hyb HW
        go_wp2_with fail
        go_roundw
        case rel => exact ⟨i + 1, by omega, by go_num, HW2⟩
        case measure => simp [intOf] <;> omega
    · obtain rfl : i = n := by omega
      have HA := Lib.hid (HA.out.kept HW.out)
      have HV := Lib.hid (show IsL wr (.slice va i vc) (nI b) from ⟨va, vc, by rw [E1.out], HVA.out.kept HW.out⟩)
      have HB := Lib.hid (HB.out.trans (HW.out.mono HB.out.size))
      by_cases hE : l = nI b
      · have CI := Lib.hid (intsV HA.out HV.out true (by simp [hE]))
        clear HW hE
        go_wp2_with fail
        refine CI.out.mono ?_; rintro e w5 ⟨rfl, hb5⟩
        have HB := Lib.hid (HB.out.trans (hb5.mono HB.out.size))
        go_wp2_with fail
        refine (awake20 _).mono ?_; rintro e w6 ⟨rfl, hb6⟩
        go_wp2_with fail
        go_ret
        exact ⟨rfl, HB.out.trans (hb6.mono HB.out.size)⟩
      · have CI := Lib.hid (intsV HA.out HV.out false (by simp [hE]))
        have hNo : ¬ SufI L l := fun ⟨a', ha', e⟩ => hE (by rw [e, ha'.unique HS.out]; rfl)
        have HNO := Lib.hid hNo
        clear HW hE hNo
        go_wp2_with fail
        refine CI.out.mono ?_; rintro e w5 ⟨rfl, hb5⟩
        have HA := Lib.hid (HA.out.kept hb5)
        have HB := Lib.hid (HB.out.trans (hb5.mono HB.out.size))
        clear CI hb5
        go_wp2_with fail
        refine (CN.out _ _ _ HA.out HLL.out HNO.out).mono ?_; rintro e w7 ⟨rfl, hb7⟩
        have HB := Lib.hid (HB.out.trans (hb7.mono HB.out.size))
        go_wp2_with fail
        refine (awake20 _).mono ?_; rintro e w6 ⟨rfl, hb6⟩
        go_wp2_with fail
        go_ret
        exact ⟨rfl, HB.out.trans (hb6.mono HB.out.size)⟩
end Go.Proofs.Ytpkidedepcnoaaa
