/- Layer 24: CountFreqs. -/
import Derived.Test.YtpmlfanckconnaaAF16
namespace Go.Proofs.Ytpmlfanckconnaa
open Go.ChangeShapes Go.WideShapes Go.ChangeAt Go.RowKit
set_option linter.unusedVariables false
set_option linter.unusedSimpArgs false
set_option maxRecDepth 100000
theorem intsEq {v u : Value} {l : List Int} {w : World} (h1 : IsL w v l) (h2 : IsL w u l) : Calls Try.prog 14 #[v, u] w fun e w' => e = .returned (.bool true) ∧ Below w.heap.size w w' := (intsL h1 h2 true (by simp)).mono (by rintro e w' ⟨rfl, k, rfl⟩; exact ⟨rfl, below_dn (Below.refl _ _) _⟩)
set_option maxHeartbeats 3200000 in
theorem freqs_walk (a b b2 : Option Addr) (c k k2 n m m2 : Nat) (l : List Tk) (r1 r2 : List Int) (w : World) (hl : l.length = n) (h1 : r1.length = m) (h2 : r2.length = m2) (ht : IsTk w a l) (hi1 : IsInts w b r1) (hi2 : IsInts w b2 r2) (hn : n ≤ 300) (hm : m ≤ 500) (hm2 : m2 ≤ 500) :
    Calls Try.prog 6 #[.slice a n c, .slice b m k, .slice b2 m2 k2] w fun e w' => e = .returned (.bool true) ∧ Below w.heap.size w w' := by
  have CC := Lib.hid (fun W h => cFreqs a c n l W hl h hn)
  have CD := Lib.hid (fun W h => dFreqs a c n l W hl h hn)
  have PC := Lib.hid (fun W g1 g2 => cPrices b b2 m m2 k k2 r1 r2 W h1 h2 g1 g2 (by omega) (by omega))
  have PD := Lib.hid (fun W g1 g2 => dPrices b b2 m m2 k k2 r1 r2 W h1 h2 g1 g2 (by omega) (by omega))
  have HT := Lib.hid ht
  have H1 := Lib.hid hi1
  have H2 := Lib.hid hi2
  have q1 : ¬ (300 : Int) < n := by omega
  have q2 : ¬ (500 : Int) < m := by omega
  have q3 : ¬ (500 : Int) < m2 := by omega
  have q1d : decide ((300 : Int) < n) = false := decide_eq_false q1
  have q2d : decide ((500 : Int) < m) = false := decide_eq_false q2
  have q3d : decide ((500 : Int) < m2) = false := decide_eq_false q3
  have q1n : decide (300 < n) = false := decide_eq_false (by omega)
  have q2n : decide (500 < m) = false := decide_eq_false (by omega)
  have q3n : decide (500 < m2) = false := decide_eq_false (by omega)
  obtain ⟨M, hM⟩ : ∃ M, (frA l).1 = M := ⟨_, rfl⟩
  obtain ⟨D, hD⟩ : ∃ D, (frA l).2.1 = D := ⟨_, rfl⟩
  obtain ⟨E, hE⟩ : ∃ E, (frA l).2.2 = E := ⟨_, rfl⟩
  rw [hM, hD, hE] at CC CD
  clear ht hi1 hi2 hl h1 h2 hM hD hE q1 q2 q3
  go_enter Try.func6, Try.ntmps6
  go_wp2_with fail
  refine (CC.out w HT.out).mono ?_; rintro e w1 ⟨v1, v2, rfl, hv1, hv2, hb⟩
  have HV1 := Lib.hid hv1
  have HV2 := Lib.hid hv2
  have HB := Lib.hid hb
  clear hv1 hv2 hb CC
  go_wp2_with fail
  refine (CD.out w1 (HT.out.kept HB.out)).mono ?_; rintro e w2 ⟨u1, u2, rfl, hu1, hu2, hb⟩
  have HU1 := Lib.hid hu1
  have HU2 := Lib.hid hu2
  have HV1 := Lib.hid (HV1.out.kept hb)
  have HV2 := Lib.hid (HV2.out.kept hb)
  have HB := Lib.hid (HB.out.trans (hb.mono HB.out.size))
  clear hu1 hu2 hb CD
  go_wp2_with fail
  refine (PC.out w2 (H1.out.kept HB.out) (H2.out.kept HB.out)).mono ?_; rintro e w3 ⟨p1, p2, rfl, hp1, hp2, hb⟩
  obtain ⟨pa, pc, rfl, hpa⟩ := hp1
  obtain ⟨qa, qc, rfl, hqa⟩ := hp2
  rw [prL_len, prL_len]
  have HBA := Lib.hid ((Below.refl w3.heap.size w3).alloc (Nat.le_refl _) (.cells #[.slice pa 401 pc, .slice qa 52 qc] 48))
  have HQ1 := Lib.hid (heap_alloc_new w3 (.cells #[.slice pa 401 pc, .slice qa 52 qc] 48))
  have HBX := Lib.hid (hb.trans (HBA.out.mono hb.size))
  have HP1 := Lib.hid (show IsL _ (.slice pa 401 pc) (prL r1 401) from ⟨pa, pc, by rw [prL_len], hpa.kept HBA.out⟩)
  have HP2 := Lib.hid (show IsL _ (.slice qa 52 qc) (prL r2 52) from ⟨qa, qc, by rw [prL_len], hqa.kept HBA.out⟩)
  have HU1 := Lib.hid (HU1.out.kept HBX.out)
  have HU2 := Lib.hid (HU2.out.kept HBX.out)
  have HV1 := Lib.hid (HV1.out.kept HBX.out)
  have HV2 := Lib.hid (HV2.out.kept HBX.out)
  have HB := Lib.hid (HB.out.trans (HBX.out.mono HB.out.size))
  clear hpa hqa hb PC HBA HBX
  obtain ⟨g1, hg1⟩ : ∃ g, w3.heap.size = g := ⟨_, rfl⟩
  rw [hg1] at HQ1
  go_wp2_with fail
  refine (PD.out _ (H1.out.kept HB.out) (H2.out.kept HB.out)).mono ?_; rintro e w4 ⟨s1, s2, rfl, hs1, hs2, hb⟩
  obtain ⟨sa, sc, rfl, hsa⟩ := hs1
  obtain ⟨ta, tc, rfl, hta⟩ := hs2
  rw [prL_len, prL_len]
  have HBA := Lib.hid ((Below.refl w4.heap.size w4).alloc (Nat.le_refl _) (.cells #[.slice sa 401 sc, .slice ta 52 tc] 48))
  have hQ2 := heap_alloc_new w4 (.cells #[.slice sa 401 sc, .slice ta 52 tc] 48)
  have HBX := Lib.hid (hb.trans (HBA.out.mono hb.size))
  have hQ1 := (HBX.out.block _ (block_lt HQ1.out)).trans HQ1.out
  have HP1 := Lib.hid (HP1.out.kept HBX.out)
  have HP2 := Lib.hid (HP2.out.kept HBX.out)
  have HS1 := Lib.hid (show IsL _ (.slice sa 401 sc) (prL r1 401) from ⟨sa, sc, by rw [prL_len], hsa.kept HBA.out⟩)
  have HS2 := Lib.hid (show IsL _ (.slice ta 52 tc) (prL r2 52) from ⟨ta, tc, by rw [prL_len], hta.kept HBA.out⟩)
  have HU1 := Lib.hid (HU1.out.kept HBX.out)
  have HU2 := Lib.hid (HU2.out.kept HBX.out)
  have HV1 := Lib.hid (HV1.out.kept HBX.out)
  have HV2 := Lib.hid (HV2.out.kept HBX.out)
  have HB := Lib.hid (HB.out.trans (HBX.out.mono HB.out.size))
  have d0 := cell_lit hQ1 0 (.slice pa 401 pc) rfl
  have d1 := cell_lit hQ1 1 (.slice qa 52 qc) rfl
  have t0 := cell_lit hQ2 0 (.slice sa 401 sc) rfl
  have t1 := cell_lit hQ2 1 (.slice ta 52 tc) rfl
  clear hsa hta hb PD HBA HBX hQ1 hQ2 HQ1
  go_wp2_with fail
  refine (intsEq HV1.out HU1.out).mono ?_; rintro e x0 ⟨rfl, hb⟩
  have d0 := (hb.cell (cell_block d0)).trans d0
  have d1 := (hb.cell (cell_block d1)).trans d1
  have t0 := (hb.cell (cell_block t0)).trans t0
  have t1 := (hb.cell (cell_block t1)).trans t1
  have HV2 := Lib.hid (HV2.out.kept hb)
  have HU2 := Lib.hid (HU2.out.kept hb)
  have HP1 := Lib.hid (HP1.out.kept hb)
  have HS1 := Lib.hid (HS1.out.kept hb)
  have HP2 := Lib.hid (HP2.out.kept hb)
  have HS2 := Lib.hid (HS2.out.kept hb)
  have HB := Lib.hid (HB.out.trans (hb.mono HB.out.size))
  clear hb
  go_wp2_with fail
  refine (intsEq HV2.out HU2.out).mono ?_; rintro e x1 ⟨rfl, hb⟩
  have d0 := (hb.cell (cell_block d0)).trans d0
  have d1 := (hb.cell (cell_block d1)).trans d1
  have t0 := (hb.cell (cell_block t0)).trans t0
  have t1 := (hb.cell (cell_block t1)).trans t1
  have HV2 := Lib.hid (HV2.out.kept hb)
  have HU2 := Lib.hid (HU2.out.kept hb)
  have HP1 := Lib.hid (HP1.out.kept hb)
  have HS1 := Lib.hid (HS1.out.kept hb)
  have HP2 := Lib.hid (HP2.out.kept hb)
  have HS2 := Lib.hid (HS2.out.kept hb)
  have HB := Lib.hid (HB.out.trans (hb.mono HB.out.size))
  clear hb
  go_wp2_with fail
  refine (intsEq HP1.out HS1.out).mono ?_; rintro e x2 ⟨rfl, hb⟩
  have d0 := (hb.cell (cell_block d0)).trans d0
  have d1 := (hb.cell (cell_block d1)).trans d1
  have t0 := (hb.cell (cell_block t0)).trans t0
  have t1 := (hb.cell (cell_block t1)).trans t1
  have HV2 := Lib.hid (HV2.out.kept hb)
  have HU2 := Lib.hid (HU2.out.kept hb)
  have HP1 := Lib.hid (HP1.out.kept hb)
  have HS1 := Lib.hid (HS1.out.kept hb)
  have HP2 := Lib.hid (HP2.out.kept hb)
  have HS2 := Lib.hid (HS2.out.kept hb)
  have HB := Lib.hid (HB.out.trans (hb.mono HB.out.size))
  clear hb
  go_wp2_with fail
  refine (intsEq HP2.out HS2.out).mono ?_; rintro e x3 ⟨rfl, hb⟩
  have d0 := (hb.cell (cell_block d0)).trans d0
  have d1 := (hb.cell (cell_block d1)).trans d1
  have t0 := (hb.cell (cell_block t0)).trans t0
  have t1 := (hb.cell (cell_block t1)).trans t1
  have HV2 := Lib.hid (HV2.out.kept hb)
  have HU2 := Lib.hid (HU2.out.kept hb)
  have HP1 := Lib.hid (HP1.out.kept hb)
  have HS1 := Lib.hid (HS1.out.kept hb)
  have HP2 := Lib.hid (HP2.out.kept hb)
  have HS2 := Lib.hid (HS2.out.kept hb)
  have HB := Lib.hid (HB.out.trans (hb.mono HB.out.size))
  clear hb
  go_wp2_with fail
  refine (awake24 _).mono ?_; rintro e x9 ⟨rfl, hb⟩
  have HB := Lib.hid (HB.out.trans (hb.mono HB.out.size))
  go_wp2_with fail
  go_ret
  exact ⟨rfl, HB.out⟩
end Go.Proofs.Ytpmlfanckconnaa
