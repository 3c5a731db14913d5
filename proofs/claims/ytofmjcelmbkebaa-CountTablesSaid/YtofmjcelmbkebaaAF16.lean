/- Layer 24: the chapter's example. -/
import Derived.Test.YtofmjcelmbkebaaAF15
namespace Go.Proofs.Ytofmjcelmbkebaa
open Go.ChangeShapes Go.WideShapes Go.ChangeAt Go.RowKit
set_option linter.unusedVariables false
set_option linter.unusedSimpArgs false
set_option maxRecDepth 100000
theorem isTk3 (w : World) : IsTk (w.alloc (.cells #[.int .i64 0, .int .i64 97, .int .i64 0, .int .i64 0, .int .i64 0, .int .i64 0, .int .i64 97, .int .i64 0, .int .i64 0, .int .i64 0, .int .i64 0, .int .i64 97, .int .i64 0, .int .i64 0, .int .i64 0] 54)) (some ⟨w.heap.size, 0, none⟩) threeA := by
  have hq := heap_alloc_new w (.cells #[.int .i64 0, .int .i64 97, .int .i64 0, .int .i64 0, .int .i64 0, .int .i64 0, .int .i64 97, .int .i64 0, .int .i64 0, .int .i64 0, .int .i64 0, .int .i64 97, .int .i64 0, .int .i64 0, .int .i64 0] 54)
  refine .inr ⟨_, rfl, fun i t ht => ?_⟩
  match i, ht with
  | 0, ht =>
    obtain rfl : tkA = t := by simpa [threeA] using ht
    exact ⟨cell_lit hq 0 _ rfl, cell_lit hq 1 _ rfl, cell_lit hq 2 _ rfl, cell_lit hq 3 _ rfl, cell_lit hq 4 _ rfl⟩
  | 1, ht =>
    obtain rfl : tkA = t := by simpa [threeA] using ht
    exact ⟨cell_lit hq 5 _ rfl, cell_lit hq 6 _ rfl, cell_lit hq 7 _ rfl, cell_lit hq 8 _ rfl, cell_lit hq 9 _ rfl⟩
  | 2, ht =>
    obtain rfl : tkA = t := by simpa [threeA] using ht
    exact ⟨cell_lit hq 10 _ rfl, cell_lit hq 11 _ rfl, cell_lit hq 12 _ rfl, cell_lit hq 13 _ rfl, cell_lit hq 14 _ rfl⟩
  | n + 3, ht => simp [threeA] at ht
def badA : List Tk := [⟨9, 0, 0, 0, 0⟩]
theorem frA_badA : frA badA = ([], [], 10) := by
  unfold frA
  rw [if_neg (by decide)]
theorem isTk1 (w : World) : IsTk (w.alloc (.cells #[.int .i64 9, .int .i64 0, .int .i64 0, .int .i64 0, .int .i64 0] 54)) (some ⟨w.heap.size, 0, none⟩) badA := by
  have hq := heap_alloc_new w (.cells #[.int .i64 9, .int .i64 0, .int .i64 0, .int .i64 0, .int .i64 0] 54)
  refine .inr ⟨_, rfl, fun i t ht => ?_⟩
  match i, ht with
  | 0, ht =>
    obtain rfl : (⟨9, 0, 0, 0, 0⟩ : Tk) = t := by simpa [badA] using ht
    exact ⟨cell_lit hq 0 _ rfl, cell_lit hq 1 _ rfl, cell_lit hq 2 _ rfl, cell_lit hq 3 _ rfl, cell_lit hq 4 _ rfl⟩
  | n + 1, ht => simp [badA] at ht
theorem add_lit (x : Addr) (n : Nat) (h : n ≠ 0) : x.add n = ⟨x.block, x.off + n, none⟩ := by unfold Addr.add; simp [h]
theorem add_nought (x : Addr) : x.add 0 = x := by simp [Addr.add]
def mA : List Int := lnL ((List.replicate 401 0).set 97 1) 401
theorem mA_len : mA.length = 401 := lnL_len _ _
theorem mA_97 : mA.getD 97 0 = 1 := by decide +kernel
theorem pA_97 : prA mA 97 = 1 ∧ prA mA 98 = 16 ∧ prA [] 0 = 16 := by decide +kernel
set_option maxHeartbeats 3200000 in
theorem awake24 (w : World) : Calls Try.prog 16 #[] w fun e w' => e = .returned (.bool true) ∧ Below w.heap.size w w' := by
  have CT := Lib.hid (cTables _ 3 _ (isTk3 w))
  have CF := Lib.hid (fun W h => cFreqs (some ⟨w.heap.size, 0, none⟩) 3 3 threeA W rfl h (by decide))
  rw [frA_three, tl_three.1, tl_three.2] at CF
  have CX := Lib.hid (fun W => cFreqs _ 1 1 badA _ rfl (isTk1 W) (by decide))
  rw [frA_badA] at CX
  have HT := Lib.hid (isTk3 w)
  have HB := Lib.hid ((Below.refl w.heap.size w).alloc (Nat.le_refl _) (.cells #[.int .i64 0, .int .i64 97, .int .i64 0, .int .i64 0, .int .i64 0, .int .i64 0, .int .i64 97, .int .i64 0, .int .i64 0, .int .i64 0, .int .i64 0, .int .i64 97, .int .i64 0, .int .i64 0, .int .i64 0] 54))
  go_enter Try.func16, Try.ntmps16
  go_wp2_with fail
  refine CT.out.mono ?_; rintro e w1 ⟨u, v, rfl, hu, hv, hb⟩
  rw [show lnL ((List.replicate 401 0).set 97 1) 401 = mA from rfl] at hu
  obtain ⟨ua, uc, rfl, hui⟩ := hu.isL (by rw [mA_len]; decide)
  obtain ⟨va, vc, rfl, hvi⟩ := hv.isL (by rw [lnL_len]; decide)
  rw [mA_len, lnL_len]
  have HU := Lib.hid hui
  have HT := Lib.hid (HT.out.kept hb)
  have HB := Lib.hid (HB.out.trans (hb.mono HB.out.size))
  clear hu hv hb hui hvi CT
  go_wp2_with fail
  refine (CF.out _ HT.out).mono ?_; rintro e w2 ⟨f, gv, rfl, hf, hg, hb⟩
  obtain ⟨fa, fc, rfl, hfi⟩ := hf
  obtain ⟨ga, gc, rfl, hgi⟩ := hg
  rw [show ((List.replicate 401 (0 : Int)).set 97 3).length = 401 by simp, show (List.replicate 52 (0 : Int)).length = 52 by simp]
  have HF := Lib.hid hfi
  have HU := Lib.hid (HU.out.kept hb)
  have HB := Lib.hid (HB.out.trans (hb.mono HB.out.size))
  clear hb hfi hgi CF HT
  have HBX := Lib.hid ((Below.refl w2.heap.size w2).alloc (Nat.le_refl _) (.cells #[.int .i64 9, .int .i64 0, .int .i64 0, .int .i64 0, .int .i64 0] 54))
  go_wp2_with fail
  refine (CX.out _).mono ?_; rintro e w3 ⟨xv, yv, rfl, -, -, hb⟩
  have HB3 := Lib.hid (HBX.out.trans (hb.mono HBX.out.size))
  have HF := Lib.hid (HF.out.kept HB3.out)
  have HU := Lib.hid (HU.out.kept HB3.out)
  have HB := Lib.hid (HB.out.trans (HB3.out.mono HB.out.size))
  clear hb HBX CX HB3
  go_wp2_with fail
  have CP := Lib.hid (fun W h => cPrices ua none 401 0 uc 0 mA [] W mA_len rfl h ⟨by simp, .inl rfl⟩ (by decide) (by decide))
  refine (CP.out _ HU.out).mono ?_; rintro e w4 ⟨p1, p2, rfl, hp1, hp2, hb⟩
  obtain ⟨pa, pc, rfl, hpi⟩ := hp1
  obtain ⟨qa, qc, rfl, hqi⟩ := hp2
  rw [prL_len, prL_len]
  have HU := Lib.hid (HU.out.kept hb)
  have HF := Lib.hid (HF.out.kept hb)
  have HB := Lib.hid (HB.out.trans (hb.mono HB.out.size))
  have HBA := Lib.hid ((Below.refl w4.heap.size w4).alloc (Nat.le_refl _) (.cells #[.slice pa 401 pc, .slice qa 52 qc] 56))
  have hqq := heap_alloc_new w4 (.cells #[.slice pa 401 pc, .slice qa 52 qc] 56)
  have HP := Lib.hid (hpi.kept HBA.out)
  have HQ := Lib.hid (hqi.kept HBA.out)
  have HU := Lib.hid (HU.out.kept HBA.out)
  have HF := Lib.hid (HF.out.kept HBA.out)
  have HB := Lib.hid (HB.out.trans (HBA.out.mono HB.out.size))
  have CK := Lib.hid (fun W h1 h2 => dCheck pa qa pc qc mA [] W h1 h2)
  obtain ⟨xm, rfl, lm, hm⟩ := HU.out.at 97 (by rw [mA_len]; decide)
  obtain ⟨xf, rfl, lf, hf⟩ := HF.out.at 97 (by simp)
  obtain ⟨xp, rfl, lp, hp⟩ := HP.out.at 97 (by rw [prL_len]; decide)
  obtain ⟨xq, rfl, lq, hq⟩ := HQ.out.at 0 (by rw [prL_len]; decide)
  have m97 := hm 97 (by rw [mA_len]; decide)
  have f97 := hf 97 (by simp)
  have p97 := hp 97 (by rw [prL_len]; decide)
  have p98 := hp 98 (by rw [prL_len]; decide)
  have q0 := hq 0 (by rw [prL_len]; decide)
  rw [mA_97] at m97
  rw [show ((List.replicate 401 (0 : Int)).set 97 3).getD 97 0 = 3 by decide +kernel] at f97
  rw [prL_get _ _ _ (by decide), pA_97.1] at p97
  rw [prL_get _ _ _ (by decide), pA_97.2.1] at p98
  rw [prL_get _ _ _ (by decide), pA_97.2.2] at q0
  rw [add_lit _ _ (by decide)] at m97 f97 p97 p98
  rw [add_nought] at q0
  have d0 := cell_lit hqq 0 (.slice (some xp) 401 pc) rfl
  have d1 := cell_lit hqq 1 (.slice (some xq) 52 qc) rfl
  clear hm hf hp hq hb CP HBA hqq hpi hqi
  go_wp2_with fail
  refine (CK.out _ HP.out HQ.out).mono ?_; rintro e w5 ⟨rfl, hb⟩
  have d0 := (hb.cell (cell_block d0)).trans d0
  have d1 := (hb.cell (cell_block d1)).trans d1
  have p97 := (hb.cell (cell_block p97)).trans p97
  have p98 := (hb.cell (cell_block p98)).trans p98
  have q0 := (hb.cell (cell_block q0)).trans q0
  have HB := Lib.hid (HB.out.trans (hb.mono HB.out.size))
  clear hb
  go_wp2_with fail
  go_ret
  exact ⟨rfl, HB.out⟩
end Go.Proofs.Ytofmjcelmbkebaa
