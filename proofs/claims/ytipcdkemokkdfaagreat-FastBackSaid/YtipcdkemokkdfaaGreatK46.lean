import Derived.Test.YtipcdkemokkdfaaGreatK45
import Derived.Test.YtipcdkemokkdfaaGreatK44
/- Layer 30: Block, of what is none. -/
namespace Go.Proofs.YtipcdkemokkdfaaGreat
open Go.ChangeShapes Go.WideShapes Go.ChangeAt Go.RowKit
open Tok (OkTok chk chk_no chk_yes)
set_option linter.unusedVariables false
set_option linter.unusedSimpArgs false
set_option maxRecDepth 100000
set_option maxHeartbeats 1600000 in
theorem fBlockBad (w : World) (p : Addr) (q : Q4) (s : ByteArray) (raw : Nat) (hr1 : 1 ≤ raw) (hr2 : raw ≤ 65536) (F : Int) (hF : F ≠ 0)
    (C : ∀ W, Calls Tryz.prog 18 #[.string s, .int .i64 raw] W fun e w' => e = .returned (.tuple #[.slice none 0 0, .int .i64 F]) ∧ Below W.heap.size W w') :
    Calls Tryz.prog 10 #[.pointer (some p), q4V q, .string s, .int .i64 raw] w fun e w' => e = .returned (.tuple #[.string (sOf []), q4V z4, .int .i64 F]) ∧ Below w.heap.size w w' := by
  have HC := Lib.hid C
  have n1 : ¬ (raw : Int) < 1 := by omega
  have n2 : ¬ 65536 < (raw : Int) := by omega
  have hF0 : (F != 0) = true := by rw [bne_iff_ne]; exact hF
  show Calls Tryz.prog 10 #[.pointer (some p), .agg #[.int .i64 q.a, .int .i64 q.b, .int .i64 q.c, .int .i64 q.d], .string s, .int .i64 raw] w _
  clear C hF
  go_enter Tryz.func10, Tryz.ntmps10
  go_wp2_with fail
  obtain ⟨e5, e9, hb0⟩ := two_boxes w (.cells #[.int .i64 q.a, .int .i64 q.b, .int .i64 q.c, .int .i64 q.d] 23) (.cells #[.int .i64 0, .int .i64 0, .int .i64 0, .int .i64 0] 23)
  obtain ⟨w0, hw0⟩ : ∃ w0, (w.alloc (.cells #[.int .i64 q.a, .int .i64 q.b, .int .i64 q.c, .int .i64 q.d] 23)).alloc (.cells #[.int .i64 0, .int .i64 0, .int .i64 0, .int .i64 0] 23) = w0 := ⟨_, rfl⟩
  rw [hw0] at e9 hb0 ⊢
  obtain ⟨g9, hg9⟩ : ∃ g9, w.heap.size + 1 = g9 := ⟨_, rfl⟩
  rw [hg9] at e9 ⊢
  have hB9 : w.heap.size ≤ g9 := by omega
  clear e5 hw0 hg9
  refine (HC.out w0).mono ?_; rintro e w1 ⟨rfl, hb1⟩
  have e9 := (hb1.block _ (block_lt e9)).trans e9
  have hb2 := hb0.trans (hb1.mono hb0.size)
  have HF := Lib.hid (set4 e9 (.int .i64 0) (.int .i64 0) (.int .i64 0) (.int .i64 0))
  have HBZ := Lib.hid (set4_below hb2 hB9 (.int .i64 0) (.int .i64 0) (.int .i64 0) (.int .i64 0))
  have s9 := block_lt e9
  have d0 : w1.cell? ⟨g9, 0, none⟩ = some (.int .i64 0) := cell_lit e9 0 _ rfl
  have d1 : w1.cell? ⟨g9, 1, none⟩ = some (.int .i64 0) := cell_lit e9 1 _ rfl
  have d2 : w1.cell? ⟨g9, 2, none⟩ = some (.int .i64 0) := cell_lit e9 2 _ rfl
  have d3 : w1.cell? ⟨g9, 3, none⟩ = some (.int .i64 0) := cell_lit e9 3 _ rfl
  have f0 := free_in e9 0
  have f1 := free_in e9 1
  have f2 := free_in e9 2
  have f3 := free_in e9 3
  clear e9 hb0 hb1 hb2 HC
  go_wp2_with fail
  try rw [Exit.noGoto_ret]
  have hf := HF.out
  have hb := HBZ.out
  revert hf hb
  generalize (World.setCell _ ⟨g9, 3, none⟩ (.int .i64 0)) = W
  intro hz hb
  have r0 := cell_lit hz 0 _ rfl
  have r1 := cell_lit hz 1 _ rfl
  have r2 := cell_lit hz 2 _ rfl
  have r3 := cell_lit hz 3 _ rfl
  exact bodyPost_ret (v := .tuple #[.string ⟨#[]⟩, .agg #[.int .i64 0, .int .i64 0, .int .i64 0, .int .i64 0], .int .i64 F]) (by simp only [results, Tryz.results10]; simp [go_sem, r0, r1, r2, r3]) rfl ⟨rfl, hb⟩
set_option maxHeartbeats 1600000 in
theorem fBlockNil (w : World) (q : Q4) (s : ByteArray) (raw : Int) :
    Calls Tryz.prog 10 #[.pointer none, q4V q, .string s, .int .i64 raw] w fun e w' => e = .returned (.tuple #[.string (sOf []), q4V z4, .int .i64 1]) ∧ Below w.heap.size w w' := by
  show Calls Tryz.prog 10 #[.pointer none, .agg #[.int .i64 q.a, .int .i64 q.b, .int .i64 q.c, .int .i64 q.d], .string s, .int .i64 raw] w _
  go_enter Tryz.func10, Tryz.ntmps10
  go_wp2_with fail
  all_goals
    try rw [Exit.noGoto_ret]
    obtain ⟨-, e9, hb⟩ := two_boxes w (.cells #[.int .i64 q.a, .int .i64 q.b, .int .i64 q.c, .int .i64 q.d] 23) (.cells #[.int .i64 0, .int .i64 0, .int .i64 0, .int .i64 0] 23)
    revert e9 hb
    generalize (World.alloc _ (.cells #[.int .i64 0, .int .i64 0, .int .i64 0, .int .i64 0] 23)) = W
    intro hz hb
    have r0 := cell_lit hz 0 _ rfl
    have r1 := cell_lit hz 1 _ rfl
    have r2 := cell_lit hz 2 _ rfl
    have r3 := cell_lit hz 3 _ rfl
    exact bodyPost_ret (v := .tuple #[.string ⟨#[]⟩, .agg #[.int .i64 0, .int .i64 0, .int .i64 0, .int .i64 0], .int .i64 1]) (by simp only [results, Tryz.results10]; simp [go_sem, r0, r1, r2, r3]) rfl ⟨rfl, hb⟩
end Go.Proofs.YtipcdkemokkdfaaGreat

/- Layer 27: the document's Same; how many bytes. -/
namespace Go.Proofs.YtipcdkemokkdfaaGreat
open Go.ChangeShapes Go.WideShapes Go.ChangeAt Go.RowKit
set_option linter.unusedVariables false
set_option linter.unusedSimpArgs false
set_option maxRecDepth 100000
end Go.Proofs.YtipcdkemokkdfaaGreat

/- Layer 27: the example. -/
namespace Go.Proofs.YtipcdkemokkdfaaGreat
open Go.ChangeShapes Go.WideShapes Go.ChangeAt Go.RowKit
set_option linter.unusedVariables false
set_option linter.unusedSimpArgs false
set_option maxRecDepth 100000
open Bits hiding packF pack_length
open RunsMath KraftMath CanonMath TurnMath Pm
def ext : Tk := ⟨2, 0, 4, 0, 1⟩
end Go.Proofs.YtipcdkemokkdfaaGreat

/- Layer 30: the example. -/
namespace Go.Proofs.YtipcdkemokkdfaaGreat
open Go.ChangeShapes Go.WideShapes Go.ChangeAt Go.RowKit
open Tok (OkTok chk chk_no chk_yes)
set_option linter.unusedVariables false
set_option linter.unusedSimpArgs false
set_option maxRecDepth 100000
def l30 : List Tk := [⟨0, 97, 0, 0, 0⟩, ⟨1, 0, 3, 3, 0⟩]
theorem kt30 : Kt27 l30 := ⟨by decide, by decide, by decide⟩
theorem l30_at {w : World} {T : TypeId} {g : Nat} (h : w.heap[g]? = some (.cells #[.int .i64 0, .int .i64 97, .int .i64 0, .int .i64 0, .int .i64 0, .int .i64 1, .int .i64 0, .int .i64 3, .int .i64 3, .int .i64 0] T (0, 0))) : IsTk w (some ⟨g, 0, none⟩) l30 := by
  refine .inr ⟨_, rfl, fun i t ht => ?_⟩
  have e1 : (⟨g, 0, none⟩ : Addr).add (i * 5) = ⟨g, i * 5 + 0, none⟩ := by unfold Addr.add; split <;> simp_all
  unfold tkAt
  rw [e1]
  rcases i with _ | _ | i
  · have ht' : l30.getD 0 ⟨0, 0, 0, 0, 0⟩ = t := by simpa [l30] using ht
    subst ht'
    exact ⟨cell_in h 0, cell_in h 1, cell_in h 2, cell_in h 3, cell_in h 4⟩
  · have ht' : l30.getD 1 ⟨0, 0, 0, 0, 0⟩ = t := by simpa [l30] using ht
    subst ht'
    exact ⟨cell_in h 5, cell_in h 6, cell_in h 7, cell_in h 8, cell_in h 9⟩
  · simp [l30] at ht
theorem ap30a : appS (99 : Nat) l30 ⟨1, 2, 3, 4⟩ [120, 121] = ([120, 121, 97, 120, 121, 97], ⟨3, 1, 2, 3⟩, 0) := by rfl
theorem ap30b : appS (2 : Nat) l30 ⟨3, 1, 2, 3⟩ [] = ([], z4, 10) := by rfl
/-- Of no bytes it is too short. -/
theorem cTokNil (raw : Nat) (h1 : 1 ≤ raw) (h2 : raw ≤ 65536) (w : World) : Calls Tryz.prog 18 #[.string ⟨#[]⟩, .int .i64 raw] w fun e w' => e = .returned (.tuple #[.slice none 0 0, .int .i64 3]) ∧ Below w.heap.size w w' := by
  refine (cTokAll w ⟨#[]⟩ (by decide) raw h1 h2 (.bad 3) (fun W g hW => ?_)).mono ?_
  · exact read27No1 W g raw [] hW 3 (by decide) (rdt_none g 401 [] 0 (by decide) (by decide) (by decide))
  · rintro e w' ⟨v, E, rfl, hb, rfl, rfl⟩
    exact ⟨rfl, hb⟩
theorem cTokGood (l : List Tk) (h : Kt27 l) (hz : sumK l ≤ 65536) (w : World) :
    Calls Tryz.prog 18 #[.string ⟨(bytesK l).toArray⟩, .int .i64 (sumK l)] w fun e w' => ∃ v E, e = .returned (.tuple #[v, .int .i64 E]) ∧ Below w.heap.size w w' ∧ EndK (.good l) w v E w' :=
  (cTokBack l h hz w).mono (by rintro e w' ⟨v, rfl, hb, ho⟩; exact ⟨v, 0, rfl, hb, rfl, ho⟩)
theorem Mine.low {w0 w w' : World} {size : Nat} {H : List UInt8} (h : Mine w0 w size H) (hb : Below w.heap.size w w') : Mine w0 w' size H := by
  obtain ⟨v, h1, h2, h3⟩ := h
  exact ⟨v, h1.low hb, h2, h3.trans (hb.mono h3.size)⟩
/-- Block, with a window of the call's own. -/
theorem mBlock (w0 w : World) (size : Nat) (H : List UInt8) (h : Mine w0 w size H) (h1 : 1 ≤ size) (h2 : size ≤ 67108864) (q : Q4) (s : ByteArray) (raw : Nat) (hr1 : 1 ≤ raw) (hr2 : raw ≤ 65536) (l : List Tk) (hl : sumK l ≤ 65536) (hok : ∀ t ∈ l, t.ok)
    (C : ∀ W, Calls Tryz.prog 18 #[.string s, .int .i64 raw] W fun e w' => ∃ v E, e = .returned (.tuple #[v, .int .i64 E]) ∧ Below W.heap.size W w' ∧ EndK (.good l) W v E w')
    (RR : List UInt8) (Q : Q4) (E : Int) (hR : appS size l q H = (RR, Q, E)) :
    Calls Tryz.prog 10 #[.pointer (some ⟨w0.heap.size, 0, none⟩), q4V q, .string s, .int .i64 raw] w fun e w' => e = .returned (.tuple #[.string (sOf (RR.drop H.length)), q4V Q, .int .i64 E]) ∧ Below w0.heap.size w0 w' ∧ (E = 0 → Mine w0 w' size (lastN size RR)) ∧ w.heap.size ≤ w'.heap.size := by
  obtain ⟨v, m1, m2, m3⟩ := h
  refine (fBlock w _ _ size v H m1 h1 h2 q s raw hr1 hr2 l hl hok C RR Q E hR).mono ?_
  rintro e w' ⟨he, hk, hs⟩
  refine ⟨he, m3.trans (hk.below (fun k hk2 => ⟨by have := m3.size; omega, fun hf => ?_⟩)), fun e0 => mine_step m2 m3 (hs e0), hk.size⟩
  rcases hf with rfl | hf
  · omega
  · have := m2 k hf; omega
set_option maxHeartbeats 3200000 in
theorem awake30 (w : World) : Calls Tryz.prog 4 #[] w fun e w' => e = .returned (.bool true) ∧ Below w.heap.size w w' := by
  have CP := Lib.hid (fun a c W h => cPutK a c 2 l30 W rfl h (by decide) (by decide) kt30.ok)
  have e4 : sumK l30 = 4 := by decide
  have CT := Lib.hid (fun W => cTokGood l30 kt30 (by decide) W)
  rw [e4] at CT
  have hl30 : l30.length = 2 := rfl
  obtain ⟨S, hS⟩ : ∃ S : ByteArray, ⟨(bytesK l30).toArray⟩ = S := ⟨_, rfl⟩
  rw [hS] at CP CT
  have CB := Lib.hid (fun W0 W h => mBlock W0 W 99 [120, 121] h (by decide) (by decide) ⟨1, 2, 3, 4⟩ S 4 (by decide) (by decide) l30 (by decide) kt30.ok CT.out _ _ _ ap30a)
  have CB2 := Lib.hid (fun W0 W h => mBlock W0 W 2 [] h (by decide) (by decide) ⟨3, 1, 2, 3⟩ S 4 (by decide) (by decide) l30 (by decide) kt30.ok CT.out _ _ _ ap30b)
  have CN := Lib.hid (fun W p => fBlockBad W p ⟨3, 1, 2, 3⟩ ⟨#[]⟩ 4 (by decide) (by decide) 3 (by decide) (cTokNil 4 (by decide) (by decide)))
  have CZ := Lib.hid (fun W => fBlockNil W ⟨3, 1, 2, 3⟩ S 4)
  have DCB : Hid (∀ W0 W, Mine W0 W 99 [120, 121] → Calls Tryz.prog 10 #[.pointer (some ⟨W0.heap.size, 0, none⟩), .agg #[.int .i64 1, .int .i64 2, .int .i64 3, .int .i64 4], .string S, .int .i64 4] W fun e w' => e = .returned (.tuple #[.string ⟨#[97, 120, 121, 97]⟩, .agg #[.int .i64 3, .int .i64 1, .int .i64 2, .int .i64 3], .int .i64 0]) ∧ Mine W0 w' 99 [120, 121, 97, 120, 121, 97] ∧ W.heap.size ≤ w'.heap.size) :=
    Lib.hid (fun W0 W h => (CB.out W0 W h).mono (by rintro e w' ⟨h1, h2, h3, h4⟩; exact ⟨h1, h3 rfl, h4⟩))
  have DCB2 : Hid (∀ W0 W, Mine W0 W 2 [] → Calls Tryz.prog 10 #[.pointer (some ⟨W0.heap.size, 0, none⟩), .agg #[.int .i64 3, .int .i64 1, .int .i64 2, .int .i64 3], .string S, .int .i64 4] W fun e w' => e = .returned (.tuple #[.string ⟨#[]⟩, .agg #[.int .i64 0, .int .i64 0, .int .i64 0, .int .i64 0], .int .i64 10]) ∧ Below W0.heap.size W0 w') :=
    Lib.hid (fun W0 W h => (CB2.out W0 W h).mono (by rintro e w' ⟨h1, h2, h3, h4⟩; exact ⟨h1, h2⟩))
  have DCN : Hid (∀ W p, Calls Tryz.prog 10 #[.pointer (some p), .agg #[.int .i64 3, .int .i64 1, .int .i64 2, .int .i64 3], .string ⟨#[]⟩, .int .i64 4] W fun e w' => e = .returned (.tuple #[.string ⟨#[]⟩, .agg #[.int .i64 0, .int .i64 0, .int .i64 0, .int .i64 0], .int .i64 3]) ∧ Below W.heap.size W w') := CN
  have DCZ : Hid (∀ W, Calls Tryz.prog 10 #[.pointer none, .agg #[.int .i64 3, .int .i64 1, .int .i64 2, .int .i64 3], .string S, .int .i64 4] W fun e w' => e = .returned (.tuple #[.string ⟨#[]⟩, .agg #[.int .i64 0, .int .i64 0, .int .i64 0, .int .i64 0], .int .i64 1]) ∧ Below W.heap.size W w') := CZ
  clear hS e4 CT CB CB2 CN CZ
  have HI := Lib.hid (fun (W : World) T g h => l30_at (w := W) (T := T) (g := g) h)
  obtain ⟨L, hL⟩ : ∃ L, l30 = L := ⟨_, rfl⟩
  rw [hL] at CP hl30 HI
  clear hL
  go_enter Tryz.func4, Tryz.ntmps4
  go_wp2_with fail
  refine (wnNew 99 w (by decide)).mono ?_; rintro e w1 ⟨rfl, hw1, hb1, -⟩
  have HM := Lib.hid (mine_new hw1 hb1)
  clear hw1 hb1
  obtain ⟨g1, hg1⟩ : ∃ g1, w.heap.size = g1 := ⟨_, rfl⟩
  have HG1 := Lib.hid hg1
  rw [hg1]
  clear hg1
  go_wp2_with fail
  rw [← HG1.out]
  refine (mPut w w1 99 [] _ HM.out (by decide) [120, 121] rfl).mono ?_; rintro e w2 ⟨rfl, hm⟩
  rw [HG1.out]
  have HM := Lib.hid hm
  clear hm
  go_wp2_with fail
  have HT := Lib.hid (HI.out _ _ _ (heap_alloc_new w2 (.cells #[.int .i64 0, .int .i64 97, .int .i64 0, .int .i64 0, .int .i64 0, .int .i64 1, .int .i64 0, .int .i64 3, .int .i64 3, .int .i64 0] 42)))
  have HM := Lib.hid (HM.out.low ((Below.refl _ _).alloc (Nat.le_refl _) (.cells #[.int .i64 0, .int .i64 97, .int .i64 0, .int .i64 0, .int .i64 0, .int .i64 1, .int .i64 0, .int .i64 3, .int .i64 3, .int .i64 0] 42)))
  refine (CP.out _ _ _ HT.out).mono ?_; rintro e w3 ⟨rfl, hb3⟩
  have HM := Lib.hid (HM.out.low hb3)
  clear HT HI hb3 CP
  go_wp2_with fail
  rw [← HG1.out]
  refine (DCB.out w w3 HM.out).mono ?_; rintro e w4 ⟨rfl, hm, -⟩
  rw [HG1.out]
  have HM := Lib.hid hm
  clear hm DCB
  go_wp2_with fail
  have HE := Lib.hid (heap_alloc_new w4 (.cells #[.int .i64 3, .int .i64 1, .int .i64 2, .int .i64 3] 23))
  have HM := Lib.hid (HM.out.low ((Below.refl _ _).alloc (Nat.le_refl _) (.cells #[.int .i64 3, .int .i64 1, .int .i64 2, .int .i64 3] 23)))
  obtain ⟨g6, hg6⟩ : ∃ g6, w4.heap.size = g6 := ⟨_, rfl⟩
  obtain ⟨w5, hw5⟩ : ∃ w5, w4.alloc (.cells #[.int .i64 3, .int .i64 1, .int .i64 2, .int .i64 3] 23) = w5 := ⟨_, rfl⟩
  rw [hg6, hw5] at HE
  rw [hw5] at HM ⊢
  rw [hg6]
  clear hg6 hw5
  refine (DCN.out w5 _).mono ?_; rintro e w6 ⟨rfl, hb6⟩
  have HE := Lib.hid ((hb6.block _ (block_lt HE.out)).trans HE.out)
  have HM := Lib.hid (HM.out.low hb6)
  have c0 := cell_lit HE.out 0 _ rfl
  have c1 := cell_lit HE.out 1 _ rfl
  have c2 := cell_lit HE.out 2 _ rfl
  have c3 := cell_lit HE.out 3 _ rfl
  have s6 := block_lt HE.out
  clear hb6 DCN
  go_wp2_with fail
  have hbx := (Below.refl w6.heap.size w6).alloc (Nat.le_refl _) (.cells #[.int .i64 0, .int .i64 0, .int .i64 0, .int .i64 0] 23)
  have HE := Lib.hid ((hbx.block _ (block_lt HE.out)).trans HE.out)
  have HM := Lib.hid (HM.out.low hbx)
  obtain ⟨w7, hw7⟩ : ∃ w7, w6.alloc (.cells #[.int .i64 0, .int .i64 0, .int .i64 0, .int .i64 0] 23) = w7 := ⟨_, rfl⟩
  rw [hw7] at HE HM ⊢
  clear hw7 hbx c0 c1 c2 c3
  refine (DCZ.out w7).mono ?_; rintro e w8 ⟨rfl, hb8⟩
  have HE := Lib.hid ((hb8.block _ (block_lt HE.out)).trans HE.out)
  have HM := Lib.hid (HM.out.low hb8)
  have c0 : w8.cell? ⟨g6, 0, none⟩ = some (.int .i64 3) := cell_lit HE.out 0 _ rfl
  have c1 : w8.cell? ⟨g6, 1, none⟩ = some (.int .i64 1) := cell_lit HE.out 1 _ rfl
  have c2 : w8.cell? ⟨g6, 2, none⟩ = some (.int .i64 2) := cell_lit HE.out 2 _ rfl
  have c3 : w8.cell? ⟨g6, 3, none⟩ = some (.int .i64 3) := cell_lit HE.out 3 _ rfl
  have s6 := block_lt HE.out
  clear hb8 DCZ
  go_wp2_with fail
  have hbx := (Below.refl w8.heap.size w8).alloc (Nat.le_refl _) (.cells #[.int .i64 0, .int .i64 0, .int .i64 0, .int .i64 0] 23)
  have HE := Lib.hid ((hbx.block _ (block_lt HE.out)).trans HE.out)
  have HM := Lib.hid (HM.out.low hbx)
  obtain ⟨w9, hw9⟩ : ∃ w9, w8.alloc (.cells #[.int .i64 0, .int .i64 0, .int .i64 0, .int .i64 0] 23) = w9 := ⟨_, rfl⟩
  rw [hw9] at HE HM ⊢
  clear hw9 hbx c0 c1 c2 c3
  refine (wnNew 2 w9 (by decide)).mono ?_; rintro e w10 ⟨rfl, hw10, hb10, -⟩
  have HN := Lib.hid (mine_new hw10 hb10)
  have HM9 := Lib.hid HM.out
  have HE9 := Lib.hid HE.out
  have HE := Lib.hid ((hb10.block _ (block_lt HE.out)).trans HE.out)
  have HM := Lib.hid (HM.out.low hb10)
  have c0 : w10.cell? ⟨g6, 0, none⟩ = some (.int .i64 3) := cell_lit HE.out 0 _ rfl
  have c1 : w10.cell? ⟨g6, 1, none⟩ = some (.int .i64 1) := cell_lit HE.out 1 _ rfl
  have c2 : w10.cell? ⟨g6, 2, none⟩ = some (.int .i64 2) := cell_lit HE.out 2 _ rfl
  have c3 : w10.cell? ⟨g6, 3, none⟩ = some (.int .i64 3) := cell_lit HE.out 3 _ rfl
  obtain ⟨g2, hg2⟩ : ∃ g2, w9.heap.size = g2 := ⟨_, rfl⟩
  have HG2 := Lib.hid hg2
  rw [hg2]
  clear hw10 hb10 hg2
  go_wp2_with fail
  rw [← HG2.out]
  refine (DCB2.out w9 w10 HN.out).mono ?_; rintro e w11 ⟨rfl, hb11⟩
  rw [HG2.out]
  have HE := Lib.hid ((hb11.block _ (block_lt HE9.out)).trans HE9.out)
  have HM := Lib.hid (HM9.out.low hb11)
  clear c0 c1 c2 c3 hb11 HN HM9 HE9 DCB2
  have c0 : w11.cell? ⟨g6, 0, none⟩ = some (.int .i64 3) := cell_lit HE.out 0 _ rfl
  have c1 : w11.cell? ⟨g6, 1, none⟩ = some (.int .i64 1) := cell_lit HE.out 1 _ rfl
  have c2 : w11.cell? ⟨g6, 2, none⟩ = some (.int .i64 2) := cell_lit HE.out 2 _ rfl
  have c3 : w11.cell? ⟨g6, 3, none⟩ = some (.int .i64 3) := cell_lit HE.out 3 _ rfl
  have s6 := block_lt HE.out
  have hbx := (Below.refl w11.heap.size w11).alloc (Nat.le_refl _) (.cells #[.int .i64 0, .int .i64 0, .int .i64 0, .int .i64 0] 23)
  have HE := Lib.hid ((hbx.block _ (block_lt HE.out)).trans HE.out)
  have HM := Lib.hid (HM.out.low hbx)
  clear hbx
  have heq : ∀ W, (binOp .eql 23 (.agg #[.int .i64 3, .int .i64 1, .int .i64 2, .int .i64 3]) (.agg #[.int .i64 3, .int .i64 1, .int .i64 2, .int .i64 3])).run Tryz.prog W = .ok (.bool true) W := fun W => by
    rw [run_eql_ints4 23 3 _ 3 1 2 3 3 1 2 3 W (by kernel_rfl) (by kernel_rfl) rfl (by kernel_rfl)]; simp
  go_wp2_with fail
  rw [← HG1.out]
  refine (mLast w _ 99 _ 9 HM.out [120, 121, 97, 120, 121, 97] rfl).mono ?_; rintro e w12 ⟨rfl, hm⟩
  rw [show sOf [120, 121, 97, 120, 121, 97] = ⟨#[120, 121, 97, 120, 121, 97]⟩ from rfl]
  obtain ⟨-, -, -, hb⟩ := hm
  have HB := Lib.hid hb
  clear hb HM HE
  go_wp2_with fail
  go_ret
  exact ⟨rfl, HB.out⟩
end Go.Proofs.YtipcdkemokkdfaaGreat

/- Layer 30: the law FastBack. -/
namespace Go.Proofs.YtipcdkemokkdfaaGreat
open Go.ChangeShapes Go.WideShapes Go.ChangeAt Go.RowKit
open Tok (OkTok chk chk_no chk_yes)
set_option linter.unusedVariables false
set_option linter.unusedSimpArgs false
set_option maxRecDepth 100000
theorem Mine.b {w0 w : World} {size : Nat} {H : List UInt8} (h : Mine w0 w size H) : Below w0.heap.size w0 w := by
  obtain ⟨v, h1, h2, h3⟩ := h
  exact h3
/-- Block, with a window of the call's own; a block that came since stays. -/
theorem mBlockX (w0 wa w : World) (size : Nat) (H : List UInt8) (h : Mine w0 wa size H) (hb : Below wa.heap.size wa w) (gx : Nat) (hgx : wa.heap.size ≤ gx) (ob : Obj) (hx : w.heap[gx]? = some ob) (h1 : 1 ≤ size) (h2 : size ≤ 67108864) (q : Q4) (s : ByteArray) (raw : Nat) (hr1 : 1 ≤ raw) (hr2 : raw ≤ 65536) (l : List Tk) (hl : sumK l ≤ 65536) (hok : ∀ t ∈ l, t.ok)
    (C : ∀ W, Calls Tryz.prog 18 #[.string s, .int .i64 raw] W fun e w' => ∃ v E, e = .returned (.tuple #[v, .int .i64 E]) ∧ Below W.heap.size W w' ∧ EndK (.good l) W v E w')
    (RR : List UInt8) (Q : Q4) (E : Int) (hR : appS size l q H = (RR, Q, E)) :
    Calls Tryz.prog 10 #[.pointer (some ⟨w0.heap.size, 0, none⟩), q4V q, .string s, .int .i64 raw] w fun e w' => e = .returned (.tuple #[.string (sOf (RR.drop H.length)), q4V Q, .int .i64 E]) ∧ (E = 0 → Mine w0 w' size (lastN size RR)) ∧ w'.heap[gx]? = some ob := by
  obtain ⟨v, m1, m2, m3⟩ := h
  have hlt := m1.feet_lt
  refine (fBlock w _ _ size v H (m1.low hb) h1 h2 q s raw hr1 hr2 l hl hok C RR Q E hR).mono ?_
  rintro e w' ⟨he, hk, hs⟩
  exact ⟨he, fun e0 => mine_step m2 (m3.trans (hb.mono m3.size)) (hs e0), hk.heap hx (fun hf => by have := hlt gx hf; omega)⟩
def box7 (size : Int) (s : ByteArray) (q : Q4) (raw : Int) : Array Value := #[.int .i64 size, .string s, .int .i64 q.a, .int .i64 q.b, .int .i64 q.c, .int .i64 q.d, .int .i64 raw]
theorem box7_at {w : World} {g : Nat} {size raw : Int} {s : ByteArray} {q : Q4} {T : TypeId} (h : w.heap[g]? = some (.cells (box7 size s q raw) T (0, 0))) :
    w.cell? ⟨g, 0, none⟩ = some (.int .i64 size) ∧ w.cell? ⟨g, 1, none⟩ = some (.string s) ∧ w.cell? ⟨g, 2, none⟩ = some (.int .i64 q.a) ∧ w.cell? ⟨g, 3, none⟩ = some (.int .i64 q.b) ∧ w.cell? ⟨g, 4, none⟩ = some (.int .i64 q.c) ∧ w.cell? ⟨g, 5, none⟩ = some (.int .i64 q.d) :=
  ⟨cell_lit h 0 _ rfl, cell_lit h 1 _ rfl, cell_lit h 2 _ rfl, cell_lit h 3 _ rfl, cell_lit h 4 _ rfl, cell_lit h 5 _ rfl⟩
theorem szSum_sumK : ∀ l : List Tk, (∀ t ∈ l, t.ok) → szSum l = (sumK l : Int)
  | [], _ => rfl
  | t :: ts, h => by
    rw [szSum, sumK_cons, szSum_sumK ts (fun x hx => h x (by simp [hx])), szN_tok t (h t (by simp))]
    omega
theorem sOf_drop (R : List UInt8) (n : Nat) : (sOf R).extract n R.length = sOf (R.drop n) := by
  unfold sOf
  apply ByteArray.ext
  simp [ByteArray.data_extract]
  rw [List.take_of_length_le (by simp)]
set_option maxHeartbeats 1600000 in
theorem fast_awake (size raw : Int) (s : ByteArray) (q : Q4) (a : Option Addr) (c n : Nat) (hs : s.size ≤ maxLen) (hn2 : n ≤ 9223372036854775807) (w : World) (hb : 500 < s.size ∨ 60 < n ∨ size < 1 ∨ 1000 < size) :
    Calls Tryz.prog 3 #[.agg #[.int .i64 size, .string s, .int .i64 q.a, .int .i64 q.b, .int .i64 q.c, .int .i64 q.d, .int .i64 raw], .slice a n c] w fun e w' => e = .returned (.bool true) ∧ Below w.heap.size w w' := by
  have hsz : s.size ≤ 9223372036854775807 := by unfold maxLen at hs; omega
  have HB := Lib.hid ((Below.refl w.heap.size w).alloc (Nat.le_refl _) (.cells #[.int .i64 size, .string s, .int .i64 q.a, .int .i64 q.b, .int .i64 q.c, .int .i64 q.d, .int .i64 raw] 25))
  have CA := Lib.hid awake30
  by_cases h1 : 500 < s.size
  · have h1i : (500 : Int) < (s.size : Int) := by omega
    clear hb
    go_enter Tryz.func3, Tryz.ntmps3
    go_wp2_with fail
    refine (CA.out _).mono ?_; rintro e w1 ⟨rfl, hb1⟩
    go_wp2_with fail
    go_ret
    exact ⟨rfl, HB.out.trans (hb1.mono HB.out.size)⟩
  · have h1i : ¬ (500 : Int) < (s.size : Int) := by omega
    by_cases h2 : 60 < n
    · have h2i : (60 : Int) < (n : Int) := by omega
      clear hb
      go_enter Tryz.func3, Tryz.ntmps3
      go_wp2_with fail
      refine (CA.out _).mono ?_; rintro e w1 ⟨rfl, hb1⟩
      go_wp2_with fail
      go_ret
      exact ⟨rfl, HB.out.trans (hb1.mono HB.out.size)⟩
    · have h2i : ¬ (60 : Int) < (n : Int) := by omega
      by_cases h3 : size < 1
      · clear hb
        go_enter Tryz.func3, Tryz.ntmps3
        go_wp2_with fail
        refine (CA.out _).mono ?_; rintro e w1 ⟨rfl, hb1⟩
        go_wp2_with fail
        go_ret
        exact ⟨rfl, HB.out.trans (hb1.mono HB.out.size)⟩
      · have h4 : 1000 < size := by omega
        clear hb
        go_enter Tryz.func3, Tryz.ntmps3
        go_wp2_with fail
        refine (CA.out _).mono ?_; rintro e w1 ⟨rfl, hb1⟩
        go_wp2_with fail
        go_ret
        exact ⟨rfl, HB.out.trans (hb1.mono HB.out.size)⟩
end Go.Proofs.YtipcdkemokkdfaaGreat
