/- Layer 23: what pieces cost together; what chapter 23 shows. -/
import Derived.Test.YtekageibffhloaaP3
namespace Go.Proofs.Ytekageibffhloaa
open Go.ChangeShapes Go.WideShapes Go.ChangeAt Go.RowKit
set_option linter.unusedVariables false
set_option maxRecDepth 100000
def l8 : List Int := List.replicate 401 8
def l5 : List Int := List.replicate 52 5
theorem litI (w : World) (zs : List Int) (t : Nat) (hl : zs.length ≤ 70368744177664) : IsInts (w.alloc (.cells (zs.map (Value.int .i64 ·)).toArray t)) (some ⟨w.heap.size, 0, none⟩) zs := IsInts.new w zs t (0, 0) hl
theorem litL (w : World) (zs : List Int) (t c : Nat) (hl : zs.length ≤ 70368744177664) : IsL (w.alloc (.cells (zs.map (Value.int .i64 ·)).toArray t)) (.slice (some ⟨w.heap.size, 0, none⟩) zs.length c) zs := ⟨_, _, rfl, litI w zs t hl⟩
theorem box2 {w w1 : World} {P T : Array Value} {tp tt : TypeId} (hb : Below ((w.alloc (.cells P tp)).alloc (.cells T tt)).heap.size ((w.alloc (.cells P tp)).alloc (.cells T tt)) w1) :
    w1.heap[w.heap.size]? = some (.cells P tp (0, 0)) ∧ w1.heap[w.heap.size + 1]? = some (.cells T tt (0, 0)) ∧ Below w.heap.size w w1 ∧ w.heap.size + 1 < w1.heap.size := by
  have h2 : ((w.alloc (.cells P tp)).alloc (.cells T tt)).heap[w.heap.size + 1]? = some (.cells T tt (0, 0)) := by simpa using heap_alloc_new (w.alloc (.cells P tp)) (.cells T tt)
  have h1 : ((w.alloc (.cells P tp)).alloc (.cells T tt)).heap[w.heap.size]? = some (.cells P tp (0, 0)) := ((bx (w.alloc (.cells P tp)) (.cells T tt)).block w.heap.size (by simp)).trans (heap_alloc_new w _)
  have hs := hb.size
  simp at hs
  exact ⟨(hb.block _ (by simp; omega)).trans h1, (hb.block _ (by simp)).trans h2, ((bx w _).trans ((bx _ _).mono (by simp))).trans (hb.mono (by simp; omega)), by omega⟩
theorem ofByte (a b : Option Addr) (c d : Nat) (w : World) (hA : IsInts w a l8) :
    Calls Try.prog 85 #[.agg #[.slice a 401 c, .slice b 52 d], tokV 0 1 0 0 0] w fun e w' => e = .returned (.tuple #[.int .i64 8, .int .i64 0]) ∧ Below w.heap.size w w' := by
  obtain ⟨xa, rfl, hab, ha⟩ := hA.at 1 (by decide)
  have ca := ha 1 (by decide)
  rw [show l8.getD 1 0 = 8 by decide +kernel] at ca
  clear ha hA
  go_enter Try.func85, Try.ntmps85
  go_wp2_with fail
  refine (syByte _).mono ?_; rintro e w1 ⟨rfl, hb1⟩
  obtain ⟨hcP, hcT, hb, hlt⟩ := box2 hb1
  have hlt0 : w.heap.size < w1.heap.size := by omega
  clear hb1
  have p0 := cell_lit hcP 0 _ rfl
  have p1 := cell_lit hcP 1 _ rfl
  have t0 := cell_lit hcT 0 _ rfl
  have t1 := cell_lit hcT 1 _ rfl
  have t2 := cell_lit hcT 2 _ rfl
  have t3 := cell_lit hcT 3 _ rfl
  have t4 := cell_lit hcT 4 _ rfl
  clear hcP hcT
  have ca : w1.cell? ⟨xa.block, xa.off + 1, none⟩ = _ := (hb.cell (p := xa.add 1) (by rw [add_block]; exact hab)).trans ca
  go_wp2
  go_ret2
  exact ⟨rfl, hb⟩
theorem ofRep (a b : Option Addr) (c d : Nat) (w : World) (hA : IsInts w a l8) :
    Calls Try.prog 85 #[.agg #[.slice a 401 c, .slice b 52 d], tokV 2 0 11 0 0] w fun e w' => e = .returned (.tuple #[.int .i64 9, .int .i64 0]) ∧ Below w.heap.size w w' := by
  obtain ⟨xa, rfl, hab, ha⟩ := hA.at 293 (by decide)
  have ca := ha 293 (by decide)
  rw [show l8.getD 293 0 = 8 by decide +kernel] at ca
  clear ha hA
  go_enter Try.func85, Try.ntmps85
  go_wp2_with fail
  refine (syRep _).mono ?_; rintro e w1 ⟨rfl, hb1⟩
  obtain ⟨hcP, hcT, hb, hlt⟩ := box2 hb1
  have hlt0 : w.heap.size < w1.heap.size := by omega
  clear hb1
  have p0 := cell_lit hcP 0 _ rfl
  have p1 := cell_lit hcP 1 _ rfl
  have t0 := cell_lit hcT 0 _ rfl
  have t1 := cell_lit hcT 1 _ rfl
  have t2 := cell_lit hcT 2 _ rfl
  have t3 := cell_lit hcT 3 _ rfl
  have t4 := cell_lit hcT 4 _ rfl
  clear hcP hcT
  have ca : w1.cell? ⟨xa.block, xa.off + 293, none⟩ = _ := (hb.cell (p := xa.add 293) (by rw [add_block]; exact hab)).trans ca
  go_wp2_with fail
  refine (sLen11 _).mono ?_; rintro e w2 ⟨rfl, hb2⟩
  have p0 := (hb2.cell (p := ⟨w.heap.size, 0, none⟩) (by assumption)).trans p0
  have p1 := (hb2.cell (p := ⟨w.heap.size, 1, none⟩) (by assumption)).trans p1
  have t0 := (hb2.cell (p := ⟨w.heap.size + 1, 0, none⟩) (by assumption)).trans t0
  have t1 := (hb2.cell (p := ⟨w.heap.size + 1, 1, none⟩) (by assumption)).trans t1
  have t2 := (hb2.cell (p := ⟨w.heap.size + 1, 2, none⟩) (by assumption)).trans t2
  have t3 := (hb2.cell (p := ⟨w.heap.size + 1, 3, none⟩) (by assumption)).trans t3
  have t4 := (hb2.cell (p := ⟨w.heap.size + 1, 4, none⟩) (by assumption)).trans t4
  have hlt := Nat.lt_of_lt_of_le hlt hb2.size
  have hlt0 := Nat.lt_of_lt_of_le hlt0 hb2.size
  have hb := hb.trans (hb2.mono hb.size)
  clear hb2 ca
  go_wp2_with fail
  refine (pSum _ [8, 1] _ (litL _ [8, 1] _ _ (by decide)) (by decide) (by unfold Small; decide) 9 (by decide)).mono ?_; rintro e w3 ⟨rfl, rfl⟩
  go_wp2
  go_ret2
  exact ⟨rfl, hb.alloc hb.size _⟩
theorem ofCopy (a b : Option Addr) (c d : Nat) (w : World) (hA : IsInts w a l8) (hB : IsInts w b l5) :
    Calls Try.prog 85 #[.agg #[.slice a 401 c, .slice b 52 d], tokV 1 0 11 10 0] w fun e w' => e = .returned (.tuple #[.int .i64 16, .int .i64 0]) ∧ Below w.heap.size w w' := by
  obtain ⟨xa, rfl, hab, ha⟩ := hA.at 264 (by decide)
  obtain ⟨xb, rfl, hbb, hbv⟩ := hB.at 6 (by decide)
  have ca := ha 264 (by decide)
  rw [show l8.getD 264 0 = 8 by decide +kernel] at ca
  have cb := hbv 6 (by decide)
  rw [show l5.getD 6 0 = 5 by decide +kernel] at cb
  clear ha hA hbv hB
  go_enter Try.func85, Try.ntmps85
  go_wp2_with fail
  refine (syCopy _).mono ?_; rintro e w1 ⟨rfl, hb1⟩
  obtain ⟨hcP, hcT, hb, hlt⟩ := box2 hb1
  have hlt0 : w.heap.size < w1.heap.size := by omega
  clear hb1
  have p0 := cell_lit hcP 0 _ rfl
  have p1 := cell_lit hcP 1 _ rfl
  have t0 := cell_lit hcT 0 _ rfl
  have t1 := cell_lit hcT 1 _ rfl
  have t2 := cell_lit hcT 2 _ rfl
  have t3 := cell_lit hcT 3 _ rfl
  have t4 := cell_lit hcT 4 _ rfl
  clear hcP hcT
  have ca : w1.cell? ⟨xa.block, xa.off + 264, none⟩ = _ := (hb.cell (p := xa.add 264) (by rw [add_block]; exact hab)).trans ca
  have CB := Lib.hid cb
  have HBB := Lib.hid hbb
  clear cb hbb
  go_wp2_with fail
  refine (sLen11 _).mono ?_; rintro e w2 ⟨rfl, hb2⟩
  have p0 := (hb2.cell (p := ⟨w.heap.size, 0, none⟩) (by assumption)).trans p0
  have p1 := (hb2.cell (p := ⟨w.heap.size, 1, none⟩) (by assumption)).trans p1
  have t0 := (hb2.cell (p := ⟨w.heap.size + 1, 0, none⟩) (by assumption)).trans t0
  have t1 := (hb2.cell (p := ⟨w.heap.size + 1, 1, none⟩) (by assumption)).trans t1
  have t2 := (hb2.cell (p := ⟨w.heap.size + 1, 2, none⟩) (by assumption)).trans t2
  have t3 := (hb2.cell (p := ⟨w.heap.size + 1, 3, none⟩) (by assumption)).trans t3
  have t4 := (hb2.cell (p := ⟨w.heap.size + 1, 4, none⟩) (by assumption)).trans t4
  have hlt := Nat.lt_of_lt_of_le hlt hb2.size
  have hlt0 := Nat.lt_of_lt_of_le hlt0 hb2.size
  have hb := hb.trans (hb2.mono hb.size)
  clear hb2 ca
  go_wp2_with fail
  refine (sDist10 _).mono ?_; rintro e w3 ⟨rfl, hb3⟩
  have p0 := (hb3.cell (p := ⟨w.heap.size, 0, none⟩) (by assumption)).trans p0
  have p1 := (hb3.cell (p := ⟨w.heap.size, 1, none⟩) (by assumption)).trans p1
  have t0 := (hb3.cell (p := ⟨w.heap.size + 1, 0, none⟩) (by assumption)).trans t0
  have t1 := (hb3.cell (p := ⟨w.heap.size + 1, 1, none⟩) (by assumption)).trans t1
  have t2 := (hb3.cell (p := ⟨w.heap.size + 1, 2, none⟩) (by assumption)).trans t2
  have t3 := (hb3.cell (p := ⟨w.heap.size + 1, 3, none⟩) (by assumption)).trans t3
  have t4 := (hb3.cell (p := ⟨w.heap.size + 1, 4, none⟩) (by assumption)).trans t4
  have hlt := Nat.lt_of_lt_of_le hlt hb3.size
  have hlt0 := Nat.lt_of_lt_of_le hlt0 hb3.size
  have hb := hb.trans (hb3.mono hb.size)
  have cb : w3.cell? ⟨xb.block, xb.off + 6, none⟩ = _ := (hb.cell (p := xb.add 6) (by rw [add_block]; exact HBB.out)).trans CB.out
  clear hb3
  go_wp2_with fail
  refine (pSum _ [8, 1, 5, 2] _ (litL _ [8, 1, 5, 2] _ _ (by decide)) (by decide) (by unfold Small; decide) 16 (by decide)).mono ?_; rintro e w3 ⟨rfl, rfl⟩
  go_wp2
  go_ret2
  exact ⟨rfl, hb.alloc hb.size _⟩
end Go.Proofs.Ytekageibffhloaa
