/- Contracts of layer 1's writer. -/
import Derived.Test.YtplopddlpoffoaaOwn
import Derived.Test.YtplopddlpoffoaaBm
import Derived.IntWalk
import Derived.Lib.UnsafeStr
namespace Go.Proofs.Ytplopddlpoffoaa
open Go.ChangeShapes Go.WideShapes Go.ChangeAt Go.RowKit
set_option linter.unusedVariables false
set_option maxRecDepth 100000
open Bits

theorem infoB : (Try.prog.info? 5).map (fun i => (i.zero, i.size, i.bytes)) = some (some (.int .u8 0), 1, 1) := by kernel_rfl
def byteCells (l : List UInt8) : List Value := l.map fun b => .int .u8 (b.toNat : Int)

set_option maxHeartbeats 800000 in
theorem wTake (w : World) (g bx B : Nat) (v r n : Value) (bs : List UInt8) (b : UInt8) (hbx : w.heap[bx]? = some (.cells #[.pointer (some ⟨g, 0, none⟩)] 78 (0, 0))) (hg : w.heap[g]? = some (.cells #[v, r, n] 108 (0, 0)))
    (hown : w.ownsRow B 5 1 v bs.length (byteCells bs)) (hB : B ≤ w.heap.size) (hl : bs.length ≤ 1000000000000) :
    Calls Try.prog 58 #[.int .u8 b.toNat, .pointer (some ⟨bx, 0, none⟩)] w fun e w' => e = .returned (.tuple #[]) ∧
      ∃ k cap, w'.heap[g]? = some (.cells #[.slice (some ⟨k, 0, none⟩) (bs.length + 1) cap, r, n] 108 (0, 0)) ∧ w'.ownsRow B 5 1 (.slice (some ⟨k, 0, none⟩) (bs.length + 1) cap) (bs ++ [b]).length (byteCells (bs ++ [b])) ∧ (v.ownBlock = some k ∨ w.heap.size ≤ k) ∧
        Keeps (fun k => k = g ∨ v.ownBlock = some k) w w' := by
  obtain ⟨i0, hi, hz0, hz1, hz2⟩ := info_parts infoB
  have cb := cell_in hbx 0
  have c0 := cell_in hg 0
  have f0 := free_in hg 0
  simp at cb c0
  have hgl := block_lt hg
  have hbl := block_lt hbx
  have HG := Lib.hid hg
  have HX := Lib.hid hbx
  clear hg hbx
  go_enter Try.func58, Try.ntmps58
  go_region_law (refine step_append_at rfl (.tmp 7) (.tmp 9) 94 rfl B 5 i0 (.int .u8 0) 1 Try.underlying94 hi hz0 hz1 hz2 rfl v bs.length (byteCells bs) rfl (hown.alloc _) ⟨w.heap.size, 0, none⟩ 1 1 [.int .u8 b.toNat] rfl rfl (cell_new1 w _ _ _ rfl) (by simp [Value.oneCell']) (by unfold maxLen; omega) (by omega) (by simp; omega) (by decide) ?_; intro k cap w1 hown1 hgrow hk; have HG1 := Lib.hid (grown_heap hgrow (heap_old HG.out _) (own_ne hown HG.out (by decide))); have cx := cell_lit (grown_heap hgrow (heap_old HX.out _) (own_ne hown HX.out (by decide))) 0 (.pointer (some ⟨g, 0, none⟩)) rfl; have cg := cell_lit HG1.out 0 v rfl; have fg := free_in HG1.out 0)
  all_goals
   have hk' : v.ownBlock = some k ∨ w.heap.size ≤ k := by
     rcases hk with hk | hk
     · exact .inl hk
     · right; simp at hk; omega
   have hne : (Value.slice (some ⟨k, 0, none⟩) (bs.length + 1) cap).ownBlock ≠ some g := own_ne hown1 HG1.out (by decide)
   go_end0
   refine ⟨rfl, k, cap, ?_, ?_, hk', ?_⟩
   · exact block_set HG1.out 0 _
   · have := ownsRow_setCell_other hown1 (a := ⟨g, 0, none⟩) hne (.slice (some ⟨k, 0, none⟩) (bs.length + 1) cap)
     rw [List.length_append, byteCells, List.map_append]
     exact this
   · exact (((Keeps.refl _ w).alloc _).drew.grown hgrow (fun j hj => .inr (.inr hj))).setCell (p := ⟨g, 0, none⟩) (.inr (.inl rfl)) _
end Go.Proofs.Ytplopddlpoffoaa
