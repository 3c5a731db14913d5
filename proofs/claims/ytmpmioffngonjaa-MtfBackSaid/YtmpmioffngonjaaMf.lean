/- Layer 47: contracts of newRow, of IndexByte and of front. -/
import Derived.Test.YtmpmioffngonjaaMm
import Derived.Test.YtmpmioffngonjaaLi
import Derived.Test.YtmpmioffngonjaaSt
import Derived.Deep.WholeRow
import Derived.Lib.BytesEntry
namespace Go.Proofs.Ytmpmioffngonjaa
open Go.ChangeShapes Go.WideShapes Go.ChangeAt Go.RowKit
set_option linter.unusedVariables false
set_option maxRecDepth 100000
open MtfMath

def RowAt (w : World) (g : Nat) (r : List UInt8) : Prop := w.heap[g]? = some (.cells (byteCells r).toArray 108 (0, 0))
theorem bc_get (r : List UInt8) (j : Nat) (h : j < r.length) : (byteCells r).toArray[j]? = some (.int .u8 ((r.getD j 0).toNat : Int)) := by
  simp [byteCells, List.getD_eq_getElem?_getD, h]
theorem RowAt.cell {w : World} {g : Nat} {r : List UInt8} (h : RowAt w g r) (j : Nat) (hj : j < r.length) : w.cell? ⟨g, j, none⟩ = some (.int .u8 ((r.getD j 0).toNat : Int)) := cell_lit h j _ (bc_get r j hj)
theorem RowAt.free {w : World} {g : Nat} {r : List UInt8} (h : RowAt w g r) (j : Nat) : w.frozen? ⟨g, j, none⟩ = false := free_in h j
theorem bc_set (r : List UInt8) (j : Nat) (b : UInt8) : (byteCells r).toArray.setIfInBounds j (.int .u8 (b.toNat : Int)) = (byteCells (r.set j b)).toArray := by
  simp [byteCells, List.map_set]
theorem RowAt.set {w : World} {g : Nat} {r : List UInt8} (h : RowAt w g r) (j : Nat) (b : UInt8) (x : Int) (hx : x = (b.toNat : Int)) : RowAt (w.setCell ⟨g, j, none⟩ (.int .u8 x)) g (r.set j b) := by
  subst hx
  have := block_set h j (.int .u8 (b.toNat : Int))
  rw [bc_set] at this
  exact this
def rowTo (k : Nat) : List UInt8 := (List.range 256).map fun j => if j < k then UInt8.ofNat j else 0
theorem rowTo_len (k : Nat) : (rowTo k).length = 256 := by simp [rowTo]
theorem rowTo_all : rowTo 256 = all := by
  unfold rowTo all
  refine List.map_congr_left fun j hj => ?_
  rw [if_pos (by simpa using hj)]
theorem rowTo_set (k : Nat) (hk : k < 256) : (rowTo k).set k (UInt8.ofNat k) = rowTo (k + 1) := by
  refine List.ext_getElem (by simp [rowTo]) fun i h1 h2 => ?_
  rw [List.getElem_set]
  by_cases e : k = i
  · subst e; simp [rowTo]
  · rw [if_neg e]
    simp only [rowTo, List.getElem_map, List.getElem_range]
    by_cases h : i < k
    · rw [if_pos h, if_pos (by omega)]
    · rw [if_neg h, if_neg (by omega)]
theorem zero_row : Array.replicate 256 (Value.int .u8 0) = (byteCells (rowTo 0)).toArray := by
  have e : rowTo 0 = List.replicate 256 0 := by decide
  rw [e]; unfold byteCells; rw [List.map_replicate, List.toArray_replicate]; rfl
set_option maxHeartbeats 800000 in
theorem mNew (w : World) : Calls Try.prog 69 #[] w fun e w' => e = .returned (.pointer (some ⟨w.heap.size, 0, none⟩)) ∧ RowAt w' w.heap.size all ∧ Below w.heap.size w w' ∧ w'.heap.size = w.heap.size + 1 := by
  obtain ⟨hz, hi⟩ := zero_of_info (P := Try.prog) (t := 108) (v := .agg (Array.replicate 256 (.int .u8 0))) (n := 256) (by kernel_rfl)
  rw [zero_row] at hz
  obtain ⟨Z, hZ⟩ : ∃ Z, (byteCells (rowTo 0)).toArray = Z := ⟨_, rfl⟩
  have HZ := Lib.hid hZ
  rw [hZ] at hz
  clear hZ
  go_enter Try.func69, Try.ntmps69
  go_wp2
  go_loopw [5] (fun i wr => ∃ k : Nat, k ≤ 256 ∧ i = .int .i64 k ∧ RowAt wr w.heap.size (rowTo k) ∧ Below w.heap.size w wr ∧ wr.heap.size = w.heap.size + 1) (fun i _ => 256 - (intOf i).toNat)
  case atStart => exact ⟨0, by omega, rfl, by unfold RowAt; rw [HZ.out]; exact heap_alloc_new w _, by go_grown, by simp⟩
  case round =>
    obtain ⟨k, hk, rfl, hr, hb, hs⟩ := hrel
    by_cases hlt : k < 256
    · have c1 := hr.cell k (by rw [rowTo_len]; exact hlt)
      have f1 := hr.free k
      have HR := Lib.hid hr
      have HS := Lib.hid hs
      clear hr hs
      go_wp2
      go_roundw
      case rel => exact ⟨k + 1, by omega, by go_num, by rw [← rowTo_set k hlt]; exact HR.out.set k _ _ (by simp; omega), hb.setCell (by simp) _, by simp [HS.out]⟩
      case measure => simp [intOf]; omega
    · obtain rfl : k = 256 := by omega
      rw [rowTo_all] at hr
      have HR := Lib.hid hr
      have HS := Lib.hid hs
      clear hr hs
      go_wp2
      go_ret
      exact ⟨rfl, HR.out, hb, HS.out⟩
theorem idx_lib (r : List UInt8) (b : UInt8) (h : b ∈ r) : Lib.indexByte r b = (r.idxOf b : Nat) := by
  induction r with
  | nil => simp at h
  | cons c r ih =>
    rw [List.idxOf_cons]
    simp only [Lib.indexByte]
    by_cases hc : c = b
    · subst hc; simp
    · have h' : b ∈ r := by
        rcases List.mem_cons.1 h with e | e
        · exact absurd e.symm hc
        · exact e
      have e : (c == b) = false := beq_eq_false_iff_ne.2 hc
      rw [ih h', e]
      simp only [cond_false, Bool.false_eq_true, if_false]
      have : (((r.idxOf b : Nat) : Int) == -1) = false := by rw [beq_eq_false_iff_ne]; omega
      rw [this]
      simp
set_option maxHeartbeats 800000 in
theorem mIndex (w : World) (g c : Nat) (r : List UInt8) (hr : RowAt w g r) (hl : r.length = 256) (b : UInt8) (hb : b ∈ r) : Calls Try.prog 73 #[.slice (some ⟨g, 0, none⟩) 256 c, .int .u8 (b.toNat : Int)] w fun e w' => e = .returned (.int .i64 ((r.idxOf b : Nat) : Int)) ∧ w' = w := by
  have hrun := Lib.run_indexByteSlice (P := Try.prog) (w := w) g 0 256 c (r.map fun b => (b.toNat : Int)) (by simp [hl]) (fun i hi => by
    have h := hr.cell i (by omega)
    rw [Nat.zero_add, h]
    simp [List.getD_eq_getElem?_getD, hl, hi]) (b.toNat : Int)
  have e1 : Lib.bytesOf (r.map fun b => (b.toNat : Int)) = r := by
    unfold Lib.bytesOf
    rw [List.map_map]
    conv => rhs; rw [← List.map_id r]
    refine List.map_congr_left fun x _ => ?_
    simp
  have e2 : ((b.toNat : Int)).toNat.toUInt8 = b := by simp
  rw [e1, e2, idx_lib r b hb] at hrun
  have HRUN := Lib.hid hrun
  clear hrun e1 e2
  go_enter Try.func73, Try.ntmps73
  go_wp2
  rw [run_callFunc_extern Try.func79 (by kernel_rfl) (by kernel_rfl) (by kernel_rfl) (e := Extern.BytealgIndexByte.indexByte) (by kernel_rfl), HRUN.out]
  simp only [Result.andThen]
  rw [Oper.upon_value]
  go_wp2
  go_ret
  exact ⟨rfl, rfl⟩
end Go.Proofs.Ytmpmioffngonjaa
