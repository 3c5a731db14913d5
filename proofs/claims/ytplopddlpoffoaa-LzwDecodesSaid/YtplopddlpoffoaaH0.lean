/- Bytes as strings; numbers as bytes. -/
import Derived.Test.YtplopddlpoffoaaK2
import Derived.Test.YtplopddlpoffoaaBv
import Derived.IntWalk
import Derived.Laws.IdiomStrings
namespace Go.Proofs.Ytplopddlpoffoaa
open Go.ChangeShapes Go.WideShapes Go.ChangeAt Go.RowKit
set_option linter.unusedVariables false
set_option maxRecDepth 100000
/-- Bytes as a string. -/
def sB (l : List UInt8) : ByteArray := ⟨l.toArray⟩
theorem sB_size (l : List UInt8) : (sB l).size = l.length := by unfold sB; simp [ByteArray.size]
theorem sB_list (l : List UInt8) : (sB l).data.toList = l := by unfold sB; simp
theorem sB_of (s : ByteArray) : sB s.data.toList = s := by unfold sB; simp
theorem sB_app (l m : List UInt8) : sB l ++ sB m = sB (l ++ m) := by
  rw [← sB_of (sB l ++ sB m)]
  unfold sB; simp
theorem sB_get (l : List UInt8) (k : Nat) (h : k < l.length) (h2 : k < (sB l).size) : ((sB l)[k]'h2) = l.getD k 0 := by
  unfold sB
  simp [List.getD_eq_getElem?_getD, h]
  first | rfl | (show (l.toArray[k]'_) = _; simp)
theorem sB_cut (l : List UInt8) (a b : Nat) : (sB l).extract a b = sB ((l.take b).drop a) := by
  apply ByteArray.ext
  apply Array.ext'
  rw [ByteArray.data_extract]
  unfold sB
  simp [List.drop_take]
theorem sB_drop (l : List UInt8) (a : Nat) : (sB l).extract a (sB l).size = sB (l.drop a) := by
  rw [sB_cut, sB_size, List.take_length]
/-- The n lowest bytes, the lowest first. -/
def lowB (x : Nat) : Nat → List UInt8
  | 0 => []
  | n + 1 => lowB x n ++ [UInt8.ofNat (x / 2 ^ (8 * n))]
theorem lowB_len (x n : Nat) : (lowB x n).length = n := by
  induction n with
  | zero => rfl
  | succ n ih => simp [lowB, ih]
/-- The number of bytes, the lowest first. -/
def num : List UInt8 → Nat
  | [] => 0
  | a :: l => a.toNat + 256 * num l
theorem num_lt (l : List UInt8) : num l < 256 ^ l.length := by
  induction l with
  | nil => simp [num]
  | cons a l ih =>
    simp only [num, List.length_cons, Nat.pow_succ]
    have := a.toNat_lt
    omega
theorem num_low1 (x : Nat) (h : x < 256) : num (lowB x 1) = x := by simp [lowB, num]; omega
theorem num_low2 (x : Nat) (h : x < 65536) : num (lowB x 2) = x := by simp [lowB, num]; omega
theorem num_low4 (x : Nat) (h : x < 4294967296) : num (lowB x 4) = x := by simp [lowB, num]; omega
theorem conv1 (Y : World) (z : Int) (c : UInt8) (T : Nat) (h : z = (c.toNat : Int)) : (convert 94 9 (.slice (some ⟨Y.heap.size, 0, none⟩) 1 1)).run Try.prog (Y.alloc (.cells #[.int .u8 z] T)) = .ok (.string (sB [c])) (Y.alloc (.cells #[.int .u8 z] T)) := by
  subst h
  exact run_convert_bytes_back (P := Try.prog) _ 94 9 5 ⟨Y.heap.size, 0, none⟩ 1 [c] Try.underlying94 Try.underlying5 Try.underlying9 (fun j hj => by
    obtain rfl : j = 0 := by simpa using hj
    simp [Addr.add])
/-- A block of bytes as a string. -/
theorem conv_block {w : World} {g n c : Nat} {l : List UInt8} {T : Nat} {fr : Nat × Nat} (h : w.heap[g]? = some (.cells (cells8 l).toArray T fr)) (hn : n = l.length) : (convert 94 9 (.slice (some ⟨g, 0, none⟩) n c)).run Try.prog w = .ok (.string (sB l)) w := by
  subst hn
  refine run_convert_bytes_back (P := Try.prog) _ 94 9 5 ⟨g, 0, none⟩ c l Try.underlying94 Try.underlying5 Try.underlying9 (fun j hj => ?_)
  have ha : (⟨g, 0, none⟩ : Addr).add j = ⟨g, j, none⟩ := by unfold Addr.add; split <;> simp_all
  rw [ha, cell_in h]
  simp [cells8, hj]
/-- The same, behind one box. -/
theorem conv1b (w : World) (o : Obj) (z : Int) (c : UInt8) (T : Nat) (h : z = (c.toNat : Int)) : (convert 94 9 (.slice (some ⟨w.heap.size + 1, 0, none⟩) 1 1)).run Try.prog ((w.alloc o).alloc (.cells #[.int .u8 z] T)) = .ok (.string (sB [c])) ((w.alloc o).alloc (.cells #[.int .u8 z] T)) := by
  have := conv1 (w.alloc o) z c T h
  rw [show (w.alloc o).heap.size = w.heap.size + 1 by simp] at this
  exact this
theorem conv5b (w : World) (o : Obj) (l : List UInt8) (z0 z1 z2 z3 z4 : Int) (T : Nat) (h : cells8 l = [.int .u8 z0, .int .u8 z1, .int .u8 z2, .int .u8 z3, .int .u8 z4]) :
    (convert 94 9 (.slice (some ⟨w.heap.size + 1, 0, none⟩) 5 5)).run Try.prog ((w.alloc o).alloc (.cells #[.int .u8 z0, .int .u8 z1, .int .u8 z2, .int .u8 z3, .int .u8 z4] T)) = .ok (.string (sB l)) ((w.alloc o).alloc (.cells #[.int .u8 z0, .int .u8 z1, .int .u8 z2, .int .u8 z3, .int .u8 z4] T)) := by
  have hg := heap_two_last w o (.cells #[.int .u8 z0, .int .u8 z1, .int .u8 z2, .int .u8 z3, .int .u8 z4] T)
  refine conv_block (l := l) (T := T) (fr := (0, 0)) ?_ (by rw [← cells8_len, h]; rfl)
  rw [h]; exact hg
theorem u8w (n : Nat) : ((UInt8.ofNat n).toNat : Int) = (n : Int) % 256 := by simp
end Go.Proofs.Ytplopddlpoffoaa
