/- Words on strings made of rows of bytes that a call owns. -/
import Derived.Test.YtmpmioffngonjaaOwn
import Derived.Laws.IdiomStrings
import Derived.Lib.UnsafeStr
namespace Go.Proofs.Ytmpmioffngonjaa
open Go.ChangeShapes Go.WideShapes Go.ChangeAt Go.RowKit
set_option linter.unusedVariables false
set_option maxRecDepth 100000

def byteCells (l : List UInt8) : List Value := l.map fun b => .int .u8 (b.toNat : Int)
theorem byteCells_snoc (l : List UInt8) (b : UInt8) : byteCells (l ++ [b]) = byteCells l ++ [.int .u8 (b.toNat : Int)] := by simp [byteCells]
theorem byteCells_len (l : List UInt8) : (byteCells l).length = l.length := by simp [byteCells]
theorem conv_nil {P : Program} {w : World} {src dst e : TypeId} (hs : P.underlying src = some (.slice e)) (he : P.underlying e = some (.int .u8)) (hd : P.underlying dst = some .string) : (convert src dst (.slice none 0 0)).run P w = .ok (.string ⟨#[]⟩) w := by
  rw [run_convert_bytes_string w src dst e none 0 0 hs he hd]
  first | rfl | (simp [Conv.bytesToString, Sem.run_pure, go_sem]; rfl) | simp [Conv.bytesToString, Sem.run_pure, go_sem]
/-- 'string(b)' of a row of bytes that the call owns, nil too. -/
theorem conv_own {P : Program} {w : World} {base n : Nat} {src dst e : TypeId} {v : Value} {l : List UInt8} (hs : P.underlying src = some (.slice e)) (he : P.underlying e = some (.int .u8)) (hd : P.underlying dst = some .string)
    (h : w.ownsRow base e 1 v n (byteCells l)) : (convert src dst v).run P w = .ok (.string ⟨l.toArray⟩) w := by
  have hl := h.1
  rw [byteCells_len, Nat.mul_one] at hl
  rcases h.2 with ⟨rfl, h0⟩ | ⟨g, cap, cur, rfl, -, -, -, -, -, -⟩
  · have : l = [] := List.length_eq_zero_iff.1 (by omega)
    subst this
    exact conv_nil hs he hd
  · subst hl
    exact run_convert_bytes_back (P := P) w src dst e ⟨g, 0, none⟩ cap l hs he hd (fun j hj => h.cells (g := g) rfl j _ (by simp [byteCells, hj]))
theorem bytesRow_get (s : ByteArray) (cap j : Nat) (h : j < s.size) : (bytesRow s cap)[j]? = some (.int .u8 ((s.data.toList.getD j 0).toNat : Int)) := by
  have h' : j < s.data.size := h
  unfold bytesRow
  rw [Array.getElem?_append_left (by simpa using h'), Array.getElem?_map, Array.getElem?_eq_getElem h']
  simp only [Array.getElem?_toList, List.getD_eq_getElem?_getD, Array.getElem?_eq_getElem h', Option.map_some, Option.getD_some]
theorem bytesRow_size (s : ByteArray) (cap : Nat) : s.size ≤ (bytesRow s cap).size := by
  unfold bytesRow; simp
/-- A block whose first cells are the bytes of f, and whose mark lies behind them. -/
def Held (w : World) (g n : Nat) (f : Nat → UInt8) : Prop := ∃ C N, w.heap[g]? = some (.cells C 5 (N, N + 1)) ∧ n ≤ N ∧ n ≤ C.size ∧ ∀ j, j < n → C[j]? = some (.int .u8 ((f j).toNat : Int))
theorem Held.cell {w : World} {g n : Nat} {f : Nat → UInt8} (h : Held w g n f) {j : Nat} (hj : j < n) : w.cell? ⟨g, j, none⟩ = some (.int .u8 ((f j).toNat : Int)) := by
  obtain ⟨C, N, hg, -, -, hc⟩ := h
  exact cell_lit hg j _ (hc j hj)
theorem Held.free {w : World} {g n : Nat} {f : Nat → UInt8} (h : Held w g n f) {j : Nat} (hj : j < n) : w.frozen? ⟨g, j, none⟩ = false := by
  obtain ⟨C, N, hg, hN, -, hc⟩ := h
  simp [World.frozen?, hg]; omega
theorem Held.congr {w : World} {g n : Nat} {f f' : Nat → UInt8} (h : Held w g n f) (e : ∀ j, j < n → f j = f' j) : Held w g n f' := by
  obtain ⟨C, N, hg, hN, hn, hc⟩ := h
  exact ⟨C, N, hg, hN, hn, fun j hj => by rw [← e j hj]; exact hc j hj⟩
theorem Held.set {w : World} {g n K : Nat} {f f' : Nat → UInt8} (h : Held w g n f) (hK : K < n) (x : Int) (hx : x = ((f' K).toNat : Int)) (e : ∀ j, j < n → j ≠ K → f j = f' j) : Held (w.setCell ⟨g, K, none⟩ (.int .u8 x)) g n f' := by
  obtain ⟨C, N, hg, hN, hn, hc⟩ := h
  subst hx
  refine ⟨C.setIfInBounds K (.int .u8 ((f' K).toNat : Int)), N, ?_, hN, by simpa using hn, fun j hj => ?_⟩
  · rw [setCell_eq_setRow _ g K C 5 (N, N + 1) _ hg]
    exact setRow_heap _ _ _ _ _ _ hg
  · rw [Array.getElem?_setIfInBounds]
    by_cases hjK : K = j
    · subst hjK; rw [if_pos rfl, if_pos (by omega)]
    · rw [if_neg hjK, hc j hj, e j hj (fun e => hjK e.symm)]
theorem Held.drew {w : World} {g n : Nat} {f : Nat → UInt8} (h : Held w g n f) : Held w.drew g n f := h
theorem Held.new (w : World) (s : ByteArray) (cap : Nat) : Held (w.alloc (.cells (bytesRow s cap) 5 ((bytesRow s cap).size, (bytesRow s cap).size + 1))) w.heap.size s.size (fun j => s.data.toList.getD j 0) := by
  exact ⟨_, _, heap_alloc_new w _, bytesRow_size s cap, bytesRow_size s cap, fun j hj => bytesRow_get s cap j hj⟩
theorem Held.conv {P : Program} {w : World} {g n cap : Nat} {f : Nat → UInt8} {src dst : TypeId} {l : List UInt8} (h : Held w g n f) (hs : P.underlying src = some (.slice 5)) (he : P.underlying 5 = some (.int .u8)) (hd : P.underlying dst = some .string) (hl : l.length = n) (e : ∀ j, j < n → l.getD j 0 = f j) :
    (convert src dst (.slice (some ⟨g, 0, none⟩) n cap)).run P w = .ok (.string ⟨l.toArray⟩) w := by
  subst hl
  refine run_convert_bytes_back (P := P) w src dst 5 ⟨g, 0, none⟩ cap l hs he hd (fun j hj => ?_)
  have h1 := h.cell hj
  rw [← e j hj] at h1
  have e2 : (⟨g, 0, none⟩ : Addr).add j = ⟨g, j, none⟩ := by unfold Addr.add; split <;> simp_all
  rw [e2, h1]
  simp [List.getD_eq_getElem?_getD, hj]
theorem s_get (s : ByteArray) (k : Nat) (h : k < s.size) : s.data.toList.getD k 0 = s[k] := by
  have h' : k < s.data.size := h
  simp only [List.getD_eq_getElem?_getD, Array.getElem?_toList, Array.getElem?_eq_getElem h', Option.getD_some]
  rfl
end Go.Proofs.Ytmpmioffngonjaa
