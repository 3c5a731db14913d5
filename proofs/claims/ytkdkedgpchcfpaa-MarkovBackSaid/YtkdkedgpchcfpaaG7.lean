/- Layer 45, the document's: next, New, part. -/
import Derived.Test.YtkdkedgpchcfpaaG4
import Derived.Test.YtkdkedgpchcfpaaBv
import Derived.Laws.IdiomStrings
namespace Go.Proofs.Ytkdkedgpchcfpaa
open Go.ChangeShapes Go.WideShapes Go.ChangeAt Go.RowKit Go.Deep
set_option linter.unusedVariables false
set_option maxRecDepth 100000
open Range

/-- Bytes as a string. -/
def sB (l : List UInt8) : ByteArray := ⟨l.toArray⟩
theorem sB_size (l : List UInt8) : (sB l).size = l.length := by unfold sB; simp [ByteArray.size]
theorem sB_list (l : List UInt8) : (sB l).data.toList = l := by unfold sB; simp
theorem sB_of (s : ByteArray) : sB s.data.toList = s := by unfold sB; simp
theorem sB_app (s : ByteArray) (l : List UInt8) : (s ++ sB l).data.toList = s.data.toList ++ l := by unfold sB; simp
theorem sB_get (l : List UInt8) (k : Nat) (h : k < l.length) (h2 : k < (sB l).size) : ((sB l)[k]'h2) = l.getD k 0 := by
  unfold sB
  simp [List.getD_eq_getElem?_getD, h]
  first | rfl | (show (l.toArray[k]'_) = _; simp)
theorem sB_tail (l : List UInt8) : (sB l).extract 1 (sB l).size = sB (l.drop 1) := by
  apply ByteArray.ext
  apply Array.ext'
  rw [ByteArray.data_extract]
  have e : (sB l).size = l.length := sB_size l
  rw [e]
  unfold sB
  simp
  rw [List.take_of_length_le (by simp)]
/-- A reader's value. -/
abbrev rV (d : Dec) : Value := .agg #[.int .u64 d.a, .int .u64 d.b, .int .u64 d.x, .string (sB d.s)]
theorem dNextNo (d : Dec) (hx : d.x < 4294967296) (h0 : d.s = []) (w : World) : Calls Try.prog 52 #[.agg #[.int .u64 d.a, .int .u64 d.b, .int .u64 d.x, .string (sB d.s)]] w fun e w' =>
    e = .returned (rV ⟨d.a, d.b, (moveB d.x d.s).1, (moveB d.x d.s).2⟩) ∧ Below w.heap.size w w' := by
  obtain ⟨a, b, x, s⟩ := d
  simp only at h0 hx ⊢
  subst h0
  have HS : Hid (sB [] = ⟨#[]⟩) := rfl
  rw [HS.out]
  have HE := Lib.hid (show (x : Int) % 16777216 * 256 = ((x % 16777216 * 256 + 0 : Nat) : Int) by omega)
  go_enter Try.func52, Try.ntmps52
  go_wp2
  rw [HE.out]
  exact bodyPost_ret (v := rV ⟨a, b, x % 16777216 * 256 + 0, []⟩) (by simp [results, Try.results52, go_sem, HS.out]) rfl ⟨rfl, by go_grown⟩
theorem dNextYes (a b x : Nat) (c : UInt8) (s : List UInt8) (hl : s.length ≤ 10000000) (hx : x < 4294967296) (w : World) : Calls Try.prog 52 #[.agg #[.int .u64 a, .int .u64 b, .int .u64 x, .string (sB (c :: s))]] w fun e w' =>
    e = .returned (rV ⟨a, b, x % 16777216 * 256 + c.toNat, s⟩) ∧ Below w.heap.size w w' := by
  have hsz := sB_size (c :: s)
  have h0 : 0 < (sB (c :: s)).size := by rw [hsz]; simp
  have hm : (sB (c :: s)).size ≤ 10000001 := by rw [hsz]; simp; omega
  have hg := sB_get (c :: s) 0 (by simp) h0
  have hz8 : c.toNat < 256 := c.toNat_lt
  have HG := Lib.hid hg
  clear hg hsz
  go_enter Try.func52, Try.ntmps52
  go_wp2
  have e1 : ((sB (c :: s))[0]'h0).toNat = c.toNat := by rw [HG.out]; rfl
  have e2 : IntKind.u64.wrap ((x : Int) % 16777216 * 256 + IntKind.u64.wrap (c.toNat : Int)) = ((x % 16777216 * 256 + c.toNat : Nat) : Int) := by
    rw [IntWalk.u64_in (c.toNat : Int) (by omega)]
    rw [IntWalk.u64_in _ (by omega)]
    omega
  have e3 : (sB (c :: s)).extract 1 (sB (c :: s)).size = sB s := sB_tail (c :: s)
  rw [e1, e2, e3]
  exact bodyPost_ret (v := rV ⟨a, b, x % 16777216 * 256 + c.toNat, s⟩) (by simp [results, Try.results52, go_sem]) rfl ⟨rfl, by go_grown⟩
theorem dNext (d : Dec) (hl : d.s.length ≤ 10000000) (hx : d.x < 4294967296) (w : World) : Calls Try.prog 52 #[.agg #[.int .u64 d.a, .int .u64 d.b, .int .u64 d.x, .string (sB d.s)]] w fun e w' =>
    e = .returned (rV ⟨d.a, d.b, (moveB d.x d.s).1, (moveB d.x d.s).2⟩) ∧ Below w.heap.size w w' := by
  obtain ⟨a, b, x, s⟩ := d
  cases s with
  | nil => exact dNextNo _ hx rfl w
  | cons c s => exact dNextYes a b x c s (by simp at hl; omega) hx w
end Go.Proofs.Ytkdkedgpchcfpaa
