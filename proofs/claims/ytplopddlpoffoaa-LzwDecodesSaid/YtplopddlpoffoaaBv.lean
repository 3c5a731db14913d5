/- Layers 1 and 2: the document's Bytes, of a row of bools. -/
import Derived.Test.YtplopddlpoffoaaOwn
import Derived.Test.YtplopddlpoffoaaBm
import Derived.IntWalk
import Derived.Laws.IdiomStrings
namespace Go.Proofs.Ytplopddlpoffoaa
open Go.ChangeShapes Go.WideShapes Go.ChangeAt Go.RowKit
set_option linter.unusedVariables false
set_option maxRecDepth 100000
open Bits

def cells8 (l : List UInt8) : List Value := l.map fun b => .int .u8 (b.toNat : Int)
theorem cells8_snoc (l : List UInt8) (b : UInt8) : cells8 l ++ [.int .u8 (b.toNat : Int)] = cells8 (l ++ [b]) := by simp [cells8]
theorem cells8_set (l : List UInt8) (k : Nat) (b : UInt8) : (cells8 l).set k (.int .u8 (b.toNat : Int)) = cells8 (l.set k b) := by unfold cells8; rw [List.map_set]
theorem cells8_len (l : List UInt8) : (cells8 l).length = l.length := by simp [cells8]
theorem conv_own8 {P : Program} {w : World} {base n : Nat} {src dst e : TypeId} {v : Value} {l : List UInt8} (hs : P.underlying src = some (.slice e)) (he : P.underlying e = some (.int .u8)) (hd : P.underlying dst = some .string)
    (h : w.ownsRow base e 1 v n (cells8 l)) : (convert src dst v).run P w = .ok (.string ⟨l.toArray⟩) w := by
  have hl := h.1
  rw [cells8_len, Nat.mul_one] at hl
  rcases h.2 with ⟨rfl, h0⟩ | ⟨g, cap, cur, rfl, -, -, -, -, -, -⟩
  · have : l = [] := List.length_eq_zero_iff.1 (by omega)
    subst this
    rw [run_convert_bytes_string w src dst e none 0 0 hs he hd]
    first | rfl | (simp [Conv.bytesToString, Sem.run_pure, go_sem]; rfl) | simp [Conv.bytesToString, Sem.run_pure, go_sem]
  · subst hl
    exact run_convert_bytes_back (P := P) w src dst e ⟨g, 0, none⟩ cap l hs he hd (fun j hj => h.cells (g := g) rfl j _ (by simp [cells8, hj]))
theorem pack_split (l : List Bool) : ∃ bs r, l = spread bs ++ r ∧ r.length = l.length % 8 ∧ bs.length = l.length / 8 := by
  obtain ⟨k, hk, e, hm⟩ := spread_pack (l.take (8 * (l.length / 8)))
  have ht : (l.take (8 * (l.length / 8))).length = 8 * (l.length / 8) := by rw [List.length_take]; omega
  rw [ht] at hm
  have k0 : k = 0 := by omega
  subst k0
  simp only [List.replicate_zero, List.append_nil] at e
  refine ⟨pack (l.take (8 * (l.length / 8))), l.drop (8 * (l.length / 8)), by rw [e, List.take_append_drop], by rw [List.length_drop]; omega, by rw [pack_length, ht]; omega⟩
/-- The bytes, with a byte for the next bit. -/
def opened (l : List Bool) : List UInt8 := if l.length % 8 = 0 then pack l ++ [0] else pack l
theorem opened_form (l : List Bool) (bs : List UInt8) (r : List Bool) (h : l = spread bs ++ r) (hr : r.length = l.length % 8) : opened l = bs ++ [UInt8.ofNat (wordOf r)] := by
  unfold opened
  split
  · rename_i h0
    have : r = [] := List.length_eq_zero_iff.1 (by omega)
    subst this
    rw [h, List.append_nil]
    have := pack_spread bs []
    rw [List.append_nil, pack_nil, List.append_nil] at this
    rw [this]; rfl
  · rename_i h0
    have hne : r ≠ [] := by rintro rfl; simp at hr; omega
    rw [h, pack_spread, pack_few r hne (by omega)]
theorem opened_next (l : List Bool) (b : Bool) : ∃ W : Nat, W < 2 ^ (l.length % 8) ∧ (opened l).length = l.length / 8 + 1 ∧ ((opened l).getD (l.length / 8) 0).toNat = W ∧
    pack (l ++ [b]) = if b then (opened l).set (l.length / 8) (UInt8.ofNat (W + 2 ^ (l.length % 8))) else opened l := by
  obtain ⟨bs, r, h, hr, hb⟩ := pack_split l
  have ho := opened_form l bs r h hr
  have hw := wordOf_lt r
  rw [hr] at hw
  have h8 : 2 ^ (l.length % 8) ≤ 2 ^ 7 := Nat.pow_le_pow_right (by decide) (by omega)
  refine ⟨wordOf r, hw, by rw [ho]; simp [hb], ?_, ?_⟩
  · rw [ho, ← hb]
    simp [List.getD_eq_getElem?_getD]
    omega
  · have e : pack (l ++ [b]) = bs ++ [UInt8.ofNat (wordOf (r ++ [b]))] := by
      conv => lhs; rw [h]
      rw [List.append_assoc, pack_spread, pack_few (r ++ [b]) (by simp) (by simp; omega)]
    rw [e, ho, wordOf_append, hr]
    cases b
    · simp [wordOf]
    · simp only [wordOf, if_true, Nat.mul_zero, Nat.add_zero, Nat.mul_one]
      rw [← hb]
      simp
theorem or_u8 (x y : Nat) (hx : x < 2 ^ 8) (hy : y < 2 ^ 8) : bits .or .u8 (x : Int) (y : Int) = ((x ||| y : Nat) : Int) :=
  (bits_nat .u8 8 (by decide) (fun n h1 h2 => by first | exact IntWalk.u8_in n (by omega) | (unfold IntKind.wrap; simp; omega)) x y hx hy).2
theorem or_bit (W J : Nat) (hJ : J < 8) (hW : W < 2 ^ J) : bits .or .u8 (W : Int) (IntKind.u8.wrap (2 ^ J)) = (((UInt8.ofNat (W + 2 ^ J)).toNat : Nat) : Int) := by
  have hp : 2 ^ J ≤ 2 ^ 7 := Nat.pow_le_pow_right (by decide) (by omega)
  have e1 : (2 : Int) ^ J = ((2 ^ J : Nat) : Int) := by simp
  have e2 : IntKind.u8.wrap ((2 ^ J : Nat) : Int) = ((2 ^ J : Nat) : Int) := by first | exact IntWalk.u8_in _ (by omega) | (unfold IntKind.wrap; simp; omega)
  rw [e1, e2, or_u8 W (2 ^ J) (by omega) (by omega)]
  have h := Nat.two_pow_add_eq_or_of_lt hW 1
  rw [Nat.mul_one] at h
  rw [show W ||| 2 ^ J = W + 2 ^ J by rw [Nat.or_comm, ← h]; omega]
  simp; omega
end Go.Proofs.Ytplopddlpoffoaa
