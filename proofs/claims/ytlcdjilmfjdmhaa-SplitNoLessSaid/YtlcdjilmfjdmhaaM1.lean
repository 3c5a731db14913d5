/- Layers 19 and 21, the document's: how much two ends share. -/
import Derived.Test.YtlcdjilmfjdmhaaK3
import Derived.Laws.IdiomStrings
namespace Go.Proofs.Ytlcdjilmfjdmhaa
open Go.ChangeShapes Go.WideShapes Go.ChangeAt Go.RowKit
set_option linter.unusedVariables false
set_option linter.unusedSimpArgs false
set_option maxRecDepth 100000
def sM (l : List UInt8) : ByteArray := ⟨l.toArray⟩
theorem sM_size (l : List UInt8) : (sM l).size = l.length := by unfold sM; simp [ByteArray.size]
theorem sM_list (l : List UInt8) : (sM l).data.toList = l := by unfold sM; simp
theorem sM_self (s : ByteArray) : sM s.data.toList = s := by unfold sM; cases s; rfl
/-- How many bytes two rows share. -/
def com : List UInt8 → List UInt8 → Nat
  | a :: xs, b :: ys => if a = b then com xs ys + 1 else 0
  | _, _ => 0
theorem com_le : ∀ a b : List UInt8, com a b ≤ a.length ∧ com a b ≤ b.length
  | [], b => by simp [com]
  | a :: xs, [] => by simp [com]
  | a :: xs, b :: ys => by
    have := com_le xs ys
    rw [com]
    split <;> simp <;> omega
theorem com_iff : ∀ (a b : List UInt8) (n : Nat), n ≤ com a b → (n < com a b ↔ n < a.length ∧ n < b.length ∧ a.getD n 0 = b.getD n 0)
  | [], b, n, h => by simp [com]
  | a :: xs, [], n, h => by simp [com]
  | a :: xs, b :: ys, n, h => by
    rw [com] at h ⊢
    by_cases e : a = b
    · rw [if_pos e] at h ⊢
      cases n with
      | zero => simp [e]
      | succ n =>
        have := com_iff xs ys n (by omega)
        simp only [List.length_cons, List.getD_cons_succ]
        rw [show n + 1 < com xs ys + 1 ↔ n < com xs ys by omega, this]
        simp only [Nat.add_lt_add_iff_right]
    · rw [if_neg e] at h ⊢
      have : n = 0 := by omega
      subst this
      simp [e]
theorem drop_getD8 (l : List UInt8) (i n : Nat) : (l.drop i).getD n 0 = l.getD (i + n) 0 := by simp [List.getD_eq_getElem?_getD, List.getElem?_drop]
/-- How many bytes the ends at two places share. -/
def comAt (L : List UInt8) (i k : Nat) : Nat := com (L.drop i) (L.drop k)
theorem comAt_iff (L : List UInt8) (i k n : Nat) (h : n ≤ comAt L i k) : n < comAt L i k ↔ i + n < L.length ∧ k + n < L.length ∧ L.getD (i + n) 0 = L.getD (k + n) 0 := by
  unfold comAt at h ⊢
  rw [com_iff _ _ n h, drop_getD8, drop_getD8, List.length_drop, List.length_drop]
  constructor <;> rintro ⟨h1, h2, h3⟩ <;> exact ⟨by omega, by omega, h3⟩
theorem comAt_le (L : List UInt8) (i k : Nat) : comAt L i k ≤ L.length - i ∧ comAt L i k ≤ L.length - k := by
  have := com_le (L.drop i) (L.drop k)
  rw [List.length_drop, List.length_drop] at this
  exact this
theorem ixM (L : List UInt8) (i : Int) (n : Nat) (hi : i = n) (hn : n < L.length) (W : World) : (Instr.index 9 (.string (sM L)) (.int .i64 i)).run Try.prog W = .ok (.int .u8 ((L.getD n 0).toNat : Int)) W := by
  subst hi
  have hsz := sM_size L
  rw [run_index_string (h := Try.underlying9), dif_pos ⟨by omega, by omega⟩]
  have : (sM L)[((n : Int)).toNat]'(by omega) = L.getD n 0 := by
    show (sM L).data[((n : Int)).toNat]'_ = _
    simp [sM, List.getD_eq_getElem?_getD, hn]
  rw [this]
end Go.Proofs.Ytlcdjilmfjdmhaa
