/- Contracts of layer 1's writer: Put, Align, Len, Bytes. -/
import Derived.Test.YtplopddlpoffoaaBx
import Derived.Test.YtplopddlpoffoaaBn
namespace Go.Proofs.Ytplopddlpoffoaa
open Go.ChangeShapes Go.WideShapes Go.ChangeAt Go.RowKit
set_option linter.unusedVariables false
set_option maxRecDepth 100000
open Bits

def IsWriter (w : World) (g B : Nat) (l : List Bool) : Prop := ∃ v bs r n, Raw w g B v bs r n ∧ n < 8 ∧ r < 2 ^ n ∧ spread bs ++ bitsOf r n = l
/-- The blocks that a writer has. -/
def foot (w : World) (g k : Nat) : Prop := k = g ∨ ∃ v, w.cell? ⟨g, 0, none⟩ = some v ∧ v.ownBlock = some k
theorem wPutNone (x n : Int) (w : World) : Calls Try.prog 41 #[.pointer none, .int .u64 x, .int .i64 n] w fun e w' => e = .returned (.int .i64 1) ∧ Below w.heap.size w w' := by
  go_enter Try.func41, Try.ntmps41
  go_wp2
  go_ret
  exact ⟨rfl, by go_grown⟩
theorem wPutOut (p : Addr) (x : Nat) (n : Int) (h : n < 0 ∨ 56 < n ∨ (0 ≤ n ∧ 2 ^ n.toNat ≤ x)) (hx : x < 2 ^ 64) (w : World) : Calls Try.prog 41 #[.pointer (some p), .int .u64 x, .int .i64 n] w fun e w' => e = .returned (.int .i64 2) ∧ Below w.heap.size w w' := by
  by_cases h1 : n < 0
  · go_enter Try.func41, Try.ntmps41
    go_wp2
    go_ret
    exact ⟨rfl, by go_grown⟩
  · by_cases h2 : 56 < n
    · go_enter Try.func41, Try.ntmps41
      go_wp2
      go_ret
      exact ⟨rfl, by go_grown⟩
    · obtain ⟨m, rfl⟩ : ∃ m : Nat, n = m := ⟨n.toNat, by omega⟩
      have hq : 2 ^ m ≤ x := by
        rcases h with h | h | h
        · omega
        · omega
        · simpa using h.2
      have h3 : 1 ≤ x / 2 ^ m := (Nat.one_le_div_iff (Nat.pow_pos (by decide))).2 hq
      have e3 : (((x : Int) / 2 ^ m) == 0) = false := by
        rw [beq_eq_false_iff_ne]
        have : (x : Int) / 2 ^ m = ((x / 2 ^ m : Nat) : Int) := by simp
        rw [this]; omega
      have e4 : (((x : Int) / 2 ^ m) != 0) = true := by rw [bne, e3]; rfl
      clear h hq h3 hx
      go_enter Try.func41, Try.ntmps41
      go_wp2
      go_ret
      exact ⟨rfl, by go_grown⟩
def PutPost (w : World) (g B : Nat) (l : List Bool) (e : Ending) (w' : World) : Prop :=
  e = .returned (.int .i64 0) ∧ IsWriter w' g B l ∧ Keeps (foot w g) w w' ∧ ∀ k, foot w' g k → foot w g k ∨ w.heap.size ≤ k
theorem heap_alloc_drew (X : World) (o : Obj) (n : Nat) (h : n = X.heap.size) : (X.alloc o).drew.heap[n]? = some o := by subst h; exact heap_alloc_new X o
theorem put_lt (r x m n : Nat) (hr : r < 2 ^ m) (hx : x < 2 ^ n) : r + x * 2 ^ m < 2 ^ (m + n) := by
  have h1 : (x + 1) * 2 ^ m ≤ 2 ^ n * 2 ^ m := Nat.mul_le_mul_right _ hx
  rw [Nat.add_mul] at h1
  rw [Nat.add_comm m n, Nat.pow_add]
  omega
theorem put_or (r x m n : Nat) (hr : r < 2 ^ m) (hm : m < 8) (hx : x < 2 ^ n) (hn : n ≤ 56) : bits .or .u64 (r : Int) (IntKind.u64.wrap ((x : Int) * 2 ^ m)) = ((r + x * 2 ^ m : Nat) : Int) := by
  have h1 := put_lt r x m n hr hx
  have h2 : 2 ^ (m + n) ≤ 2 ^ 64 := Nat.pow_le_pow_right (by decide) (by omega)
  have e1 : (x : Int) * 2 ^ m = ((x * 2 ^ m : Nat) : Int) := by simp
  rw [e1, wrap_u64_nat _ (by omega), or_u64 _ _ (by omega) (by omega)]
  congr 1
  rw [Nat.or_comm, Nat.mul_comm, ← Nat.two_pow_add_eq_or_of_lt hr]; omega
/-- The writer's block behind both stores, and the rest as it was. -/
theorem put_mid {w : World} {g B : Nat} {v : Value} {bs : List UInt8} {r n : Nat} {r' n' : Nat} (h : Raw w g B v bs r n) :
    Raw (((w.setCell ⟨g, 1, none⟩ (.int .u64 (r' : Int))).setCell ⟨g, 2, none⟩ (.int .i64 (n' : Int))).alloc (.cells #[.pointer (some ⟨g, 0, none⟩)] 78)).drew g B v bs r' n' := by
  obtain ⟨hg, hown, hB, hbl⟩ := h
  have hne := own_ne hown hg (by decide)
  refine ⟨heap_old (block_set (block_set hg 1 _) 2 _) _, ?_, by simp; omega, hbl⟩
  exact (ownsRow_setCell_other (ownsRow_setCell_other hown (a := ⟨g, 1, none⟩) hne _) (a := ⟨g, 2, none⟩) hne _).alloc _
set_option maxHeartbeats 1600000 in
theorem wPut (w : World) (g B : Nat) (l : List Bool) (x n : Nat) (h : IsWriter w g B l) (hn : n ≤ 56) (hx : x < 2 ^ n) (hl : l.length + n ≤ 1000000000000) :
    Calls Try.prog 41 #[.pointer (some ⟨g, 0, none⟩), .int .u64 x, .int .i64 n] w (PutPost w g B (l ++ bitsOf x n)) := by
  obtain ⟨v, bs, r, m, ⟨hg, hown, hB, hbl⟩, hm, hr, hsp⟩ := h
  have c0 := cell_in hg 0
  have c1 := cell_in hg 1
  have c2 := cell_in hg 2
  have f1 := free_in hg 1
  have f2 := free_in hg 2
  simp at c0 c1 c2
  have hgl := block_lt hg
  have e3 : (((x : Int) / 2 ^ n) != 0) = false := by
    have : (x : Int) / 2 ^ n = ((x / 2 ^ n : Nat) : Int) := by simp
    rw [this, Nat.div_eq_of_lt hx]; rfl
  have HW : Hid (Raw w g B v bs r m) := ⟨hg, hown, hB, hbl⟩
  have HR := Lib.hid hr; have HS := Lib.hid hsp; have HX := Lib.hid hx; have HL := Lib.hid hl
  clear hg hown hr hsp hx hl
  go_enter Try.func41, Try.ntmps41
  go_wp2_with fail
  go_region
  all_goals go_wp2_with fail
  rw [put_or r x m n HR.out hm HX.out hn, show (m : Int) + (n : Int) = ((m + n : Nat) : Int) from by omega]
  have hR := put_mid (r' := r + x * 2 ^ m) (n' := m + n) HW.out
  refine (wHandOn _ g w.heap.size B v bs (r + x * 2 ^ m) (m + n) hR (by omega) (put_lt r x m n HR.out HX.out) (by rw [← HS.out, List.length_append, spread_length, bitsOf_length] at HL; have := HL.out; omega) ?_).mono ?_
  · exact heap_alloc_drew _ _ _ (by simp)
  rintro e w1 ⟨rfl, v1, bs1, r1, n1, hR1, hn1, hr1, hs1, hv1, hk1⟩
  have H1 := Lib.hid hR1
  have HS1 := Lib.hid hs1; have HR1 := Lib.hid hr1
  clear hR1 hs1 hr1 hR
  go_wp2_with fail
  go_ret
  refine ⟨rfl, ⟨v1, bs1, r1, n1, H1.out, hn1, HR1.out, ?_⟩, ?_, ?_⟩
  · rw [HS1.out, bitsOf_join r x m n HR.out, ← List.append_assoc, HS.out]
  · have k0 : Keeps (fun k => k = g) w (((w.setCell ⟨g, 1, none⟩ (.int .u64 ((r + x * 2 ^ m : Nat) : Int))).setCell ⟨g, 2, none⟩ (.int .i64 ((m + n : Nat) : Int))).alloc (.cells #[.pointer (some ⟨g, 0, none⟩)] 78)).drew :=
      ((((Keeps.refl (fun k => k = g) w).setCell (p := ⟨g, 1, none⟩) (.inr rfl) _).setCell (p := ⟨g, 2, none⟩) (.inr rfl) _).alloc _).drew
    refine (k0.mono (fun k _ h => show foot w g k from .inl h)).trans' hk1 (fun j _ h => ?_)
    rcases h with h | h
    · exact .inl h
    · exact .inr ⟨v, c0, h⟩
  · intro k hk
    rcases hk with hk | ⟨v', hv', hb⟩
    · exact .inl (.inl hk)
    · rw [cell_in H1.out.1 0] at hv'
      simp at hv'
      subst hv'
      rcases hv1 k hb with h | h
      · exact .inl (.inr ⟨v, c0, h⟩)
      · right; simp at h; omega
end Go.Proofs.Ytplopddlpoffoaa
