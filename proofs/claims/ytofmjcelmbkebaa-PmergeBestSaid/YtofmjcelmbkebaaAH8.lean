/- The library's stable sort: two rows merged, whatever their lengths; SortStableFunc. -/
import Derived.Test.YtofmjcelmbkebaaAH7
namespace Go.Proofs.Ytofmjcelmbkebaa
open Go.ChangeShapes Go.WideShapes Go.ChangeAt Go.RowKit
set_option linter.unusedVariables false
set_option linter.unusedSimpArgs false
set_option maxRecDepth 100000
theorem sMerge (bx B g n cap : Nat) (fr : Int → Int) (D : Int → Prop) (w0 : World) (CC : CmpC w0 g bx fr D) (hn : n ≤ 1000000) : ∀ N, MergeC bx B g n cap fr D w0 N
  | 0 => fun a m b p x y q w h => by omega
  | N + 1 => fun a m b p x y q w h hK hO ha hm hb hx hy hs ht hxy hDx hDy => by
    have IH : MergeC bx B g n cap fr D w0 (b - a) := fun a' m' b' p' x' y' q' w' h' => sMerge bx B g n cap fr D w0 CC hn N a' m' b' p' x' y' q' w' (by omega)
    by_cases h1 : x.length = 1
    · obtain ⟨u, rfl⟩ := List.length_eq_one_iff.1 h1
      exact sMerge1 bx B g n cap a m b fr D p y q u w0 w CC hK hO ha hm hb ht (fun v hv => hxy u (by simp) v hv) (hDx u (by simp)) hDy hn
    · by_cases h2 : y.length = 1
      · obtain ⟨u, rfl⟩ := List.length_eq_one_iff.1 h2
        exact sMerge2 bx B g n cap a m b fr D p x q u w0 w CC hK hO ha hm hb (by omega) hs (fun v hv => hxy v hv u (by simp)) (hDy u (by simp)) hDx hn
      · exact sMergeG bx B g n cap a m b fr D p x y q w0 w CC IH hK hO ha hm hb (by omega) (by omega) hs ht hxy hDx hDy hn
def blk (s j : Nat) (l : List Int) : List Int := (l.drop (j * s)).take s
/-- The first k blocks of s are sorted. -/
def PG (fr : Int → Int) (s k : Nat) (o l : List Int) : Prop := l.length = o.length ∧ ∀ j, j < k → St.Srt fr (blk s j l) ∧ (blk s j l).Perm (blk s j o)
theorem pg_step {fr : Int → Int} {s k : Nat} {o l : List Int} (h : PG fr s k o l) (hk : k * s ≤ l.length) (z q : List Int) (hz : (z ++ q).take s = z) (hs : St.Srt fr z) (hp : z.Perm (blk s k o)) (hl : (l.take (k * s) ++ z ++ q).length = o.length) : PG fr s (k + 1) o (l.take (k * s) ++ z ++ q) := by
  refine ⟨hl, fun j hj => ?_⟩
  have hpl : (l.take (k * s)).length = k * s := List.length_take_of_le hk
  by_cases e : j = k
  · subst e
    have e2 : blk s j (l.take (j * s) ++ z ++ q) = z := by
      unfold blk
      rw [List.append_assoc, List.drop_left' hpl, hz]
    rw [e2]; exact ⟨hs, hp⟩
  · have hjk : j < k := by omega
    have hmul : j * s + s ≤ k * s := by
      calc j * s + s = (j + 1) * s := by rw [Nat.add_mul, Nat.one_mul]
        _ ≤ k * s := Nat.mul_le_mul_right _ hjk
    have e2 : blk s j (l.take (k * s) ++ z ++ q) = blk s j l := by
      unfold blk
      rw [List.append_assoc, List.drop_append_of_le_length (by omega), List.take_append_of_le_length (by rw [List.length_drop]; omega), List.drop_take, List.take_take, Nat.min_eq_left (by omega)]
    rw [e2]; exact h.2 j hjk
theorem pg_zero (fr : Int → Int) (s : Nat) (o l : List Int) (h : l.length = o.length) : PG fr s 0 o l := ⟨h, fun j h => by omega⟩
theorem blk_two (s k : Nat) (o : List Int) : blk (2 * s) k o = blk s (2 * k) o ++ blk s (2 * k + 1) o := by
  unfold blk
  rw [show k * (2 * s) = 2 * k * s by rw [Nat.mul_comm 2 k, Nat.mul_assoc], show (2 * k + 1) * s = 2 * k * s + s by rw [Nat.add_mul, Nat.one_mul], ← List.drop_drop, show 2 * s = s + s by omega, List.take_add]
theorem blk_val {s i j : Nat} {o : List Int} (ho : o.Pairwise (· < ·)) (hij : i < j) : ∀ u ∈ blk s i o, ∀ v ∈ blk s j o, u < v := by
  intro u hu v hv
  have hmul : i * s + s ≤ j * s := by
    calc i * s + s = (i + 1) * s := by rw [Nat.add_mul, Nat.one_mul]
      _ ≤ j * s := Nat.mul_le_mul_right _ hij
  have h1 : u ∈ o.take (i * s + s) := by
    unfold blk at hu
    rw [List.take_add]; exact List.mem_append_right _ hu
  have h2 : v ∈ o.drop (i * s + s) := by
    unfold blk at hv
    have := List.mem_of_mem_take hv
    rw [show j * s = (i * s + s) + (j * s - (i * s + s)) by omega, ← List.drop_drop] at this
    exact List.mem_of_mem_drop this
  have h := ho
  rw [← List.take_append_drop (i * s + s) o] at h
  exact (List.pairwise_append.1 h).2.2 u h1 v h2
theorem blk_mem {s i : Nat} {o : List Int} : ∀ u ∈ blk s i o, u ∈ o := fun u hu => List.mem_of_mem_drop (List.mem_of_mem_take hu)
theorem pg_perm {fr : Int → Int} {s : Nat} {o l : List Int} (h : ∀ k, PG fr s k o l) (hs : o.length ≤ s) : l = St.sortF fr o ∨ ¬ o.Nodup := by
  by_cases hn : o.Nodup
  · left
    obtain ⟨h1, h2⟩ := h 1
    obtain ⟨a, b⟩ := h2 0 (by omega)
    unfold blk at a b
    rw [Nat.zero_mul, List.drop_zero, List.take_of_length_le (by omega)] at a b
    rw [List.drop_zero, List.take_of_length_le hs] at b
    exact St.srt_unique _ _ a (St.sortF_srt fr o hn) (b.trans (St.sortF_perm fr o).symm)
  · exact .inr hn
/-- All blocks: those behind the end are empty. -/
theorem pg_all {fr : Int → Int} {s k : Nat} {o l : List Int} (h : PG fr s k o l) (hk : o.length ≤ k * s) : ∀ j, PG fr s j o l := by
  intro j
  refine ⟨h.1, fun i hi => ?_⟩
  by_cases hik : i < k
  · exact h.2 i hik
  · have hmul : k * s ≤ i * s := Nat.mul_le_mul_right _ (by omega)
    have e1 : blk s i l = [] := by unfold blk; rw [List.drop_of_length_le (by rw [h.1]; omega), List.take_nil]
    have e2 : blk s i o = [] := by unfold blk; rw [List.drop_of_length_le (by omega), List.take_nil]
    rw [e1, e2]; exact ⟨by simp [St.Srt], List.Perm.refl _⟩
end Go.Proofs.Ytofmjcelmbkebaa
