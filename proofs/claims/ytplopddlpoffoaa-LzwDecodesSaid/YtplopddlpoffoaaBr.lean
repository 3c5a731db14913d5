/- Contracts of layer 2's reader. -/
import Derived.Test.YtplopddlpoffoaaOwn
import Derived.Laws.IdiomStrings
namespace Go.Proofs.Ytplopddlpoffoaa
open Go.ChangeShapes Go.WideShapes Go.ChangeAt Go.RowKit
set_option linter.unusedVariables false
set_option maxRecDepth 100000

/-- A reader of the bytes s that stands at bit a: its block g, and the row of bytes that are left. -/
def IsReader (w : World) (g : Nat) (s : List UInt8) (a : Nat) : Prop :=
  ∃ p L C, w.heap[g]? = some (.cells #[.slice p L C, .int .i64 ((a % 8 : Nat) : Int), .int .i64 (a : Int)] 102 (0, 0)) ∧ a ≤ 8 * s.length ∧ L = s.length - a / 8 ∧ L ≤ C ∧ C ≤ maxLen ∧ s.length ≤ maxLen / 16 ∧
    (0 < L → ∃ b o, p = some ⟨b, o, none⟩ ∧ b ≠ g ∧ b < w.heap.size ∧ ∀ j, j < L → w.cell? ⟨b, o + j, none⟩ = some (.int .u8 ((s.getD (a / 8 + j) 0).toNat : Int)))

theorem bytesRow_get (s : ByteArray) (cap j : Nat) (h : j < s.size) : (bytesRow s cap)[j]? = some (.int .u8 ((s.data.toList.getD j 0).toNat : Int)) := by
  have h' : j < s.data.size := h
  unfold bytesRow
  rw [Array.getElem?_append_left (by simpa using h'), Array.getElem?_map, Array.getElem?_eq_getElem h']
  simp only [Array.getElem?_toList, List.getD_eq_getElem?_getD, Array.getElem?_eq_getElem h', Option.map_some, Option.getD_some]
set_option maxHeartbeats 800000 in
theorem rNew (s : ByteArray) (hs : s.size ≤ maxLen / 16) (w : World) :
    Calls Try.prog 31 #[.string s] w fun e w' => e = .returned (.pointer (some ⟨w.heap.size + 1, 0, none⟩)) ∧ IsReader w' (w.heap.size + 1) s.data.toList 0 ∧ Below w.heap.size w w' ∧ w'.heap.size = w.heap.size + 2 := by
  have hcv := run_bytes_of_string (P := Try.prog) w 9 94 5 s Try.underlying9 Try.underlying94 Try.underlying5
  have h1 := grownCap_ge w s.size 0 5
  have h2 := grownCap_le_maxLen w s.size 0 5 (by unfold maxLen at *; omega)
  go_enter Try.func31, Try.ntmps31
  go_wp2
  go_ret
  refine ⟨rfl, ⟨_, s.size, _, heap_two_last _ _ _, by simp, by simp, h1, h2, by simpa using hs, fun _ => ⟨w.heap.size, 0, rfl, by omega, by simp; omega, fun j hj => ?_⟩⟩, by go_grown, by simp⟩
  simp only [Nat.zero_add, Nat.zero_div]
  exact cell_lit (heap_two_first w _ _) j _ (bytesRow_get s _ j hj)
theorem left_eq (a len L : Nat) (h : L = len - a / 8) (ha : a ≤ 8 * len) : 8 * (L : Int) - (a : Int) % 8 = ((8 * len - a : Nat) : Int) := by omega
theorem left_bd (a len L : Nat) (h : L = len - a / 8) (hs : len ≤ (2 ^ 63 - 1) / 16) : L ≤ 576460752303423487 := by omega
theorem rLeft (w : World) (g a : Nat) (s : List UInt8) (h : IsReader w g s a) : Calls Try.prog 34 #[.pointer (some ⟨g, 0, none⟩)] w fun e w' => e = .returned (.int .i64 ((8 * s.length - a : Nat) : Int)) ∧ ∃ n, w' = w.drewN n := by
  obtain ⟨p, L, C, hg, ha, hL, hC, hm, hs, hp⟩ := h
  unfold maxLen at hm hs
  have c0 := cell_in hg 0
  have c1 := cell_in hg 1
  simp at c0 c1
  have HE := Lib.hid (left_eq a s.length L hL ha)
  have hLb := left_bd a s.length L hL hs
  clear hL hp
  go_enter Try.func34, Try.ntmps34
  go_wp2
  go_quiet (fail)
  go_wp2
  go_ret
  exact ⟨ret_i (by rw [← HE.out]), _, rfl⟩
theorem set3 {w : World} {g : Nat} {x y z : Value} (hg : w.heap[g]? = some (.cells #[x, y, z] 102 (0, 0))) (u v t : Value) :
    (((w.setCell ⟨g, 2, none⟩ t).setCell ⟨g, 0, none⟩ u).setCell ⟨g, 1, none⟩ v).drew.heap[g]? = some (.cells #[u, v, t] 102 (0, 0)) :=
  block_set (block_set (block_set hg 2 t) 0 u) 1 v
theorem other3 {w : World} {g b o : Nat} (h : b ≠ g) (u v t : Value) : (((w.setCell ⟨g, 2, none⟩ t).setCell ⟨g, 0, none⟩ u).setCell ⟨g, 1, none⟩ v).drew.cell? ⟨b, o, none⟩ = w.cell? ⟨b, o, none⟩ := by
  refine World.cell?_of_block (w := w) ?_
  show (((w.setCell ⟨g, 2, none⟩ t).setCell ⟨g, 0, none⟩ u).setCell ⟨g, 1, none⟩ v).heap[b]? = _
  rw [Below.heap_setCell _ _ _ _ h, Below.heap_setCell _ _ _ _ h, Below.heap_setCell _ _ _ _ h]
theorem keep3 (w : World) (g : Nat) (u v t : Value) : Keeps (fun k => k = g) w (((w.setCell ⟨g, 2, none⟩ t).setCell ⟨g, 0, none⟩ u).setCell ⟨g, 1, none⟩ v).drew := by
  have k1 := (Keeps.refl (fun k => k = g) w).setCell (p := ⟨g, 2, none⟩) (.inr rfl) t
  have k2 := k1.setCell (p := ⟨g, 0, none⟩) (.inr rfl) u
  have k3 := k2.setCell (p := ⟨g, 1, none⟩) (.inr rfl) v
  exact k3.drew
theorem size3 (w : World) (g : Nat) (u v t : Value) : (((w.setCell ⟨g, 2, none⟩ t).setCell ⟨g, 0, none⟩ u).setCell ⟨g, 1, none⟩ v).drew.heap.size = w.heap.size := by simp
theorem reader_close {w : World} {g a n : Nat} {s : List UInt8} {x y z : Value} {p q : Option Addr} {L C M D : Nat} {u t : Int} (hg : w.heap[g]? = some (.cells #[x, y, z] 102 (0, 0))) (hn : a + n ≤ 8 * s.length) (hL : L = s.length - a / 8) (hm : C ≤ maxLen) (hLC : L ≤ C) (hs : s.length ≤ maxLen / 16)
    (hp : Hid (0 < L → ∃ b o, p = some ⟨b, o, none⟩ ∧ b ≠ g ∧ b < w.heap.size ∧ ∀ j, j < L → w.cell? ⟨b, o + j, none⟩ = some (.int .u8 ((s.getD (a / 8 + j) 0).toNat : Int))))
    (hu : u = (((a + n) % 8 : Nat) : Int)) (ht : t = ((a + n : Nat) : Int)) (hM : M = L - (n + a % 8) / 8) (hD : D = M) (hq : 0 < M → q = p.map (fun x => x.add ((n + a % 8) / 8))) :
    IsReader (((w.setCell ⟨g, 2, none⟩ (.int .i64 t)).setCell ⟨g, 0, none⟩ (.slice q M D)).setCell ⟨g, 1, none⟩ (.int .i64 u)).drew g s (a + n) := by
  subst hu ht hD
  have e8 : (a + n) / 8 = a / 8 + (n + a % 8) / 8 := by omega
  refine ⟨q, D, D, set3 hg _ _ _, hn, by omega, Nat.le_refl _, by omega, hs, fun h0 => ?_⟩
  have h0L : 0 < L := by omega
  obtain ⟨b, o, rfl, hb, hlt, hc⟩ := hp.out h0L
  rw [hq h0]
  refine ⟨b, o + (n + a % 8) / 8, ?_, hb, by rw [size3]; exact hlt, fun j hj => ?_⟩
  · simp only [Option.map_some, Option.some.injEq]
    unfold Addr.add; split <;> simp_all
  · have hj' : (n + a % 8) / 8 + j < L := by omega
    rw [other3 hb, Nat.add_assoc, hc _ hj', e8, Nat.add_assoc]
set_option maxHeartbeats 800000 in
theorem rMove (w : World) (g a n : Nat) (s : List UInt8) (h : IsReader w g s a) (hn : a + n ≤ 8 * s.length) : Calls Try.prog 53 #[.pointer (some ⟨g, 0, none⟩), .int .i64 n] w fun e w' => e = .returned (.tuple #[]) ∧ IsReader w' g s (a + n) ∧ Keeps (fun k => k = g) w w' ∧ w'.heap.size = w.heap.size := by
  obtain ⟨p, L, C, hg, ha, hL, hC, hm, hs, hp⟩ := h
  unfold maxLen at hm hs
  have c0 := cell_in hg 0
  have c1 := cell_in hg 1
  have c2 := cell_in hg 2
  have f0 := free_in hg 0
  have f1 := free_in hg 1
  have f2 := free_in hg 2
  simp at c0 c1 c2
  have b1 : ((n : Int) + (a : Int) % 8) / 8 ≤ (L : Int) := by omega
  have b0 : 0 ≤ ((n : Int) + (a : Int) % 8) / 8 := by omega
  have b2 : (L : Int) ≤ C := by omega
  have HL := Lib.hid hL; have HP := Lib.hid hp; have HG := Lib.hid hg
  clear hL hp hg
  go_enter Try.func53, Try.ntmps53
  go_wp2
  go_region
  all_goals go_wp2
  · go_end0
    exact ⟨rfl, reader_close HG.out hn HL.out hm hC hs HP (by omega) (by omega) (by omega) rfl (fun h => by omega), keep3 _ _ _ _ _, size3 _ _ _ _ _⟩
  · go_end0
    exact ⟨rfl, reader_close HG.out hn HL.out hm hC hs HP (by omega) (by omega) (by omega) rfl (fun h => rfl), keep3 _ _ _ _ _, size3 _ _ _ _ _⟩
end Go.Proofs.Ytplopddlpoffoaa
