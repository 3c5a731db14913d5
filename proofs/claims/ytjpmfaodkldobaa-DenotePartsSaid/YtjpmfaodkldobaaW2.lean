/- Layer 29: drop. -/
import Derived.Test.YtjpmfaodkldobaaW1
namespace Go.Proofs.Ytjpmfaodkldobaa
open Go.ChangeShapes Go.WideShapes Go.ChangeAt Go.RowKit
set_option linter.unusedVariables false
set_option maxRecDepth 100000
theorem cells8_one (l : List UInt8) : ∀ u ∈ cells8 l, u.oneCell' = true := by
  intro u hu
  unfold cells8 at hu
  obtain ⟨z, -, rfl⟩ := List.mem_map.1 hu
  rfl
def feet (g : Nat) (v : Value) : Nat → Prop := fun k => k = g ∨ v.ownBlock = some k
def DropPost (w : World) (g B size : Nat) (v : Value) (all : List UInt8) (e : Ending) (w' : World) : Prop :=
  e = .returned (.tuple #[]) ∧ ∃ v' all', Win w' g B size v' all' ∧ lastN size all' = lastN size all ∧ all'.length ≤ 2 * size + 258 ∧ (∀ k, v'.ownBlock = some k → v.ownBlock = some k) ∧ Keeps (feet g v) w w'
theorem wnDropNo (w : World) (g B size : Nat) (v : Value) (all : List UInt8) (h : Win w g B size v all) (hb : all.length ≤ 2 * size + 258) : Calls Try.prog 68 #[.pointer (some ⟨g, 0, none⟩)] w (DropPost w g B size v all) := by
  obtain ⟨hgl, c0, c1, -⟩ := h.facts
  obtain ⟨a', c', hv, hc, hm, hnil⟩ := h.slice
  subst hv
  have h1 := h.2.2.2.1
  have h2 := h.2.2.2.2
  unfold maxLen at hm
  have HW := Lib.hid h
  have hb' : ¬ (2 * (size : Int) + 258 < (all.length : Int)) := by omega
  clear h hnil
  go_enter Try.func68, Try.ntmps68
  go_wp2_with fail
  go_region
  all_goals go_wp2_with fail
  all_goals go_end0
  all_goals exact ⟨rfl, _, all, HW.out, rfl, hb, fun k h => h, (Keeps.refl _ _).drewN 1⟩
theorem drop_close {w w4 : World} {g B size b c q : Nat} {all : List UInt8} {cur : Array Value} (h : Win w g B size (.slice (some ⟨b, 0, none⟩) all.length c) all) (hcs : cur.size = c) (hlen : (lastN size all).length = size) (hBb : B ≤ b) (hgb : ¬ g = b) (hsc : size ≤ c) (hm : c ≤ 2 ^ 63 - 1)
    (hg4 : w4.heap[b]? = some (.cells (cur.toList.take 0 ++ cells8 (lastN size all) ++ cur.toList.drop (0 + (cells8 (lastN size all)).length)).toArray 5 (0, 0))) (hk4 : Keeps (fun k => k = b) (w.drewN q) w4) :
    DropPost w g B size (.slice (some ⟨b, 0, none⟩) all.length c) all (.returned (.tuple #[])) (w4.setCell ⟨g, 1, none⟩ (.slice (some ⟨b, 0, none⟩) size c)) := by
  have hg : w4.heap[g]? = some (.cells #[.int .i64 size, .slice (some ⟨b, 0, none⟩) all.length c] 119 (0, 0)) := hk4.heap (show (w.drewN q).heap[g]? = _ from h.1) hgb
  refine ⟨rfl, .slice (some ⟨b, 0, none⟩) size c, lastN size all, ⟨?_, ?_, ?_, h.2.2.2.1, h.2.2.2.2⟩, lastN_lastN _ _ _ (Nat.le_refl _), by omega, fun k hk => hk, ?_⟩
  · exact block_set hg 1 _
  · rw [hlen]
    refine ⟨by rw [cells8_len, hlen]; omega, .inr ⟨b, c, _, rfl, hBb, (Below.heap_setCell _ _ _ _ (fun e => hgb e.symm)).trans hg4, hsc, hm, ?_, ?_⟩⟩
    · simp [cells8_len, hlen, hcs]; omega
    · simp only [List.take_zero, List.nil_append]
      rw [List.take_append_of_le_length (by rw [cells8_len, hlen]; omega), List.take_of_length_le (by rw [cells8_len, hlen]; omega)]
  · have h1 := h.2.2.1
    have h2 := hk4.size
    show B ≤ (w4.setCell _ _).heap.size
    simp only [World.drewN] at h2
    simp
    exact Nat.le_trans h1 h2
  · exact (((Keeps.refl _ w).drewN q).trans (hk4.mono (fun k _ e => .inr (by rw [e]; rfl)))).setCell (p := ⟨g, 1, none⟩) (.inr (.inl rfl)) _
theorem wnDropYes (w : World) (g B size b c : Nat) (all : List UInt8) (h : Win w g B size (.slice (some ⟨b, 0, none⟩) all.length c) all) (hb : 2 * size + 258 < all.length) : Calls Try.prog 68 #[.pointer (some ⟨g, 0, none⟩)] w (DropPost w g B size (.slice (some ⟨b, 0, none⟩) all.length c) all) := by
  obtain ⟨hgl, c0, c1, f1⟩ := h.facts
  obtain ⟨a', c', hv, hc, hm, hnil⟩ := h.slice
  simp only [Value.slice.injEq, true_and] at hv
  obtain ⟨rfl, rfl⟩ := hv
  have h1 := h.2.2.2.1
  have h2 := h.2.2.2.2
  have hbg : b ≠ g := fun e => own_ne h.2.1 h.1 (by decide) (by rw [e]; rfl)
  rcases h.2.1.2 with ⟨hv, -⟩ | ⟨b', cap, cur, hv, hBb, hcur, hn, hm2, hcs, htk⟩
  · simp at hv
  simp only [Value.slice.injEq, Option.some.injEq, Addr.mk.injEq, true_and, and_true] at hv
  obtain ⟨rfl, rfl⟩ := hv
  have hlen := lastN_len size all
  rw [Nat.min_eq_right (by omega)] at hlen
  have HC := Lib.hid (show w.heap[b]? = some (.cells cur.toList.toArray 5 (0, 0)) by rw [hcur])
  have HCU := Lib.hid hcur
  have hgb : ¬ g = b := fun e => hbg e.symm
  have hone := Lib.hid (cells8_one (lastN size all))
  have HN := Lib.hid (show (cells8 (lastN size all)).length = Nat.min size all.length by rw [cells8_len, hlen]; exact (Nat.min_eq_left (by omega)).symm)
  have HS := Lib.hid (show ∀ W : World, W.heap[b]? = some (.cells cur 5 (0, 0)) → ∀ j u, (cells8 (lastN size all))[j]? = some u → W.cell? ((⟨b, all.length - size, none⟩ : Addr).add j) = some u by
    intro W hW j u hj
    have hjl : j < size := by have := (List.getElem?_eq_some_iff.1 hj).1; rw [cells8_len, hlen] at this; exact this
    have e1 : ((⟨b, all.length - size, none⟩ : Addr).add j) = ⟨b, all.length - size + j, none⟩ := by unfold Addr.add; split <;> simp_all
    rw [e1, cell_in hW, ← hj]
    have h3 : (cells8 all)[all.length - size + j]? = cur[all.length - size + j]? := by
      rw [← htk, List.getElem?_take_of_lt (by omega), Array.getElem?_toList]
    rw [← h3]
    unfold cells8 lastN
    rw [List.getElem?_map, List.getElem?_map, List.getElem?_drop])
  have HF := Lib.hid (show 0 + (cells8 (lastN size all)).length ≤ cur.toList.length by rw [cells8_len, hlen, Array.length_toList, hcs]; omega)
  have hcell := Lib.hid (show cur.size = c by rw [hcs]; omega)
  have HL := Lib.hid hlen
  have HGI := Lib.hid (show goInt (cells8 (lastN size all)).length = .int .i64 size by rw [cells8_len, hlen]; rfl)
  have HW := Lib.hid h
  have HH := Lib.hid (fun W (hW : Win W g B size (.slice (some ⟨b, 0, none⟩) all.length c) all) => wnHeldBig W g B size b c all hW (by omega))
  have HH2 := Lib.hid (HH.out w.drew.drew HW.out)
  have hsc : size ≤ c := by omega
  have hb' : (2 * (size : Int) + 258 < (all.length : Int)) := by omega
  unfold maxLen at hm
  clear h hnil hcur htk hcs hlen hm2
  go_enter Try.func68, Try.ntmps68
  go_wp2_with fail
  go_region
  all_goals go_wp2_with fail
  go_region_law (first | (refine step_copy_keep (P := Try.prog) rfl (.tmp 22) (.tmp 24) 34 34 rfl 5 Try.underlying34 (by kernel_rfl) b 0 ⟨b, all.length - size, none⟩ all.length c size size ?hd ?hs cur.toList 5 HC.out (cells8 (lastN size all)) HN.out (HS.out _ HCU.out) HF.out hone.out ?_; (case hd => go_simp); (case hs => go_simp); intro w4 hg4 hk4 hz4; rw [HGI.out]; have c14 := (hk4.cell (p := ⟨g, 1, none⟩) hgl hgb).trans c1; have f14 := (hk4.frozen (p := ⟨g, 1, none⟩) hgl hgb).trans f1) | (go_simp; go_at_call 67; refine HH2.out.mono ?_; rintro e w3 ⟨rfl, k3, rfl⟩))
  all_goals go_end0
  all_goals exact drop_close HW.out hcell.out HL.out hBb hgb hsc hm hg4.out hk4
theorem wnDrop (w : World) (g B size : Nat) (v : Value) (all : List UInt8) (h : Win w g B size v all) : Calls Try.prog 68 #[.pointer (some ⟨g, 0, none⟩)] w (DropPost w g B size v all) := by
  by_cases hb : 2 * size + 258 < all.length
  · obtain ⟨a, c, hv, -, -, hnil⟩ := h.slice
    subst hv
    rcases hnil with rfl | ⟨b, rfl, -⟩
    · simp at hb
    · exact wnDropYes w g B size b c all h hb
  · exact wnDropNo w g B size v all h (by omega)
end Go.Proofs.Ytjpmfaodkldobaa
