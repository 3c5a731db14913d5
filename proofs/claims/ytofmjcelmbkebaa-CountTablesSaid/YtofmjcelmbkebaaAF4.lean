/- Layer 24: lists filled by a place's price. -/
import Derived.Test.YtofmjcelmbkebaaAF3
namespace Go.Proofs.Ytofmjcelmbkebaa
open Go.ChangeShapes Go.WideShapes Go.ChangeAt Go.RowKit
set_option linter.unusedVariables false
set_option linter.unusedSimpArgs false
set_option maxRecDepth 100000
theorem set_getD0 (o : List Int) (t i : Nat) (v : Int) (ht : t < o.length) : (o.set t v).getD i 0 = if t = i then v else o.getD i 0 := by
  simp only [List.getD_eq_getElem?_getD, List.getElem?_set]
  by_cases e : t = i
  · subst e; simp [ht]
  · simp [e]
theorem list_eqD (a b : List Int) (h : a.length = b.length) (k : ∀ i, i < a.length → a.getD i 0 = b.getD i 0) : a = b := by
  refine List.ext_getElem h (fun i h1 h2 => ?_)
  have := k i h1
  simpa [List.getD_eq_getElem?_getD, h1, h2] using this
set_option maxHeartbeats 1600000 in
theorem cFill (N b n : Nat) (a : Option Addr) (c : Nat) (l : List Int) (w : World) (hl : l.length = n) (hb : w.cell? ⟨b, 0, none⟩ = some (.slice a n c)) (hi : IsInts w a l) (hn : n ≤ 1000) (hN : N ≤ 1000) :
    Calls Try.prog 45 #[.int .i64 N, .func (Fn.func 56) #[] #[.pointer (some ⟨b, 0, none⟩)]] w fun e w' => ∃ v, e = .returned v ∧ OwnI w.heap.size w' v (prL l N) ∧ Below w.heap.size w w' := by
  have HC := Lib.hid hb
  have HI := Lib.hid hi
  have CO := Lib.hid (fun i W (h1 : W.cell? ⟨b, 0, none⟩ = some (.slice a n c)) (h2 : IsInts W a l) (h3 : i ≤ 1000) => cPriceOf b n i a c l W hl h1 h2 hn h3)
  clear hb hi hl
  go_enter Try.func45, Try.ntmps45
  go_wp2_with (refine make_int rfl _ _ rfl .i64 .i64 (N : Int) (N : Int) N rfl rfl rfl rfl (by omega) ?_; intro w1 ho1 hb1 hs1)
  have HO1 := Lib.hid ho1
  have HB1 := Lib.hid hb1
  clear ho1 hb1 hs1
  obtain ⟨g, hg⟩ : ∃ g, w.heap.size = g := ⟨_, rfl⟩
  have HG := Lib.hid hg
  rw [hg] at HO1 HB1 ⊢
  clear hg
  go_loopw [11] (fun tv wr => ∃ (t : Nat) (o : List Int), t ≤ N ∧ tv = .int .i64 t ∧ Hid (o.length = N ∧ ∀ i, i < t → o.getD i 0 = prA l i) ∧ Hid (OwnI g wr (.slice (some ⟨g, 0, none⟩) N N) o) ∧ Hid (Below g w wr)) (fun tv _ => N - (intOf tv).toNat)
  case atStart => exact ⟨0, _, Nat.zero_le _, rfl, Lib.hid ⟨List.length_replicate, fun i h => by omega⟩, HO1, HB1⟩
  case round =>
    clear HO1 HB1
    obtain ⟨t, o, ht, rfl, HT, HO, HB⟩ := hrel
    by_cases hlt : t < N
    · have hti : (t : Int) < N := by omega
      have hbb : Below w.heap.size w wr := HG.out.symm ▸ HB.out
      have CP := Lib.hid (CO.out t wr ((hbb.cell (cell_block HC.out)).trans HC.out) (HI.out.kept hbb) (by omega))
      have hbg := cell_block HC.out
      clear hbb
      go_wp2_with fail
      refine CP.out.mono ?_; rintro e w2 ⟨rfl, hbx⟩
      have HO2 := Lib.hid (HO.out.kept hbx)
      have HB2 := Lib.hid (HB.out.trans (hbx.mono (by rw [← HG.out]; exact HB.out.size)))
      clear hbx CP HO HB
      have co := HO2.out.int_cell t (by rw [HT.out.1]; exact hlt)
      have fo := HO2.out.free t
      have lo := (HO2.out.lt _ rfl).2
      have HO3 := Lib.hid (HO2.out.set_int t (prA l t) (by rw [HT.out.1]; exact hlt))
      have HB3 := Lib.hid (HB2.out.setCell (p := ⟨g, t, none⟩) (Nat.le_refl _) (.int .i64 (prA l t)))
      have HT2 := Lib.hid (show (o.set t (prA l t)).length = N ∧ ∀ i, i < t + 1 → (o.set t (prA l t)).getD i 0 = prA l i from ⟨by rw [List.length_set]; exact HT.out.1, fun i hi => by
        rw [set_getD0 _ _ _ _ (by rw [HT.out.1]; exact hlt)]
        by_cases e : t = i
        · rw [if_pos e, e]
        · rw [if_neg e]; exact HT.out.2 i (by omega)⟩)
      clear HT HO2 HB2
      go_wp2_with fail
      go_roundw
      case rel => exact ⟨t + 1, _, by omega, by go_num, HT2, HO3, HB3⟩
      case measure => simp [intOf] <;> omega
    · obtain rfl : t = N := by omega
      go_wp2_with fail
      go_ret
      rw [HG.out]
      refine ⟨_, rfl, ?_, HB.out⟩
      have e : o = prL l t := list_eqD _ _ (by rw [HT.out.1, prL_len]) (fun i h => by rw [HT.out.1] at h; rw [HT.out.2 i h, prL_get _ _ _ h])
      rw [← e]
      exact HO.out
set_option maxHeartbeats 1600000 in
theorem cPricesL (N n : Nat) (a : Option Addr) (c : Nat) (l : List Int) (w : World) (hl : l.length = n) (hi : IsInts w a l) (hn : n ≤ 1000) (hN : N ≤ 1000) :
    Calls Try.prog 43 #[.slice a n c, .int .i64 N] w fun e w' => ∃ v, e = .returned v ∧ OwnI w.heap.size w' v (prL l N) ∧ Below w.heap.size w w' := by
  have HBA := Lib.hid ((Below.refl w.heap.size w).alloc (Nat.le_refl _) (.cells #[.slice a n c] 22))
  have hq := cell_lit (heap_alloc_new w (.cells #[.slice a n c] 22)) 0 (.slice a n c) rfl
  have CF := Lib.hid (cFill N w.heap.size n a c l (w.alloc (.cells #[.slice a n c] 22)) hl hq (hi.kept HBA.out) hn hN)
  clear hq hi
  go_enter Try.func43, Try.ntmps43
  go_wp2_with fail
  refine CF.out.mono ?_; rintro e w2 ⟨v, rfl, ho, hb⟩
  have HO := Lib.hid (ho.base (show w.heap.size ≤ _ by simp))
  have HB := Lib.hid (HBA.out.trans (hb.mono HBA.out.size))
  clear ho hb CF HBA
  go_wp2_with fail
  go_ret
  exact ⟨v, rfl, HO.out, HB.out⟩
end Go.Proofs.Ytofmjcelmbkebaa
