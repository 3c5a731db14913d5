import Derived.Test.YtipcdkemokkdfaaGreatK27
import Derived.Test.YtipcdkemokkdfaaGreatK16
/- Layer 24: what pmerge.Lengths says where one symbol occurs, and where none does: check. -/
namespace Go.Proofs.YtipcdkemokkdfaaGreat
open Go.ChangeShapes Go.WideShapes Go.ChangeAt Go.RowKit
set_option linter.unusedVariables false
set_option linter.unusedSimpArgs false
set_option maxRecDepth 100000
open KraftMath
end Go.Proofs.YtipcdkemokkdfaaGreat

/- Layer 24: pmerge.byFreq of one symbol that occurs; lengths. -/
namespace Go.Proofs.YtipcdkemokkdfaaGreat
open Go.ChangeShapes Go.WideShapes Go.ChangeAt Go.RowKit
set_option linter.unusedVariables false
set_option linter.unusedSimpArgs false
set_option maxRecDepth 100000
end Go.Proofs.YtipcdkemokkdfaaGreat

/- Layer 24: a row of one number, sorted by the library. -/
namespace Go.Proofs.YtipcdkemokkdfaaGreat
open Go.ChangeShapes Go.WideShapes Go.ChangeAt Go.RowKit
set_option linter.unusedVariables false
set_option linter.unusedSimpArgs false
set_option maxRecDepth 100000
def sy (S i : Nat) : List Int := if i ≤ S then [] else [(S : Int)]
end Go.Proofs.YtipcdkemokkdfaaGreat

/- Layer 24: pmerge.Lengths of one symbol that occurs, and of none. -/
namespace Go.Proofs.YtipcdkemokkdfaaGreat
open Go.ChangeShapes Go.WideShapes Go.ChangeAt Go.RowKit
set_option linter.unusedVariables false
set_option linter.unusedSimpArgs false
set_option maxRecDepth 100000
open KraftMath
end Go.Proofs.YtipcdkemokkdfaaGreat

/- Layer 24: count.lengths. -/
namespace Go.Proofs.YtipcdkemokkdfaaGreat
open Go.ChangeShapes Go.WideShapes Go.ChangeAt Go.RowKit
set_option linter.unusedVariables false
set_option linter.unusedSimpArgs false
set_option maxRecDepth 100000
def lnL (l : List Int) (n : Nat) : List Int := (List.range n).map (fun i => l.getD i 0)
theorem lnL_len (l : List Int) (n : Nat) : (lnL l n).length = n := by simp [lnL]
theorem lnL_get (l : List Int) (n i : Nat) (h : i < n) : (lnL l n).getD i 0 = l.getD i 0 := by simp [lnL, List.getD_eq_getElem?_getD, h]
theorem cLenOf (b n i : Nat) (a : Option Addr) (c : Nat) (l : List Int) (w : World) (hl : l.length = n) (hb : w.cell? ⟨b, 0, none⟩ = some (.slice a n c)) (hi : IsInts w a l) (hn : n ≤ 1000) (h0 : i ≤ 1000) :
    Calls Tryz.prog 61 #[.int .i64 i, .pointer (some ⟨b, 0, none⟩)] w fun e w' => e = .returned (.int .i64 (l.getD i 0)) ∧ Below w.heap.size w w' := by
  have lb := cell_block hb
  by_cases hin : i < n
  · have hii : (i : Int) < n := by omega
    obtain ⟨x, rfl, hx, hc⟩ := hi.at i (by omega)
    have cx := hc i (by omega)
    obtain ⟨v, hv⟩ : ∃ v, l.getD i 0 = v := ⟨_, rfl⟩
    rw [hv] at cx ⊢
    clear hi hc hv
    go_enter Tryz.func61, Tryz.ntmps61
    go_wp2_with fail
    go_ret
    exact ⟨rfl, Below.refl _ _⟩
  · have hii : ¬ (i : Int) < n := by omega
    have e : l.getD i 0 = 0 := by rw [List.getD_eq_getElem?_getD, List.getElem?_eq_none (by omega)]; rfl
    rw [e]
    clear hi e
    go_enter Tryz.func61, Tryz.ntmps61
    go_wp2_with fail
    go_ret
    exact ⟨rfl, Below.refl _ _⟩
set_option maxHeartbeats 1600000 in
theorem cFillL (N b n : Nat) (a : Option Addr) (c : Nat) (l : List Int) (w : World) (hl : l.length = n) (hb : w.cell? ⟨b, 0, none⟩ = some (.slice a n c)) (hi : IsInts w a l) (hn : n ≤ 1000) (hN : N ≤ 1000) :
    Calls Tryz.prog 60 #[.int .i64 N, .func (Fn.func 61) #[] #[.pointer (some ⟨b, 0, none⟩)]] w fun e w' => ∃ v, e = .returned v ∧ OwnI w.heap.size w' v (lnL l N) ∧ Below w.heap.size w w' := by
  have HC := Lib.hid hb
  have HI := Lib.hid hi
  have CO := Lib.hid (fun i W (h1 : W.cell? ⟨b, 0, none⟩ = some (.slice a n c)) (h2 : IsInts W a l) (h3 : i ≤ 1000) => cLenOf b n i a c l W hl h1 h2 hn h3)
  clear hb hi hl
  go_enter Tryz.func60, Tryz.ntmps60
  go_wp2_with (refine make_int rfl _ _ rfl .i64 .i64 (N : Int) (N : Int) N rfl rfl rfl rfl (by omega) ?_; intro w1 ho1 hb1 hs1)
  have HO1 := Lib.hid ho1
  have HB1 := Lib.hid hb1
  clear ho1 hb1 hs1
  obtain ⟨g, hg⟩ : ∃ g, w.heap.size = g := ⟨_, rfl⟩
  have HG := Lib.hid hg
  rw [hg] at HO1 HB1 ⊢
  clear hg
  go_loopw [11] (fun tv wr => ∃ (t : Nat) (o : List Int), t ≤ N ∧ tv = .int .i64 t ∧ Hid (o.length = N ∧ ∀ i, i < t → o.getD i 0 = l.getD i 0) ∧ Hid (OwnI g wr (.slice (some ⟨g, 0, none⟩) N N) o) ∧ Hid (Below g w wr)) (fun tv _ => N - (intOf tv).toNat)
  case atStart => exact ⟨0, _, Nat.zero_le _, rfl, Lib.hid ⟨List.length_replicate, fun i h => by omega⟩, HO1, HB1⟩
  case round =>
    clear HO1 HB1
    obtain ⟨t, o, ht, rfl, HT, HO, HB⟩ := hrel
    by_cases hlt : t < N
    · have hti : (t : Int) < N := by omega
      have hbb : Below w.heap.size w wr := HG.out.symm ▸ HB.out
      have CP := Lib.hid (CO.out t wr ((hbb.cell (cell_block HC.out)).trans HC.out) (HI.out.kept hbb) (by omega))
      have hbg := cell_block HC.out
      clear hbb
      go_wp2_with fail
      refine CP.out.mono ?_; rintro e w2 ⟨rfl, hbx⟩
      have HO2 := Lib.hid (HO.out.kept hbx)
      have HB2 := Lib.hid (HB.out.trans (hbx.mono (by rw [← HG.out]; exact HB.out.size)))
      clear hbx CP HO HB
      have co := HO2.out.int_cell t (by rw [HT.out.1]; exact hlt)
      have fo := HO2.out.free t
      have lo := (HO2.out.lt _ rfl).2
      have HO3 := Lib.hid (HO2.out.set_int t (l.getD t 0) (by rw [HT.out.1]; exact hlt))
      have HB3 := Lib.hid (HB2.out.setCell (p := ⟨g, t, none⟩) (Nat.le_refl _) (.int .i64 (l.getD t 0)))
      have HT2 := Lib.hid (show (o.set t (l.getD t 0)).length = N ∧ ∀ i, i < t + 1 → (o.set t (l.getD t 0)).getD i 0 = l.getD i 0 from ⟨by rw [List.length_set]; exact HT.out.1, fun i hi => by
        rw [set_getD0 _ _ _ _ (by rw [HT.out.1]; exact hlt)]
        by_cases e : t = i
        · rw [if_pos e, e]
        · rw [if_neg e]; exact HT.out.2 i (by omega)⟩)
      clear HT HO2 HB2
      go_wp2_with fail
      go_roundw
      case rel => exact ⟨t + 1, _, by omega, by go_num, HT2, HO3, HB3⟩
      case measure => simp [intOf] <;> omega
    · obtain rfl : t = N := by omega
      go_wp2_with fail
      go_ret
      rw [HG.out]
      refine ⟨_, rfl, ?_, HB.out⟩
      have e : o = lnL l t := list_eqD _ _ (by rw [HT.out.1, lnL_len]) (fun i h => by rw [HT.out.1] at h; rw [HT.out.2 i h, lnL_get _ _ _ h])
      rw [← e]
      exact HO.out
end Go.Proofs.YtipcdkemokkdfaaGreat
