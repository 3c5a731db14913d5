/- Layer 43: rows of texts, rows of grams; the document's words on them. -/
import Derived.Test.YtdonecbcnkipbaaQ3
import Derived.Test.YtdonecbcnkipbaaAQ1
import Derived.Test.YtdonecbcnkipbaaK4
import Derived.Laws.StructEq
namespace Go.Proofs.Ytdonecbcnkipbaa
open Go.ChangeShapes Go.WideShapes Go.ChangeAt Go.RowKit
set_option linter.unusedVariables false
set_option linter.unusedSimpArgs false
set_option maxRecDepth 100000
open RollMath Gm
def sT (l : Tx) : ByteArray := ⟨l.toArray⟩
theorem sT_size (l : Tx) : (sT l).size = l.length := by simp [sT, ByteArray.size]
theorem sT_list (l : Tx) : (sT l).toList = l := by rw [ByteArray.toList_eq]; simp [sT]
theorem sT_data (l : Tx) : (sT l).data.toList = l := by simp [sT]
theorem sT_eq (a b : Tx) : ((sT a).toList == (sT b).toList) = decide (a = b) := by
  rw [sT_list, sT_list, Bool.eq_iff_iff, beq_iff_eq, decide_eq_true_iff]
theorem sT_less (a b : Tx) : Op.bytesLess (sT a).toList (sT b).toList = Op.bytesLess a b := by rw [sT_list, sT_list]
theorem sT_of (s : ByteArray) : sT s.data.toList = s := by
  apply ByteArray.ext; simp [sT]
theorem sT_cut (s : Tx) (i j : Nat) : (sT s).extract i j = sT ((s.drop i).take (j - i)) := by
  apply ByteArray.ext
  simp [sT, ByteArray.data_extract, List.extract_toArray, List.extract_eq_take_drop]
theorem sT_app (a b : Tx) : sT a ++ sT b = sT (a ++ b) := by
  apply ByteArray.ext
  simp [sT, ByteArray.data_append]
def IsTs (w : World) (a : Option Addr) (l : List Tx) : Prop := l = [] ∨ ∃ x, a = some x ∧ ∀ i, i < l.length → w.cell? (x.add i) = some (.string (sT (l.getD i [])))
theorem IsTs.at {w : World} {a : Option Addr} {l : List Tx} (h : IsTs w a l) (k : Nat) (hk : k < l.length) : ∃ x : Addr, a = some x ∧ x.block < w.heap.size ∧ w.cell? (x.add k) = some (.string (sT (l.getD k []))) := by
  rcases h with rfl | ⟨x, rfl, hc⟩
  · simp at hk
  · have := cell_block (hc 0 (by omega))
    exact ⟨x, rfl, by simpa [Addr.add] using this, hc k hk⟩
theorem IsTs.kept {w w' : World} {a : Option Addr} {l : List Tx} (h : IsTs w a l) (hb : Below w.heap.size w w') : IsTs w' a l := by
  rcases h with rfl | ⟨x, rfl, hc⟩
  · exact .inl rfl
  · refine .inr ⟨x, rfl, fun i hi => ?_⟩
    rw [hb.cell (cell_block (hc i hi))]; exact hc i hi
def fewB (l : List Tx) : Bool := decide (l.length ≤ 12) && l.all fun s => decide (s.length ≤ 60)
structure Few (l : List Tx) : Prop where
  few : l.length ≤ 12
  short : ∀ i, i < l.length → (l.getD i []).length ≤ 60
theorem few_of {l : List Tx} (h : fewB l = true) : Few l := by
  unfold fewB at h
  rw [Bool.and_eq_true, decide_eq_true_iff, List.all_eq_true] at h
  refine ⟨h.1, fun i hi => ?_⟩
  have := h.2 (l.getD i []) (by rw [List.getD_eq_getElem?_getD, List.getElem?_eq_getElem hi]; exact List.getElem_mem hi)
  exact of_decide_eq_true this
set_option maxHeartbeats 1600000 in
theorem cFew (a : Option Addr) (c : Nat) (l : List Tx) (w : World) (h : IsTs w a l) (hl : l.length ≤ 9223372036854775807) :
    Calls Try.prog 5 #[.slice a l.length c] w fun e w' => e = .returned (.bool (fewB l)) ∧ ∃ k, w' = w.drewN k := by
  have HI := Lib.hid h
  by_cases h12 : 12 < l.length
  · have e : fewB l = false := by
      unfold fewB
      rw [decide_eq_false (by omega)]; rfl
    rw [e]
    have hi : (12 : Int) < (l.length : Int) := by omega
    clear h e
    go_enter Try.func5, Try.ntmps5
    go_wp2_with fail
    go_ret
    exact ⟨rfl, 0, rfl⟩
  · have hi : ¬ (12 : Int) < (l.length : Int) := by omega
    have HF := Lib.hid (show fewB l = l.all fun s => decide (s.length ≤ 60) by unfold fewB; rw [decide_eq_true (by omega)]; rfl)
    clear h
    go_enter Try.func5, Try.ntmps5
    go_wp2_with fail
    go_loopw [3] (fun i wr => ∃ k : Nat, k ≤ l.length ∧ i = .int .i64 k ∧ Hid ((l.take k).all (fun s => decide (s.length ≤ 60)) = true) ∧ Hid (∃ q, wr = w.drewN q)) (fun i _ => l.length - (intOf i).toNat)
    case atStart => exact ⟨0, Nat.zero_le _, rfl, Lib.hid (by show _ = _; rw [List.take_zero]; rfl), Lib.hid ⟨0, rfl⟩⟩
    case round =>
      obtain ⟨k, hk, rfl, hall, hw⟩ := hrel
      by_cases hlt : k < l.length
      · obtain ⟨q, hq⟩ := hw.out
        have hbr : Below w.heap.size w wr := by rw [hq]; exact below_dn (Below.refl _ _) q
        obtain ⟨x, rfl, -, cx⟩ := (HI.out.kept hbr).at k hlt
        have hki : (k : Int) < (l.length : Int) := by omega
        have hk0 : (0 : Int) ≤ (k : Int) := by omega
        have hsz := sT_size (l.getD k [])
        obtain ⟨S, hS⟩ : ∃ S, l.getD k [] = S := ⟨_, rfl⟩
        have hnx : (l.take (k + 1)).all (fun s => decide (s.length ≤ 60)) = decide (S.length ≤ 60) := by
          rw [List.take_succ_eq_append_getElem hlt, List.all_append, hall.out, ← hS, List.getD_eq_getElem?_getD, List.getElem?_eq_getElem hlt]; simp
        rw [hS] at cx hsz
        have HNX := Lib.hid hnx
        have HS := Lib.hid hS
        clear hS hnx hbr hq
        by_cases hs : 60 < S.length
        · have hs2 : (60 : Int) < ((sT S).size : Int) := by omega
          have HR := Lib.hid (show fewB l = false from by
            rw [HF.out, Bool.eq_false_iff]
            intro hh
            rw [List.all_eq_true] at hh
            have := hh S (by rw [← HS.out, List.getD_eq_getElem?_getD, List.getElem?_eq_getElem hlt]; exact List.getElem_mem hlt)
            simp at this; omega)
          clear hsz
          go_wp2_with fail
          go_ret
          rw [HR.out]
          exact ⟨rfl, hw.out⟩
        · have hs2 : ¬ (60 : Int) < ((sT S).size : Int) := by omega
          have HA := Lib.hid (show (l.take (k + 1)).all (fun s => decide (s.length ≤ 60)) = true by rw [HNX.out, decide_eq_true (by omega)])
          clear hsz
          go_wp2_with fail
          go_roundw
          case rel => exact ⟨k + 1, by omega, by go_num, HA, hw⟩
          case measure => simp [intOf]; omega
      · obtain rfl : k = l.length := by omega
        have hki : ¬ (l.length : Int) < (l.length : Int) := by omega
        have hall2 := hall.out
        rw [List.take_length, ← HF.out] at hall2
        have HR := Lib.hid hall2
        clear hall hall2
        go_wp2_with fail
        go_ret
        rw [HR.out]
        exact ⟨rfl, hw.out⟩
/-- The document's Find, by rows of bytes. -/
theorem dFindT (s p : Tx) (hs : s.length ≤ 100000) (hp : p.length ≤ 100000) (w : World) :
    Calls Try.prog 12 #[.string (sT s), .string (sT p)] w fun e w' => ∃ a c, e = .returned (.slice a (findL s p).length c) ∧ Below w.heap.size w w' := by
  refine (dFind (sT s) (sT p) (by rw [sT_size]; omega) (by rw [sT_size]; omega) w).mono ?_
  rintro e w' ⟨v, rfl, ho, hb⟩
  have e : findV (sT s) (sT p) = findL s p := by unfold findV; rw [sT_data, sT_data]
  rw [e] at ho
  obtain ⟨a, c, rfl⟩ := ho.slice
  exact ⟨a, c, rfl, hb⟩
theorem many_take {ls : List Tx} {k : Nat} (p : Tx) (h : k < ls.length) : manyL (ls.take (k + 1)) p = manyL (ls.take k) p + (findL (ls.getD k []) p).length := by
  unfold manyL
  rw [List.take_succ_eq_append_getElem h, List.getD_eq_getElem?_getD, List.getElem?_eq_getElem h, List.map_append, List.sum_append]
  simp
theorem find_few (s p : Tx) : (findL s p).length ≤ s.length + 1 := by
  unfold findL
  split
  · exact Nat.le_trans (findTo_len s p _) (by omega)
  · simp
theorem many_few {ls : List Tx} (hF : Few ls) (p : Tx) : ∀ k, k ≤ ls.length → manyL (ls.take k) p ≤ 61 * k
  | 0, _ => by simp [manyL]
  | k + 1, h => by
    rw [many_take p (by omega)]
    have := many_few hF p k (by omega)
    have := find_few (ls.getD k []) p
    have := hF.short k (by omega)
    omega
set_option maxHeartbeats 1600000 in
theorem dMany (a : Option Addr) (c : Nat) (l : List Tx) (p : Tx) (w : World) (h : IsTs w a l) (hF : Few l) (hp : p.length ≤ 100000) :
    Calls Try.prog 23 #[.slice a l.length c, .string (sT p)] w fun e w' => e = .returned (.int .i64 (manyL l p : Nat)) ∧ Below w.heap.size w w' := by
  have HI := Lib.hid h
  have HF := Lib.hid hF
  have hl := hF.few
  clear h hF
  go_enter Try.func23, Try.ntmps23
  go_wp2_with fail
  go_loopw [5, 6] (fun n i wr => ∃ k : Nat, k ≤ l.length ∧ i = .int .i64 k ∧ n = .int .i64 (manyL (l.take k) p : Nat) ∧ Hid (Below w.heap.size w wr)) (fun _ i _ => l.length - (intOf i).toNat)
  case atStart => exact ⟨0, Nat.zero_le _, rfl, by rw [List.take_zero]; rfl, Lib.hid (Below.refl _ _)⟩
  case round =>
    obtain ⟨k, hk, rfl, rfl, hb⟩ := hrel
    by_cases hlt : k < l.length
    · obtain ⟨x, rfl, -, cx⟩ := (HI.out.kept hb.out).at k hlt
      have hki : (k : Int) < (l.length : Int) := by omega
      have hk0 : (0 : Int) ≤ (k : Int) := by omega
      have hnx := many_take p hlt
      have hfw := many_few HF.out p (k + 1) (by omega)
      have hsh := HF.out.short k hlt
      have CF := Lib.hid (fun W => dFindT (l.getD k []) p (by omega) hp W)
      rw [hnx] at hfw
      obtain ⟨S, hS⟩ : ∃ S, l.getD k [] = S := ⟨_, rfl⟩
      obtain ⟨M, hM⟩ : ∃ M, manyL (l.take k) p = M := ⟨_, rfl⟩
      rw [hS] at cx hnx hfw CF
      rw [hM] at hnx hfw ⊢
      obtain ⟨F, hFF⟩ : ∃ F, (findL S p).length = F := ⟨_, rfl⟩
      rw [hFF] at hnx hfw CF
      have hw : IntKind.i64.wrap ((M : Int) + (F : Int)) = ((M + F : Nat) : Int) := by rw [IntKind.wrap_i64]; omega
      have HNX := Lib.hid hnx
      have hsz := Lib.hid hb.out.size
      clear hS hM hFF hnx hfw hsh
      go_wp2_with fail
      refine (CF.out _).mono ?_; rintro e w2 ⟨fa, fc, rfl, hb2⟩
      have HB2 := Lib.hid (hb.out.trans (hb2.mono hsz.out))
      clear hb2
      go_wp2_with fail
      go_roundw
      case rel => exact ⟨k + 1, by omega, by go_num, by rw [HNX.out, Int.natCast_add], HB2⟩
      case measure => simp [intOf]; omega
    · obtain rfl : k = l.length := by omega
      have hki : ¬ (l.length : Int) < (l.length : Int) := by omega
      rw [List.take_length]
      go_wp2_with fail
      go_ret
      exact ⟨rfl, hb.out⟩
end Go.Proofs.Ytdonecbcnkipbaa
