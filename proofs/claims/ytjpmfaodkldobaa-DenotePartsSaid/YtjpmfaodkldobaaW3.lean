/- Layer 29: Put, Last. -/
import Derived.Test.YtjpmfaodkldobaaW2
namespace Go.Proofs.Ytjpmfaodkldobaa
open Go.ChangeShapes Go.WideShapes Go.ChangeAt Go.RowKit
set_option linter.unusedVariables false
set_option maxRecDepth 100000
def WinPost (w : World) (g B size : Nat) (v : Value) (H : List UInt8) (w' : World) : Prop :=
  ∃ v' all', Win w' g B size v' all' ∧ lastN size all' = H ∧ all'.length ≤ 2 * size + 258 ∧ (∀ k, v'.ownBlock = some k → v.ownBlock = some k ∨ w.heap.size ≤ k) ∧ Keeps (feet g v) w w'
theorem wnPutNone (s : ByteArray) (w : World) : Calls Try.prog 35 #[.pointer none, .string s] w fun e w' => e = .returned (.tuple #[]) ∧ w' = w := by
  go_enter Try.func35, Try.ntmps35
  go_wp2
  exact bodyPost_ret (v := .tuple #[]) (by simp [results, Try.results35, go_sem]) rfl ⟨rfl, rfl⟩
theorem ext_last (s : ByteArray) (k : Nat) (h : k ≤ s.size) : (s.extract (s.size - k) s.size).data.toList = lastN k s.data.toList ∧ (s.extract (s.size - k) s.size).size = k := by
  have hl : s.data.toList.length = s.size := by simp
  refine ⟨?_, by simp; omega⟩
  unfold lastN
  rw [hl]
  simp [ByteArray.data_extract, Array.toList_extract]
  rw [List.take_of_length_le (by simp)]
theorem ext_all (s : ByteArray) : s.extract 0 s.size = s := by simp
theorem strCells8 (s : ByteArray) : Go.Lib.strCells s = cells8 s.data.toList := rfl
theorem cells8_app (a b : List UInt8) : cells8 a ++ cells8 b = cells8 (a ++ b) := by unfold cells8; rw [List.map_append]
theorem put_close {w w1 w' : World} {g B size : Nat} {v v1 : Value} {all t : List UInt8} {e : Ending} (h : Win w g B size v all) (hown : w1.ownsRow B 5 1 v1 (all.length + t.length) (cells8 all ++ cells8 t)) (hgr : w.drew.grownBy w1 v.ownBlock) (hv1 : ∀ k, v1.ownBlock = some k → v.ownBlock = some k ∨ w.heap.size ≤ k)
    (hd : DropPost (w1.setCell ⟨g, 1, none⟩ v1) g B size v1 (all ++ t) e w') : e = .returned (.tuple #[]) ∧ WinPost w g B size v (lastN size (all ++ t)) w' := by
  obtain ⟨he, v', all', hW, hH, hl, hf, hk⟩ := hd
  have hsz := hgr.size
  refine ⟨he, v', all', hW, hH, hl, fun k hk' => hv1 k (hf k hk'), ?_⟩
  have k1 : Keeps (feet g v) w (w1.setCell ⟨g, 1, none⟩ v1) := (((Keeps.refl _ w).drew).grown hgr (fun k e => .inr (.inr e))).setCell (p := ⟨g, 1, none⟩) (.inr (.inl rfl)) _
  refine k1.trans' hk (fun j hj hs => ?_)
  rcases hs with rfl | hs
  · exact .inl rfl
  · rcases hv1 j hs with h2 | h2
    · exact .inr h2
    · omega
theorem put_win {w w1 : World} {g B size : Nat} {v v1 : Value} {all t : List UInt8} (h : Win w g B size v all) (hown : w1.ownsRow B 5 1 v1 (all.length + t.length) (cells8 all ++ cells8 t)) (hgr : w.drew.grownBy w1 v.ownBlock) : Win (w1.setCell ⟨g, 1, none⟩ v1) g B size v1 (all ++ t) := by
  have hg : w1.heap[g]? = some (.cells #[.int .i64 size, v] 119 (0, 0)) := grown_heap hgr (show w.drew.heap[g]? = _ from h.1) (own_ne h.2.1 h.1 (by decide))
  have hne := own_ne hown hg (by decide)
  refine ⟨block_set hg 1 _, ?_, by have := hgr.size; simp; exact Nat.le_trans h.2.2.1 this, h.2.2.2.1, h.2.2.2.2⟩
  rw [cells8_app, ← List.length_append] at hown
  exact ownsRow_setCell_other hown (a := ⟨g, 1, none⟩) hne v1
set_option maxHeartbeats 1600000 in
theorem wnPut (w : World) (g B size : Nat) (v : Value) (all : List UInt8) (s : ByteArray) (h : Win w g B size v all) (hs : s.size ≤ 9223372036854775807) (hl : all.length ≤ 2 * size + 258) :
    Calls Try.prog 35 #[.pointer (some ⟨g, 0, none⟩), .string s] w fun e w' => e = .returned (.tuple #[]) ∧ WinPost w g B size v (lastN size (all ++ s.data.toList)) w' := by
  obtain ⟨hgl, c0, c1, f1⟩ := h.facts
  obtain ⟨a', c', hv, hc, hm, hnil⟩ := h.slice
  have h1 := h.2.2.2.1
  have h2 := h.2.2.2.2
  obtain ⟨i0, hi, hz0, hz1, hz2⟩ := info_get (show (Try.prog.info? 5).map (fun i => (i.zero, i.size, i.bytes)) = some (some (.int .u8 0), 1, 1) by kernel_rfl)
  rw [← lastN_right]
  by_cases hlt : size < s.size
  · obtain ⟨hS1, hS2⟩ := ext_last s size (by omega)
    rw [← hS1]
    have hw1 : IntKind.i64.wrap ((s.size : Int) - size) = (s.size : Int) - size := IntWalk.i64_in _ (by omega)
    have hw2 : 0 ≤ (s.size : Int) - size := by omega
    have hw3 : ((s.size : Int) - size).toNat = s.size - size := by omega
    have hw4 : (s.size : Int) - size ≤ s.size := by omega
    have hw5 : size ≤ s.size := by omega
    obtain ⟨S, hS⟩ : ∃ S, s.extract (s.size - size) s.size = S := ⟨_, rfl⟩
    rw [hS] at hS2 ⊢
    clear hS1
    have hSz : S.size ≤ 67108864 := by omega
    have HS2 := Lib.hid hS2
    have HS63 := Lib.hid (show all.length + S.size ≤ maxLen by unfold maxLen; omega)
    have HSby := Lib.hid (show all.length + S.size ≤ 140737488355328 by omega)
    have HB := Lib.hid h.2.2.1
    have HW := Lib.hid h
    have HG := Lib.hid (show ∀ w1, w.drew.grownBy w1 v.ownBlock → w1.cell? ⟨g, 1, none⟩ = some v ∧ w1.frozen? ⟨g, 1, none⟩ = false from fun w1 hgr => by
      have hg : w1.heap[g]? = some (.cells #[.int .i64 size, v] 119 (0, 0)) := grown_heap hgr (show w.drew.heap[g]? = _ from h.1) (own_ne h.2.1 h.1 (by decide))
      exact ⟨cell_in hg 1, free_in hg 1⟩)
    subst hv
    clear h hnil hl hS2
    go_enter Try.func35, Try.ntmps35
    go_wp2_with fail
    go_region_law (refine step_append_str (P := Try.prog) rfl (.tmp 10) (.tmp 22) 34 9 rfl B 5 i0 Try.underlying34 Try.underlying9 hi hz0 hz1 hz2 _ all.length (cells8 all) ?hd HW.out.2.1 S ?hs HS63.out HSby.out HB.out ?_; (case hd => go_simp); (case hs => go_simp); intro v1 w1 hown1 hgr1 hbk1; obtain ⟨a1, d1, rfl⟩ := own_slice hown1; obtain ⟨c11, f11⟩ := HG.out w1 hgr1)
    all_goals
      have HPW := Lib.hid (put_win (t := S.data.toList) HW.out (by rw [show S.data.toList.length = S.size by simp, ← strCells8]; exact hown1) hgr1)
      have HPC := Lib.hid (fun e w' hd => put_close (e := e) (w' := w') (t := S.data.toList) HW.out (by rw [show S.data.toList.length = S.size by simp, ← strCells8]; exact hown1) hgr1 hbk1 hd)
      simp only [Exit.then]
      rename_i hK
      refine hK _ _ ?_
      clear hK hown1 hgr1 hbk1 HG c11 f11
      go_wp2_with fail
      refine (wnDrop _ g B size _ _ HPW.out).mono ?_; rintro e w5 hd
      have hd2 := HPC.out _ _ hd
      obtain ⟨he, hp⟩ := hd2
      subst he
      clear hd HPC HPW
      go_wp2_with fail
      go_end0
      exact ⟨rfl, hp⟩
  · rw [lastN_all size s.data.toList (by simp; omega)]
    have hS2 : s.size ≤ size := by omega
    have hw0 : IntKind.i64.wrap 0 = 0 := rfl
    have hS := ext_all s
    have hSz : s.size ≤ 67108864 := by omega
    have HS2 := Lib.hid hS2
    have HS63 := Lib.hid (show all.length + s.size ≤ maxLen by unfold maxLen; omega)
    have HSby := Lib.hid (show all.length + s.size ≤ 140737488355328 by omega)
    have HB := Lib.hid h.2.2.1
    have HW := Lib.hid h
    have HG := Lib.hid (show ∀ w1, w.drew.grownBy w1 v.ownBlock → w1.cell? ⟨g, 1, none⟩ = some v ∧ w1.frozen? ⟨g, 1, none⟩ = false from fun w1 hgr => by
      have hg : w1.heap[g]? = some (.cells #[.int .i64 size, v] 119 (0, 0)) := grown_heap hgr (show w.drew.heap[g]? = _ from h.1) (own_ne h.2.1 h.1 (by decide))
      exact ⟨cell_in hg 1, free_in hg 1⟩)
    subst hv
    clear h hnil hl hS2
    go_enter Try.func35, Try.ntmps35
    go_wp2_with fail
    go_region_law (refine step_append_str (P := Try.prog) rfl (.tmp 10) (.tmp 22) 34 9 rfl B 5 i0 Try.underlying34 Try.underlying9 hi hz0 hz1 hz2 _ all.length (cells8 all) ?hd HW.out.2.1 s ?hs HS63.out HSby.out HB.out ?_; (case hd => go_simp); (case hs => go_simp); intro v1 w1 hown1 hgr1 hbk1; obtain ⟨a1, d1, rfl⟩ := own_slice hown1; obtain ⟨c11, f11⟩ := HG.out w1 hgr1)
    all_goals
      have HPW := Lib.hid (put_win (t := s.data.toList) HW.out (by rw [show s.data.toList.length = s.size by simp, ← strCells8]; exact hown1) hgr1)
      have HPC := Lib.hid (fun e w' hd => put_close (e := e) (w' := w') (t := s.data.toList) HW.out (by rw [show s.data.toList.length = s.size by simp, ← strCells8]; exact hown1) hgr1 hbk1 hd)
      simp only [Exit.then]
      rename_i hK
      refine hK _ _ ?_
      clear hK hown1 hgr1 hbk1 HG c11 f11
      go_wp2_with fail
      refine (wnDrop _ g B size _ _ HPW.out).mono ?_; rintro e w5 hd
      have hd2 := HPC.out _ _ hd
      obtain ⟨he, hp⟩ := hd2
      subst he
      clear hd HPC HPW
      go_wp2_with fail
      go_end0
      exact ⟨rfl, hp⟩
theorem getD_lt (l : List UInt8) (j : Nat) (h : j < l.length) : l.getD j 0 = l[j] := by simp [List.getD_eq_getElem?_getD, h]
theorem lastN_getD (n : Nat) (l : List UInt8) (j : Nat) : (lastN n l).getD j 0 = l.getD (l.length - n + j) 0 := by unfold lastN; simp [List.getD_eq_getElem?_getD]
theorem wnLastNone (n : Int) (w : World) : Calls Try.prog 33 #[.pointer none, .int .i64 n] w fun e w' => e = .returned (.string ⟨#[]⟩) ∧ w' = w := by
  go_enter Try.func33, Try.ntmps33
  go_wp2
  go_ret
  exact ⟨rfl, rfl⟩
theorem wnHaveNone (w : World) : Calls Try.prog 32 #[.pointer none] w fun e w' => e = .returned (.int .i64 0) ∧ w' = w := by
  go_enter Try.func32, Try.ntmps32
  go_wp2
  go_ret
  exact ⟨rfl, rfl⟩
def sOf (l : List UInt8) : ByteArray := ⟨l.toArray⟩
theorem wnLastFew (w : World) (g B size : Nat) (v : Value) (all : List UInt8) (n : Int) (h : Win w g B size v all) (hn : n < 1) : Calls Try.prog 33 #[.pointer (some ⟨g, 0, none⟩), .int .i64 n] w fun e w' => e = .returned (.string (sOf [])) ∧ ∃ k, w' = w.drewN k := by
  clear h
  go_enter Try.func33, Try.ntmps33
  go_wp2
  go_ret
  exact ⟨rfl, 0, rfl⟩
theorem wnLast (w : World) (g B size : Nat) (v : Value) (all : List UInt8) (n : Nat) (h : Win w g B size v all) (hn : 1 ≤ n) (hl : all.length ≤ 2 * size + 258) : Calls Try.prog 33 #[.pointer (some ⟨g, 0, none⟩), .int .i64 n] w fun e w' => e = .returned (.string (sOf (lastN n (lastN size all)))) ∧ ∃ k, w' = w.drewN k := by
  have h1 := h.2.2.2.1
  have h2 := h.2.2.2.2
  obtain ⟨a, c, hv, hc, hm, hnil⟩ := h.slice
  subst hv
  have hH := lastN_len size all
  have hH2 := lastN_len n (lastN size all)
  have CH : Hid (∃ a2 c2, Calls Try.prog 67 #[.pointer (some ⟨g, 0, none⟩)] w (fun e w' => e = .returned (.slice a2 (lastN size all).length c2) ∧ ∃ k, w' = w.drewN k) ∧ c2 = (lastN size all).length ∧ (lastN size all = [] ∨ ∃ b o, a2 = some ⟨b, o, none⟩ ∧ ∀ j, j < (lastN size all).length → w.cell? ⟨b, o + j, none⟩ = some (.int .u8 (((lastN size all).getD j 0).toNat : Int)))) := by
    rcases hnil with rfl | ⟨b, rfl, hb, hcell⟩
    · rw [lastN_all size [] (by simp)]
      exact ⟨a, 0, wnHeldSmall w g B size a c [] h (by simp), rfl, .inl rfl⟩
    · by_cases hlt : size < all.length
      · refine ⟨some ⟨b, all.length - size, none⟩, size, (wnHeldBig w g B size b c all h hlt).mono (fun e w' hh => by rw [hH, Nat.min_eq_right (by omega)]; exact hh), by omega, .inr ⟨b, _, rfl, fun j hj => ?_⟩⟩
        rw [hcell _ (by omega)]
        unfold lastN
        simp [List.getD_eq_getElem?_getD]
      · rw [lastN_all size all (by omega)]
        refine ⟨some ⟨b, 0, none⟩, all.length, wnHeldSmall w g B size (some ⟨b, 0, none⟩) c all h (by omega), rfl, .inr ⟨b, 0, rfl, fun j hj => ?_⟩⟩
        rw [Nat.zero_add]; exact hcell j hj
  obtain ⟨a2, c2, C, rfl, hcell⟩ := CH.out
  have HC := Lib.hid C
  obtain ⟨H, hHd⟩ : ∃ H, lastN size all = H := ⟨_, rfl⟩
  rw [hHd] at HC hcell hH hH2 ⊢
  have hHl : H.length ≤ 67108864 := by omega
  have HL := Lib.hid hH2
  clear CH C h hnil hHd hH hH2
  by_cases hlt : n < H.length
  · rcases hcell with rfl | ⟨b, o, rfl, hc2⟩
    · simp at hlt
    have hll := HL.out
    rw [Nat.min_eq_right (by omega)] at hll
    have hcv : ∀ k, (convert 34 9 (.slice (some ⟨b, o + (H.length - n), none⟩) (H.length - (H.length - n)) (H.length - (H.length - n)))).run Try.prog (w.drewN k) = .ok (.string (sOf (lastN n H))) (w.drewN k) := by
      intro k
      have e1 : H.length - (H.length - n) = (lastN n H).length := by omega
      rw [e1]
      refine run_convert_bytes_back (P := Try.prog) (w.drewN k) 34 9 5 ⟨b, o + (H.length - n), none⟩ _ (lastN n H) Try.underlying34 Try.underlying5 Try.underlying9 (fun j hj => ?_)
      have e2 : (⟨b, o + (H.length - n), none⟩ : Addr).add j = ⟨b, o + (H.length - n + j), none⟩ := by unfold Addr.add; split <;> simp_all; omega
      rw [e2]
      have h3 := hc2 (H.length - n + j) (by omega)
      show w.cell? _ = _
      rw [h3, ← lastN_getD, getD_lt _ _ hj]
    have hsub : IntKind.i64.wrap ((H.length : Int) - n) = (H.length : Int) - n := IntWalk.i64_in _ (by omega)
    clear hc2 hll HL
    go_enter Try.func33, Try.ntmps33
    go_wp2_with fail
    refine HC.out.mono ?_; rintro e w1 ⟨rfl, k1, rfl⟩
    go_wp2_with fail
    go_ret
    exact ⟨rfl, _, rfl⟩
  · have hla : lastN n H = H := lastN_all n H (by omega)
    have hcv : ∀ k, (convert 34 9 (.slice a2 H.length H.length)).run Try.prog (w.drewN k) = .ok (.string (sOf H)) (w.drewN k) := by
      intro k
      rcases hcell with rfl | ⟨b, o, rfl, hc2⟩
      · rcases a2 with _ | x
        · show (convert 34 9 (.slice none 0 0)).run Try.prog (w.drewN k) = _
          rw [run_convert_bytes_string (w.drewN k) 34 9 5 none 0 0 Try.underlying34 Try.underlying5 Try.underlying9]
          first | rfl | (simp [Conv.bytesToString, Sem.run_pure, go_sem]; rfl)
        · exact run_convert_bytes_back (P := Try.prog) (w.drewN k) 34 9 5 x 0 [] Try.underlying34 Try.underlying5 Try.underlying9 (fun j hj => by simp at hj)
      · refine run_convert_bytes_back (P := Try.prog) (w.drewN k) 34 9 5 ⟨b, o, none⟩ _ H Try.underlying34 Try.underlying5 Try.underlying9 (fun j hj => ?_)
        have e2 : (⟨b, o, none⟩ : Addr).add j = ⟨b, o + j, none⟩ := by unfold Addr.add; split <;> simp_all
        rw [e2]
        have h3 := hc2 j (by omega)
        show w.cell? _ = _
        rw [h3, getD_lt _ _ hj]
    rw [hla]
    clear hcell HL hla
    go_enter Try.func33, Try.ntmps33
    go_wp2_with fail
    refine HC.out.mono ?_; rintro e w1 ⟨rfl, k1, rfl⟩
    go_wp2_with fail
    go_ret
    exact ⟨rfl, _, rfl⟩
end Go.Proofs.Ytjpmfaodkldobaa
