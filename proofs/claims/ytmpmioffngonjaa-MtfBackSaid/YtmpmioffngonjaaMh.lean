/- Layer 47: the contract of Move. -/
import Derived.Test.YtmpmioffngonjaaMg
import Derived.OwnWalk
namespace Go.Proofs.Ytmpmioffngonjaa
open Go.ChangeShapes Go.WideShapes Go.ChangeAt Go.RowKit
set_option linter.unusedVariables false
set_option maxRecDepth 100000
open MtfMath
theorem made_rep (v : Value) (n : Nat) : (madeCells #[v] n).toList = List.replicate n v := by
  rw [List.eq_replicate_iff]
  refine ⟨by simp [size_madeCells], fun b hb => ?_⟩
  unfold madeCells at hb
  simp only [Array.toList_map, List.mem_map] at hb
  obtain ⟨i, -, rfl⟩ := hb
  simp [Nat.mod_one]
theorem made_ints (n : Nat) : (madeCells #[Value.int .i64 0] n).toList = intCells (List.replicate n 0) := by
  rw [made_rep]; unfold intCells; rw [List.map_replicate]
theorem sl_all (g : Nat) (w : World) : (Instr.sliceAt 108 (.pointer (some ⟨g, 0, none⟩)) none none none).run Try.prog w = .ok (.slice (some ⟨g, 0, none⟩) 256 256) w := by
  have eA : Try.prog.arrayLen 108 = 256 := by kernel_rfl
  have eE : Try.prog.elem 108 = 5 := by kernel_rfl
  have ht : Try.prog.underlying 108 = some (.array (Try.prog.arrayLen 108) (Try.prog.elem 108)) := by kernel_rfl
  rw [run_sliceAt_array_all (P := Try.prog) w 108 ⟨g, 0, none⟩ ht, eE, size5, eA]
  simp [Result.andThen, slicedAt, Addr.add]
def outM (l : List UInt8) (k : Nat) : List Int := (moveL all (l.take k)).map (fun n : Nat => (n : Int)) ++ List.replicate (l.length - k) 0
theorem outM_len (l : List UInt8) (k : Nat) (hk : k ≤ l.length) : (outM l k).length = l.length := by
  unfold outM; simp [moveL_length]; omega
theorem outM_set (l : List UInt8) (k : Nat) (hk : k < l.length) : (outM l k).set k (((rowS all (l.take k)).idxOf (l.getD k 0) : Nat) : Int) = outM l (k + 1) := by
  have e : l.take (k + 1) = l.take k ++ [l.getD k 0] := by rw [List.take_succ_eq_append_getElem hk]; simp [List.getD_eq_getElem?_getD, hk]
  unfold outM
  rw [e, moveL_snoc, show l.length - k = (l.length - (k + 1)) + 1 by omega, List.replicate_succ]
  rw [List.set_append_right _ _ (by simp [moveL_length]; omega)]
  have h0 : k - ((moveL all (l.take k)).map (fun n : Nat => (n : Int))).length = 0 := by simp [moveL_length]; omega
  rw [h0, List.set_cons_zero]
  simp
set_option maxHeartbeats 3200000 in
theorem mMove (s : ByteArray) (hs : s.size ≤ 3000) (w : World) : Calls Try.prog 52 #[.string s] w fun e w' => ∃ v', e = .returned v' ∧ IsL w' v' ((moveL all s.data.toList).map (fun n : Nat => (n : Int))) ∧ Below w.heap.size w w' := by
  obtain ⟨i0, hi, hz0, hz1, hz2⟩ := info_get info_int
  go_enter Try.func52, Try.ntmps52
  go_wp2_with fail
  refine (mNew _).mono ?_; rintro e w1 ⟨rfl, hr, hb1, hsz⟩
  have HR := Lib.hid hr
  clear hr
  go_wp2_with (refine wpList_make_full _ rfl (.tmp 8) (.tmp 8) 22 rfl w.heap.size 3 i0 (.int .i64 0) 1 Try.underlying22 hi hz0 hz1 .i64 .i64 _ _ s.size rfl rfl rfl rfl ?b2 ?b3 ?b4 ?_)
  case b2 => rw [hz2]; omega
  case b3 => unfold maxLen; omega
  case b4 => omega
  intro w2 hown hgrow
  rw [made_ints] at hown
  obtain ⟨g2, hg2⟩ : ∃ g2, w.heap.size + 1 = g2 := ⟨_, rfl⟩
  have hb2 : Below w.heap.size w w2 := hb1.grown hgrow (by omega) (fun k hk => by cases hk)
  have hr2 : RowAt w2 w.heap.size all := grown_heap hgrow HR.out (by simp)
  rw [hg2] at hown ⊢
  have hne : g2 ≠ w.heap.size := by omega
  have hgb : w.heap.size ≤ g2 := by omega
  have H0 := Lib.hid (show w2.ownsRow w.heap.size 3 1 (.slice (some ⟨g2, 0, none⟩) s.size s.size) s.size (intCells (outM s.data.toList 0)) by
    have e : outM s.data.toList 0 = List.replicate s.size 0 := by simp [outM, moveL]
    rw [e]; exact hown)
  have HR2 := Lib.hid hr2
  clear hown hr2 hgrow hb1 hg2 hsz HR
  go_wp2
  go_loopw [12] (fun i wr => ∃ k : Nat, k ≤ s.size ∧ i = .int .i64 k ∧ RowAt wr w.heap.size (rowS all (s.data.toList.take k)) ∧ wr.ownsRow w.heap.size 3 1 (.slice (some ⟨g2, 0, none⟩) s.size s.size) s.size (intCells (outM s.data.toList k)) ∧ Below w.heap.size w wr) (fun i _ => s.size - (intOf i).toNat)
  case atStart => exact ⟨0, Nat.zero_le _, rfl, HR2.out, H0.out, hb2⟩
  case round =>
    clear hb2
    obtain ⟨k, hk, rfl, hr, hown, hb⟩ := hrel
    have hll : s.data.toList.length = s.size := by simp
    by_cases hlt : k < s.size
    · have hf := fine_rowS all (s.data.toList.take k) fine_all
      obtain ⟨R, hR⟩ : ∃ R, rowS all (s.data.toList.take k) = R := ⟨_, rfl⟩
      have hset := outM_set s.data.toList k (by omega)
      rw [s_get s k hlt] at hset
      have hnext : rowS all (s.data.toList.take (k + 1)) = moved R (R.idxOf s[k]) := by
        have e : s.data.toList.take (k + 1) = s.data.toList.take k ++ [s[k]] := by rw [List.take_succ_eq_append_getElem (by omega)]; rfl
        rw [e, rowS_snoc, hR]
      rw [hR] at hf hr hset
      have hix := idx_lt R s[k] hf
      obtain ⟨I, hI⟩ : ∃ I, R.idxOf s[k] = I := ⟨_, rfl⟩
      have HIDX := Lib.hid (fun X (hX : RowAt X w.heap.size R) => mIndex X w.heap.size 256 R hX hf.len s[k] (hf.has _))
      rw [hI] at hix hset hnext HIDX
      have HF := Lib.hid hf
      have HSET := Lib.hid hset
      have HNEXT := Lib.hid hnext
      have HR1 := Lib.hid hr
      have co : ∃ z, wr.cell? ⟨g2, k, none⟩ = some (.int .i64 z) := ⟨_, by rw [hown.cellAt k (by omega)]; exact intCells_get _ k (by rw [outM_len _ _ (by omega)]; omega)⟩
      obtain ⟨z, co⟩ := co
      have fo := hown.frozenAt k
      have HO := Lib.hid hown
      have HB := Lib.hid hb
      have sa := sl_all w.heap.size
      clear hf hset hnext hI hR hr hown hb hll
      go_wp2
      go_region_with (go_at_call 73; refine (HIDX.out wr.drew HR1.out).mono ?_; rintro e w3 ⟨rfl, rfl⟩)
      all_goals
        have hrS : RowAt (wr.setCell ⟨g2, k, none⟩ (.int .i64 (I : Int))).drew w.heap.size R := by
          show (wr.setCell ⟨g2, k, none⟩ (.int .i64 (I : Int))).heap[w.heap.size]? = _
          rw [Below.heap_setCell _ _ _ _ (by simpa using hne.symm)]
          exact HR1.out
        have hoS : (wr.setCell ⟨g2, k, none⟩ (.int .i64 (I : Int))).drew.ownsRow w.heap.size 3 1 (.slice (some ⟨g2, 0, none⟩) s.size s.size) s.size (intCells (outM s.data.toList (k + 1))) := by
          have h := (HO.out.stored k (.int .i64 (I : Int))).1
          rw [intCells_set, HSET.out] at h
          exact h
        have hbS : Below w.heap.size w (wr.setCell ⟨g2, k, none⟩ (.int .i64 (I : Int))).drew := (HB.out.setCell (by simpa using hgb) _).drew
        have HRS := Lib.hid hrS; have HOS := Lib.hid hoS; have HBS := Lib.hid hbS
        clear hrS hoS hbS sa
        go_wp2_with fail
        refine (mFront _ w.heap.size I R HRS.out HF.out.len hix).mono ?_
        rintro e w3 ⟨rfl, hr3, hk3, hz3⟩
        have ho3 := Keeps.ownsRow hk3 HOS.out (fun q hq e => by simp [Value.ownBlock] at hq; omega)
        have hb3 : Below w.heap.size w w3 := HBS.out.trans (hk3.below (fun q hq => ⟨Nat.lt_of_lt_of_le hq HBS.out.size, fun e => by omega⟩))
        rw [← HNEXT.out] at hr3
        have HR3 := Lib.hid hr3; have HO3 := Lib.hid ho3; have HB3 := Lib.hid hb3
        clear hr3 hk3 hz3 ho3 hb3
        go_wp2_with fail
        go_roundw
        (case rel => exact ⟨k + 1, by omega, by go_num, HR3.out, HO3.out, HB3.out⟩)
        (case measure => simp [intOf]; omega)
    · have hk2 : k = s.size := by omega
      have he : outM s.data.toList k = (moveL all s.data.toList).map (fun n : Nat => (n : Int)) := by
        unfold outM
        rw [hk2, List.take_of_length_le (by omega), show s.data.toList.length - s.size = 0 by omega]
        simp
      rw [he] at hown
      have HV := Lib.hid (own_isL hown (by simp [moveL_length]; omega))
      clear he hown hk2 hll
      go_wp2
      go_ret
      exact ⟨_, rfl, HV.out, hb⟩
end Go.Proofs.Ytmpmioffngonjaa
