import Derived.Test.YtedmnlfbmmlcbaaJ13
import Derived.OwnWalk
import Derived.Outline
/- Layer 47, carried over: Move. -/
namespace Go.Proofs.Ytedmnlfbmmlcbaa.Mtf

open Go.ChangeShapes Go.WideShapes Go.ChangeAt Go.RowKit
set_option linter.unusedVariables false
set_option maxRecDepth 100000
open MtfMath
theorem keeps_setRow {w : World} {g : Nat} (cs : Array Value) : Keeps (fun k => k = g) w (w.setRow g cs) :=
  ⟨rfl, rfl, rfl, by simp [World.setRow], fun k hk hn => by
    show (w.heap.modify g _)[k]? = _
    rw [Array.getElem?_modify, if_neg (fun e => hn e.symm)]⟩
/-- copy into a block, as a step of a region that draws; what is told is what the block holds, and that all others stay. -/
theorem step_copy_keep {P : Program} {ops : Array Oper} {o : Oper} {a : Act} {w : World} {K : Act → World → Prop} {Q : Exit → Act → World → Prop} {E : Prop} (hgd : o.guard = none) (d s : Operand) (dT sT : TypeId)
    (ho : o.op = .call { callee := .builtin .copy, args := #[d, s], argTypes := #[dT, sT] }) (elem : TypeId) (hu : P.underlying dT = some (.slice elem)) (hsz : (P.info? elem).map (·.size) = some 1)
    (g off : Nat) (ad : Addr) (dLen dCap sLen sCap : Nat) (hd : a.eval d = .slice (some ⟨g, off, none⟩) dLen dCap) (hs : a.eval s = .slice (some ad) sLen sCap)
    (cur : List Value) (t : TypeId) (hg : w.heap[g]? = some (.cells cur.toArray t (0, 0))) (cs : List Value) (hn : cs.length = Nat.min sLen dLen)
    (hsrc : ∀ j v, cs[j]? = some v → w.cell? (ad.add j) = some v)
    (hfit : off + cs.length ≤ cur.length) (h1 : ∀ v ∈ cs, v.oneCell' = true)
    (h : ∀ w', Hid (w'.heap[g]? = some (.cells (cur.take off ++ cs ++ cur.drop (off + cs.length)).toArray t (0, 0))) → Keeps (fun k => k = g) w w' → w'.heap.size = w.heap.size → K (a.put o.dst (goInt cs.length)) w') :
    if Region.wanted o (yielded ops a.tmps) = true then Oper.wp P o a w K Q else E := by
  have hw : Region.wanted o (yielded ops a.tmps) = true := by simp [Region.wanted, hgd]
  rw [if_pos hw]
  have hrun := run_copy_row (P := P) w dT sT o.type elem g off dLen dCap ad sLen sCap cur.toArray t cs hu hsz hg hn hsrc (by simpa using hfit) h1
  unfold Oper.wp
  simp only [execOp, ho, resolve, invoke, builtin, hd, hs, Sem.run_bind, Sem.run_pure, Result.andThen_ok, List.map_toArray, List.map_cons, List.map_nil, hrun]
  exact h _ (show _ = _ by simpa using setRow_heap w g _ _ t _ hg) (keeps_setRow _) (by simp [World.setRow])
theorem bc_take (r : List UInt8) (k : Nat) : (byteCells r).take k = byteCells (r.take k) := by unfold byteCells; rw [List.map_take]
theorem bc_drop (r : List UInt8) (k : Nat) : (byteCells r).drop k = byteCells (r.drop k) := by unfold byteCells; rw [List.map_drop]
theorem bc_append (r s : List UInt8) : byteCells r ++ byteCells s = byteCells (r ++ s) := by unfold byteCells; rw [List.map_append]
theorem bc_one (r : List UInt8) : ∀ u ∈ byteCells r, u.oneCell' = true := by
  intro u hu
  unfold byteCells at hu
  obtain ⟨z, -, rfl⟩ := List.mem_map.1 hu
  rfl
theorem moved_set (r : List UInt8) (k : Nat) (hk : k < r.length) : (r.take 1 ++ r.take k ++ r.drop (1 + k)).set 0 (r.getD k 0) = moved r k := by
  cases r with
  | nil => simp at hk
  | cons c r =>
    unfold moved
    rw [show k + 1 = 1 + k by omega]
    rfl
theorem size5 (w : World) : (sizeOf 5).run Try.prog w = .ok 1 w := by kernel_rfl
theorem sl_lh (K g : Nat) (hK : K < 256) (w : World) : (Instr.sliceAt 77 (.pointer (some ⟨g, 0, none⟩)) (some (.int .i64 1)) (some (.int .i64 ((K : Int) + 1))) none).run Try.prog w = .ok (.slice (some ⟨g, 1, none⟩) K 255) w := by
  have eA : Try.prog.arrayLen 77 = 256 := by kernel_rfl
  have eE : Try.prog.elem 77 = 5 := by kernel_rfl
  have ht : Try.prog.underlying 77 = some (.array (Try.prog.arrayLen 77) (Try.prog.elem 77)) := by kernel_rfl
  rw [run_sliceAt_array_lh (P := Try.prog) w 77 ⟨g, 0, none⟩ ht .i64 .i64 1 ((K : Int) + 1) (by omega) (by omega) (by rw [eA]; omega), eE, size5, eA]
  have e3 : ((K : Int) + 1).toNat = K + 1 := by omega
  simp only [Result.andThen, slicedAt, e3]
  simp [Addr.add]
theorem sl_h (K g : Nat) (hK : K < 256) (w : World) : (Instr.sliceAt 77 (.pointer (some ⟨g, 0, none⟩)) none (some (.int .i64 (K : Int))) none).run Try.prog w = .ok (.slice (some ⟨g, 0, none⟩) K 256) w := by
  have eA : Try.prog.arrayLen 77 = 256 := by kernel_rfl
  have eE : Try.prog.elem 77 = 5 := by kernel_rfl
  have ht : Try.prog.underlying 77 = some (.array (Try.prog.arrayLen 77) (Try.prog.elem 77)) := by kernel_rfl
  rw [run_sliceAt_array_h (P := Try.prog) w 77 ⟨g, 0, none⟩ ht .i64 (K : Int) (by omega) (by rw [eA]; omega), eE, size5, eA]
  have e3 : ((K : Int)).toNat = K := by omega
  simp only [Result.andThen, slicedAt, e3]
  simp [Addr.add]
set_option maxHeartbeats 1600000 in
theorem mFront (w : World) (g K : Nat) (r : List UInt8) (hr : RowAt w g r) (hl : r.length = 256) (hK : K < 256) : Calls Try.prog 28 #[.pointer (some ⟨g, 0, none⟩), .int .i64 K] w fun e w' =>
    e = .returned (.int .u8 ((r.getD K 0).toNat : Int)) ∧ RowAt w' g (moved r K) ∧ Keeps (fun k => k = g) w w' ∧ w'.heap.size = w.heap.size := by
  have c1 := hr.cell K (by omega)
  obtain ⟨B, hB⟩ : ∃ B, r.getD K 0 = B := ⟨_, rfl⟩
  rw [hB] at c1
  rw [hB]
  have HB := Lib.hid hB
  have HR := Lib.hid hr
  have HL := Lib.hid hl
  have hMS := moved_set r K (by omega)
  rw [hB] at hMS
  have HMS := Lib.hid hMS
  clear hr hB hl hMS
  go_enter Try.func28, Try.ntmps28
  go_wp2
  have q1 : IntKind.i64.wrap ((K : Int) + 1) = (K : Int) + 1 := IntWalk.i64_in _ (by omega)
  have q2 : (0 : Int) ≤ (K : Int) + 1 := by omega
  have q3 : ((K : Int) + 1).toNat = K + 1 := by omega
  have q4 : (1 : Int) ≤ (K : Int) + 1 := by omega
  have q5 : (K : Int) + 1 ≤ 256 := by omega
  have q6 : (K : Int) ≤ 256 := by omega
  have s1 := sl_lh K g hK
  have s2 := sl_h K g hK
  have hn' : Hid ((byteCells (r.take K)).length = Nat.min K K) := by show _ = _; rw [byteCells_len, List.length_take, HL.out]; simp; omega
  have hf' : Hid (1 + (byteCells (r.take K)).length ≤ (byteCells r).length) := by show _ ≤ _; rw [byteCells_len, byteCells_len, List.length_take, HL.out]; omega
  have hs' : Hid (∀ j v, (byteCells (r.take K))[j]? = some v → w.cell? ((⟨g, 0, none⟩ : Addr).add j) = some v) := by
    intro j v hj
    have hlt : j < K := by have := (List.getElem?_eq_some_iff.1 hj).1; rw [byteCells_len, List.length_take] at this; omega
    have e2 : (⟨g, 0, none⟩ : Addr).add j = ⟨g, j, none⟩ := by unfold Addr.add; split <;> simp_all
    rw [e2, HR.out.cell j (by rw [HL.out]; omega), ← hj]
    simp [byteCells, hlt, List.getD_eq_getElem?_getD, HL.out, show j < 256 by omega]
  clear q2 q3 q4 q5 q6
  have h5 : Hid ((Try.prog.info? 5).map (·.size) = some 1) := by show _ = _; kernel_rfl
  have hgd : Hid (w.drew.heap[g]? = some (.cells (byteCells r).toArray 77 (0, 0))) := HR.out
  have hs2 : Hid (∀ j v, (byteCells (r.take K))[j]? = some v → w.drew.cell? ((⟨g, 0, none⟩ : Addr).add j) = some v) := hs'.out
  obtain ⟨CR, hCR⟩ : ∃ CR, byteCells r = CR := ⟨_, rfl⟩
  obtain ⟨CT, hCT⟩ : ∃ CT, byteCells (r.take K) = CT := ⟨_, rfl⟩
  have hone : Hid (∀ v ∈ CT, v.oneCell' = true) := by rw [← hCT]; exact bc_one _
  rw [hCR] at hgd hf'
  rw [hCT] at hs2 hn' hf'
  have HCR := Lib.hid hCR
  have HCT := Lib.hid hCT
  clear hs' hCR hCT
  go_region_law (refine step_copy_keep (P := Try.prog) rfl (.tmp 15) (.tmp 19) 52 52 rfl 5 Try.underlying52 h5.out g 1 ⟨g, 0, none⟩ K 255 K 256 ?hd ?hs CR 77 hgd.out CT hn'.out hs2.out hf'.out hone.out ?_; (case hd => go_simp); (case hs => go_simp); intro w4 hg4 hk4 hz4)
  all_goals
    have hr4 : RowAt w4 g (r.take 1 ++ r.take K ++ r.drop (1 + K)) := by
      have h := hg4.out
      have hcl : CT.length = K := by rw [hn'.out]; simp
      rw [hcl, ← HCR.out, ← HCT.out, bc_take, bc_drop, bc_append, bc_append] at h
      exact h
    have hl4 : (r.take 1 ++ r.take K ++ r.drop (1 + K)).length = 256 := by
      have := HL.out
      simp; omega
    have c0 := hr4.cell 0 (by omega)
    have f0 := hr4.free 0
    obtain ⟨Z, hZ⟩ : ∃ Z, (r.take 1 ++ r.take K ++ r.drop (1 + K)).getD 0 0 = Z := ⟨_, rfl⟩
    rw [hZ] at c0
    have HR4 := Lib.hid hr4
    have HZ4 := Lib.hid hz4
    have HK4 := Lib.hid hk4
    clear hg4 hr4 hl4 hZ hz4 hk4 s1 s2
    go_wp2
    go_ret
    refine ⟨rfl, ?_, ?_, ?_⟩
    · rw [← HMS.out]; exact HR4.out.set 0 B _ rfl
    · have k0 : Keeps (fun k => k = g) w w4 := ⟨HK4.out.os, HK4.out.tape, HK4.out.output, HK4.out.size, HK4.out.block⟩
      exact k0.setCell (p := ⟨g, 0, none⟩) (.inr rfl) _
    · have h := HZ4.out
      simpa using h

open Go.ChangeShapes Go.WideShapes Go.ChangeAt Go.RowKit
set_option linter.unusedVariables false
set_option maxRecDepth 100000
open MtfMath
theorem made_rep (v : Value) (n : Nat) : (madeCells #[v] n).toList = List.replicate n v := by
  rw [List.eq_replicate_iff]
  refine ⟨by simp [size_madeCells], fun b hb => ?_⟩
  unfold madeCells at hb
  simp only [Array.toList_map, List.mem_map] at hb
  obtain ⟨i, -, rfl⟩ := hb
  simp [Nat.mod_one]
theorem made_ints (n : Nat) : (madeCells #[Value.int .i64 0] n).toList = intCells (List.replicate n 0) := by
  rw [made_rep]; unfold intCells; rw [List.map_replicate]
theorem sl_all (g : Nat) (w : World) : (Instr.sliceAt 77 (.pointer (some ⟨g, 0, none⟩)) none none none).run Try.prog w = .ok (.slice (some ⟨g, 0, none⟩) 256 256) w := by
  have eA : Try.prog.arrayLen 77 = 256 := by kernel_rfl
  have eE : Try.prog.elem 77 = 5 := by kernel_rfl
  have ht : Try.prog.underlying 77 = some (.array (Try.prog.arrayLen 77) (Try.prog.elem 77)) := by kernel_rfl
  rw [run_sliceAt_array_all (P := Try.prog) w 77 ⟨g, 0, none⟩ ht, eE, size5, eA]
  simp [Result.andThen, slicedAt, Addr.add]
def outM (l : List UInt8) (k : Nat) : List Int := (moveL all (l.take k)).map (fun n : Nat => (n : Int)) ++ List.replicate (l.length - k) 0
theorem outM_len (l : List UInt8) (k : Nat) (hk : k ≤ l.length) : (outM l k).length = l.length := by
  unfold outM; simp [moveL_length]; omega
theorem outM_set (l : List UInt8) (k : Nat) (hk : k < l.length) : (outM l k).set k (((rowS all (l.take k)).idxOf (l.getD k 0) : Nat) : Int) = outM l (k + 1) := by
  have e : l.take (k + 1) = l.take k ++ [l.getD k 0] := by rw [List.take_succ_eq_append_getElem hk]; simp [List.getD_eq_getElem?_getD, hk]
  unfold outM
  rw [e, moveL_snoc, show l.length - k = (l.length - (k + 1)) + 1 by omega, List.replicate_succ]
  rw [List.set_append_right _ _ (by simp [moveL_length]; omega)]
  have h0 : k - ((moveL all (l.take k)).map (fun n : Nat => (n : Int))).length = 0 := by simp [moveL_length]; omega
  rw [h0, List.set_cons_zero]
  simp
set_option maxHeartbeats 3200000 in
theorem mMove (s : ByteArray) (hs : s.size ≤ 3000) (w : World) : Calls Try.prog 11 #[.string s] w fun e w' => ∃ v', e = .returned v' ∧ IsL w' v' ((moveL all s.data.toList).map (fun n : Nat => (n : Int))) ∧ Below w.heap.size w w' := by
  obtain ⟨i0, hi, hz0, hz1, hz2⟩ := info_get info_int
  go_enter Try.func11, Try.ntmps11
  go_wp2_with fail
  refine (mNew _).mono ?_; rintro e w1 ⟨rfl, hr, hb1, hsz⟩
  have HR := Lib.hid hr
  clear hr
  go_wp2_with (refine wpList_make_full _ rfl (.tmp 8) (.tmp 8) 29 rfl w.heap.size 3 i0 (.int .i64 0) 1 Try.underlying29 hi hz0 hz1 .i64 .i64 _ _ s.size rfl rfl rfl rfl ?b2 ?b3 ?b4 ?_)
  case b2 => rw [hz2]; omega
  case b3 => unfold maxLen; omega
  case b4 => omega
  intro w2 hown hgrow
  rw [made_ints] at hown
  obtain ⟨g2, hg2⟩ : ∃ g2, w.heap.size + 1 = g2 := ⟨_, rfl⟩
  have hb2 : Below w.heap.size w w2 := hb1.grown hgrow (by omega) (fun k hk => by cases hk)
  have hr2 : RowAt w2 w.heap.size all := grown_heap hgrow HR.out (by simp)
  rw [hg2] at hown ⊢
  have hne : g2 ≠ w.heap.size := by omega
  have hgb : w.heap.size ≤ g2 := by omega
  have H0 := Lib.hid (show w2.ownsRow w.heap.size 3 1 (.slice (some ⟨g2, 0, none⟩) s.size s.size) s.size (intCells (outM s.data.toList 0)) by
    have e : outM s.data.toList 0 = List.replicate s.size 0 := by simp [outM, moveL]
    rw [e]; exact hown)
  have HR2 := Lib.hid hr2
  clear hown hr2 hgrow hb1 hg2 hsz HR
  go_wp2
  go_loopw [12] (fun i wr => ∃ k : Nat, k ≤ s.size ∧ i = .int .i64 k ∧ RowAt wr w.heap.size (rowS all (s.data.toList.take k)) ∧ wr.ownsRow w.heap.size 3 1 (.slice (some ⟨g2, 0, none⟩) s.size s.size) s.size (intCells (outM s.data.toList k)) ∧ Below w.heap.size w wr) (fun i _ => s.size - (intOf i).toNat)
  case atStart => exact ⟨0, Nat.zero_le _, rfl, HR2.out, H0.out, hb2⟩
  case round =>
    clear hb2
    obtain ⟨k, hk, rfl, hr, hown, hb⟩ := hrel
    have hll : s.data.toList.length = s.size := by simp
    by_cases hlt : k < s.size
    · have hf := fine_rowS all (s.data.toList.take k) fine_all
      obtain ⟨R, hR⟩ : ∃ R, rowS all (s.data.toList.take k) = R := ⟨_, rfl⟩
      have hset := outM_set s.data.toList k (by omega)
      rw [s_get s k hlt] at hset
      have hnext : rowS all (s.data.toList.take (k + 1)) = moved R (R.idxOf s[k]) := by
        have e : s.data.toList.take (k + 1) = s.data.toList.take k ++ [s[k]] := by rw [List.take_succ_eq_append_getElem (by omega)]; rfl
        rw [e, rowS_snoc, hR]
      rw [hR] at hf hr hset
      have hix := idx_lt R s[k] hf
      obtain ⟨I, hI⟩ : ∃ I, R.idxOf s[k] = I := ⟨_, rfl⟩
      have HIDX := Lib.hid (fun X (hX : RowAt X w.heap.size R) => mIndex X w.heap.size 256 R hX hf.len s[k] (hf.has _))
      rw [hI] at hix hset hnext HIDX
      have HF := Lib.hid hf
      have HSET := Lib.hid hset
      have HNEXT := Lib.hid hnext
      have HR1 := Lib.hid hr
      have co : ∃ z, wr.cell? ⟨g2, k, none⟩ = some (.int .i64 z) := ⟨_, by rw [hown.cellAt k (by omega)]; exact intCells_get _ k (by rw [outM_len _ _ (by omega)]; omega)⟩
      obtain ⟨z, co⟩ := co
      have fo := hown.frozenAt k
      have HO := Lib.hid hown
      have HB := Lib.hid hb
      have sa := sl_all w.heap.size
      clear hf hset hnext hI hR hr hown hb hll
      go_wp2
      go_region_with (go_at_call 27; refine (HIDX.out wr.drew HR1.out).mono ?_; rintro e w3 ⟨rfl, rfl⟩)
      all_goals
        have hrS : RowAt (wr.setCell ⟨g2, k, none⟩ (.int .i64 (I : Int))).drew w.heap.size R := by
          show (wr.setCell ⟨g2, k, none⟩ (.int .i64 (I : Int))).heap[w.heap.size]? = _
          rw [Below.heap_setCell _ _ _ _ (by simpa using hne.symm)]
          exact HR1.out
        have hoS : (wr.setCell ⟨g2, k, none⟩ (.int .i64 (I : Int))).drew.ownsRow w.heap.size 3 1 (.slice (some ⟨g2, 0, none⟩) s.size s.size) s.size (intCells (outM s.data.toList (k + 1))) := by
          have h := (HO.out.stored k (.int .i64 (I : Int))).1
          rw [intCells_set, HSET.out] at h
          exact h
        have hbS : Below w.heap.size w (wr.setCell ⟨g2, k, none⟩ (.int .i64 (I : Int))).drew := (HB.out.setCell (by simpa using hgb) _).drew
        have HRS := Lib.hid hrS; have HOS := Lib.hid hoS; have HBS := Lib.hid hbS
        clear hrS hoS hbS sa
        go_wp2_with fail
        refine (mFront _ w.heap.size I R HRS.out HF.out.len hix).mono ?_
        rintro e w3 ⟨rfl, hr3, hk3, hz3⟩
        have ho3 := Keeps.ownsRow hk3 HOS.out (fun q hq e => by simp [Value.ownBlock] at hq; omega)
        have hb3 : Below w.heap.size w w3 := HBS.out.trans (hk3.below (fun q hq => ⟨Nat.lt_of_lt_of_le hq HBS.out.size, fun e => by omega⟩))
        rw [← HNEXT.out] at hr3
        have HR3 := Lib.hid hr3; have HO3 := Lib.hid ho3; have HB3 := Lib.hid hb3
        clear hr3 hk3 hz3 ho3 hb3
        go_wp2_with fail
        go_roundw
        (case rel => exact ⟨k + 1, by omega, by go_num, HR3.out, HO3.out, HB3.out⟩)
        (case measure => simp [intOf]; omega)
    · have hk2 : k = s.size := by omega
      have he : outM s.data.toList k = (moveL all s.data.toList).map (fun n : Nat => (n : Int)) := by
        unfold outM
        rw [hk2, List.take_of_length_le (by omega), show s.data.toList.length - s.size = 0 by omega]
        simp
      rw [he] at hown
      have HV := Lib.hid (own_isL hown (by simp [moveL_length]; omega))
      clear he hown hk2 hll
      go_wp2
      go_ret
      exact ⟨_, rfl, HV.out, hb⟩

end Go.Proofs.Ytedmnlfbmmlcbaa.Mtf

/- Layer 47, carried over: Back. -/
namespace Go.Proofs.Ytedmnlfbmmlcbaa.Mtf

open Go.ChangeShapes Go.WideShapes Go.ChangeAt Go.RowKit
set_option linter.unusedVariables false
set_option maxRecDepth 100000
open MtfMath
theorem infoB5 : (Try.prog.info? 5).map (fun i => (i.zero, i.size, i.bytes)) = some (some (.int .u8 0), 1, 1) := by kernel_rfl
def okB (l : List Int) : Bool := l.all fun x => decide (0 ≤ x) && decide (x ≤ 255)
theorem okB_cons (x : Int) (l : List Int) : okB (x :: l) = ((decide (0 ≤ x) && decide (x ≤ 255)) && okB l) := by simp [okB]
theorem okB_snoc (l : List Int) (x : Int) (h : okB l = true) (h0 : 0 ≤ x) (h1 : x ≤ 255) : okB (l ++ [x]) = true := by
  unfold okB at *
  rw [List.all_append, h]
  simp [h0, h1]
def toN (l : List Int) : List Nat := l.map Int.toNat
def backS (l : List Int) : ByteArray := if okB l then ⟨(backL all (toN l)).toArray⟩ else ⟨#[]⟩
def backE (l : List Int) : Int := if okB l then 0 else 2
theorem toN_lt (l : List Int) (h : okB l = true) : ∀ k ∈ toN l, k < 256 := by
  intro k hk
  unfold toN at hk
  obtain ⟨x, hx, rfl⟩ := List.mem_map.1 hk
  have := List.all_eq_true.1 h x hx
  simp at this
  omega
theorem toN_take (l : List Int) (k : Nat) : toN (l.take k) = (toN l).take k := by unfold toN; rw [List.map_take]
def outB (l : List Int) (k : Nat) : List UInt8 := backL all (toN (l.take k)) ++ List.replicate (l.length - k) 0
theorem outB_len (l : List Int) (k : Nat) (hk : k ≤ l.length) : (outB l k).length = l.length := by
  unfold outB; simp [backL_length, toN]; omega
theorem toN_succ (l : List Int) (k : Nat) (hk : k < l.length) : toN (l.take (k + 1)) = toN (l.take k) ++ [(l.getD k 0).toNat] := by
  rw [take_getD l k hk]; unfold toN; simp
theorem outB_set (l : List Int) (k : Nat) (hk : k < l.length) : (outB l k).set k ((rowL all (toN (l.take k))).getD (l.getD k 0).toNat 0) = outB l (k + 1) := by
  unfold outB
  rw [toN_succ l k hk, backL_snoc, show l.length - k = (l.length - (k + 1)) + 1 by omega, List.replicate_succ]
  have hL : (backL all (toN (l.take k))).length = k := by simp [backL_length, toN]; omega
  rw [List.set_append_right _ _ (by omega), hL, Nat.sub_self, List.set_cons_zero]
  simp
theorem bcells_set (l : List UInt8) (k : Nat) (b : UInt8) : (byteCells l).set k (.int .u8 (b.toNat : Int)) = byteCells (l.set k b) := by unfold byteCells; rw [List.map_set]
theorem made_bytes (n : Nat) : (madeCells #[Value.int .u8 0] n).toList = byteCells (List.replicate n 0) := by
  rw [made_rep]; unfold byteCells; rw [List.map_replicate]; rfl
set_option maxHeartbeats 3200000 in
theorem mBack (a : Option Addr) (c : Nat) (l : List Int) (w : World) (h : IsInts w a l) (hl : l.length ≤ 3000) : Calls Try.prog 43 #[.slice a l.length c] w fun e w' => e = .returned (.tuple #[.string (backS l), .int .i64 (backE l)]) ∧ Below w.heap.size w w' := by
  obtain ⟨i0, hi, hz0, hz1, hz2⟩ := info_get infoB5
  have HI := Lib.hid h
  clear h
  go_enter Try.func43, Try.ntmps43
  go_wp2_with fail
  refine (mNew _).mono ?_; rintro e w1 ⟨rfl, hr, hb1, hsz⟩
  have HR := Lib.hid hr
  clear hr
  go_wp2_with (refine wpList_make_full _ rfl (.tmp 10) (.tmp 10) 52 rfl w.heap.size 5 i0 (.int .u8 0) 1 Try.underlying52 hi hz0 hz1 .i64 .i64 _ _ l.length rfl rfl rfl rfl ?b2 ?b3 ?b4 ?_)
  case b2 => rw [hz2]; omega
  case b3 => unfold maxLen; omega
  case b4 => omega
  intro w2 hown hgrow
  rw [made_bytes] at hown
  obtain ⟨g2, hg2⟩ : ∃ g2, w.heap.size + 1 = g2 := ⟨_, rfl⟩
  have hb2 : Below w.heap.size w w2 := hb1.grown hgrow (by omega) (fun k hk => by cases hk)
  have hr2 : RowAt w2 w.heap.size all := grown_heap hgrow HR.out (by simp)
  rw [hg2] at hown ⊢
  have hne : g2 ≠ w.heap.size := by omega
  have hgb : w.heap.size ≤ g2 := by omega
  have H0 := Lib.hid (show w2.ownsRow w.heap.size 5 1 (.slice (some ⟨g2, 0, none⟩) l.length l.length) l.length (byteCells (outB l 0)) by
    have e : outB l 0 = List.replicate l.length 0 := by simp [outB, backL, toN]
    rw [e]; exact hown)
  have HR2 := Lib.hid hr2
  clear hown hr2 hgrow hb1 hg2 hsz HR
  go_wp2
  go_loopw [14] (fun i wr => ∃ k : Nat, k ≤ l.length ∧ i = .int .i64 k ∧ RowAt wr w.heap.size (rowL all (toN (l.take k))) ∧ wr.ownsRow w.heap.size 5 1 (.slice (some ⟨g2, 0, none⟩) l.length l.length) l.length (byteCells (outB l k)) ∧ Below w.heap.size w wr ∧ Hid (okB (l.take k) = true) ∧ Hid (okB (l.drop k) = okB l)) (fun i _ => l.length - (intOf i).toNat)
  case atStart => exact ⟨0, Nat.zero_le _, rfl, HR2.out, H0.out, hb2, Lib.hid rfl, Lib.hid rfl⟩
  case round =>
    clear hb2
    obtain ⟨k, hk, rfl, hr, hown, hb, hok, hdr⟩ := hrel
    by_cases hlt : k < l.length
    · obtain ⟨x, rfl, hxb, hx⟩ := HI.out.at k hlt
      have cx := hx k hlt
      have cx : wr.cell? (x.add k) = some (.int .i64 (l.getD k 0)) := by rw [hb.cell (by rw [add_block]; exact hxb)]; exact cx
      have hd := hdr.out
      rw [drop_getD l k hlt, okB_cons] at hd
      have hset := outB_set l k hlt
      have htk := take_getD l k hlt
      have hsu := toN_succ l k hlt
      obtain ⟨X, hX⟩ : ∃ X, l.getD k 0 = X := ⟨_, rfl⟩
      rw [hX] at cx hd hset htk hsu
      clear hX hx hdr
      by_cases hbad : X < 0 ∨ 255 < X
      · have HF := Lib.hid (show okB l = false by
          rw [← hd]
          have : (decide (0 ≤ X) && decide (X ≤ 255)) = false := by rw [Bool.and_eq_false_iff, decide_eq_false_iff_not, decide_eq_false_iff_not]; omega
          rw [this, Bool.false_and])
        have HS := Lib.hid (show backS l = ⟨#[]⟩ by unfold backS; rw [HF.out]; rfl)
        have HE := Lib.hid (show backE l = 2 by unfold backE; rw [HF.out]; rfl)
        clear hd hset htk hsu hr hown
        rcases hbad with hbad | hbad
        · go_wp2
          go_ret2
          exact ⟨by rw [HS.out, HE.out]; first | rfl | exact ⟨rfl, rfl⟩ | simp, hb⟩
        · have hb0 : ¬ X < 0 := by omega
          go_wp2
          go_ret2
          exact ⟨by rw [HS.out, HE.out]; first | rfl | exact ⟨rfl, rfl⟩ | simp, hb⟩
      · obtain ⟨K, rfl⟩ : ∃ K : Nat, X = K := ⟨X.toNat, by omega⟩
        have hK : K < 256 := by omega
        have HD := Lib.hid (show okB (l.drop (k + 1)) = okB l by
          have e : (decide (0 ≤ (K : Int)) && decide ((K : Int) ≤ 255)) = true := by simp; omega
          rwa [e, Bool.true_and] at hd)
        have HK2 := Lib.hid (show okB (l.take (k + 1)) = true by rw [htk]; exact okB_snoc _ _ hok.out (by omega) (by omega))
        have hf := fine_rowL all (toN (l.take k)) fine_all (toN_lt _ hok.out)
        obtain ⟨R, hR⟩ : ∃ R, rowL all (toN (l.take k)) = R := ⟨_, rfl⟩
        have HNEXT := Lib.hid (show rowL all (toN (l.take (k + 1))) = moved R K by rw [hsu, rowL_snoc, hR]; rfl)
        rw [hR] at hf hr hset
        have hset : (outB l k).set k (R.getD K 0) = outB l (k + 1) := hset
        obtain ⟨b, hbB⟩ : ∃ b, R.getD K 0 = b := ⟨_, rfl⟩
        have CF := Lib.hid (mFront wr w.heap.size K R hr hf.len hK)
        rw [hbB] at hset CF
        have HSET := Lib.hid hset
        have HO := Lib.hid hown
        have HB := Lib.hid hb
        clear hd hset htk hsu hr hown hb hR hbB hf hbad hok
        go_wp2_with fail
        refine CF.out.mono ?_
        rintro e w3 ⟨rfl, hr3, hk3, hz3⟩
        have ho3 := Keeps.ownsRow hk3 HO.out (fun q hq e => by simp [Value.ownBlock] at hq; omega)
        have hb3 : Below w.heap.size w w3 := HB.out.trans (hk3.below (fun q hq => ⟨Nat.lt_of_lt_of_le hq HB.out.size, fun e => by omega⟩))
        obtain ⟨z, co⟩ : ∃ z, w3.cell? ⟨g2, k, none⟩ = some (.int .u8 z) := by
          have h9 := outB_len l k (by omega)
          have h8 : (byteCells (outB l k))[k]? = some (.int .u8 (((outB l k).getD k 0).toNat : Int)) := by simp [byteCells, List.getD_eq_getElem?_getD, h9, hlt]
          exact ⟨_, (ho3.cellAt k (by omega)).trans h8⟩
        have fo := ho3.frozenAt k
        rw [← HNEXT.out] at hr3
        have HR3 := Lib.hid hr3; have HO3 := Lib.hid ho3; have HB3 := Lib.hid hb3
        clear hr3 hk3 hz3 ho3 hb3
        go_wp2_with fail
        go_roundw
        case rel => exact ⟨k + 1, by omega, by go_num, by
          show (w3.setCell ⟨g2, k, none⟩ _).heap[w.heap.size]? = _
          rw [Below.heap_setCell _ _ _ _ (by simpa using hne.symm)]
          exact HR3.out, by
          have h := (HO3.out.stored k (.int .u8 (b.toNat : Int))).1
          rw [bcells_set, HSET.out] at h
          exact h, HB3.out.setCell (by simpa using hgb) _, HK2, HD⟩
        case measure => simp [intOf]; omega
    · have hk2 : k = l.length := by omega
      have hT : okB l = true := by have h := hok.out; rwa [List.take_of_length_le (by omega)] at h
      have he : outB l k = backL all (toN l) := by
        unfold outB
        rw [hk2, List.take_of_length_le (by omega)]
        simp
      rw [he] at hown
      have hcv := conv_own (P := Try.prog) (src := 52) (dst := 9) Try.underlying52 Try.underlying5 Try.underlying9 hown
      have HS := Lib.hid (show backS l = ⟨(backL all (toN l)).toArray⟩ by unfold backS; rw [hT]; rfl)
      have HE := Lib.hid (show backE l = 0 by unfold backE; rw [hT]; rfl)
      clear he hown hk2 hT hok hdr hr
      go_wp2
      go_ret2
      exact ⟨by rw [HS.out, HE.out]; first | rfl | exact ⟨rfl, rfl⟩ | simp, hb⟩

end Go.Proofs.Ytedmnlfbmmlcbaa.Mtf

/- Layer 47, carried over: the document's Move. -/
namespace Go.Proofs.Ytedmnlfbmmlcbaa.Mtf

open Go.ChangeShapes Go.WideShapes Go.ChangeAt Go.RowKit
set_option linter.unusedVariables false
set_option maxRecDepth 100000
open MtfMath
theorem own_len8 {w : World} {base n : Nat} {e : TypeId} {v : Value} {l : List UInt8} (h : w.ownsRow base e 1 v n (byteCells l)) : n = l.length := by have := h.1; rw [byteCells_len] at this; omega
theorem byte_new1 (w : World) (x : Int) (g : Nat) (hg : g = w.heap.size) : ∀ j u, [Value.int .u8 x][j]? = some u → (w.alloc (.cells #[.int .u8 x] 5)).cell? ((⟨g, 0, none⟩ : Addr).add j) = some u := cell_new1 w _ 5 g hg
theorem byte_one (x : Int) : ∀ u ∈ [Value.int .u8 x], u.oneCell' = true := by intro u hu; simp at hu; subst hu; rfl
def upto (k : Nat) : List UInt8 := (List.range k).map UInt8.ofNat
theorem upto_snoc (k : Nat) : upto k ++ [UInt8.ofNat k] = upto (k + 1) := by unfold upto; rw [List.range_succ, List.map_append]; rfl
theorem upto_len (k : Nat) : (upto k).length = k := by simp [upto]
set_option maxHeartbeats 800000 in
theorem rRow (w : World) : Calls Try.prog 36 #[] w fun e w' => ∃ v', e = .returned v' ∧ w'.ownsRow w.heap.size 5 1 v' 256 (byteCells all) ∧ Below w.heap.size w w' := by
  obtain ⟨i0, hi, hz0, hz1, hz2⟩ := info_get infoB5
  go_enter Try.func36, Try.ntmps36
  go_wp2
  go_loopw [1, 2] (fun u i wr => ∃ k : Nat, k ≤ 256 ∧ i = .int .i64 k ∧ wr.ownsRow w.heap.size 5 1 u k (byteCells (upto k)) ∧ Below w.heap.size w wr) (fun _ i _ => 256 - (intOf i).toNat)
  case atStart => exact ⟨0, by omega, rfl, World.ownsRow_nil _ _ _ _, Below.refl _ _⟩
  case round =>
    obtain ⟨k, hk, rfl, hown, hb⟩ := hrel
    have hbs := hb.size
    by_cases hlt : k < 256
    · have HS := Lib.hid (upto_snoc k)
      go_wp2_with (at_builtin; refine wpList_append_own _ rfl _ _ 52 rfl w.heap.size 5 i0 (.int .u8 0) 1 1 Try.underlying52 hi hz0 hz1 hz2 rfl (by decide) _ _ _ rfl (hown.alloc _) ⟨wr.heap.size, 0, none⟩ 1 1 [Value.int .u8 (k : Int)] rfl rfl ?d1 ?d2 ?d3 ?d4 ?d5 ?_)
      case d1 => exact byte_new1 _ _ _ rfl
      case d2 => exact byte_one _
      case d3 => unfold maxLen; omega
      case d4 => omega
      case d5 => simp; omega
      intro v1 w1 hown1 hgrow1 _
      have hb1 : Below w.heap.size w w1 := (hb.alloc (by omega) _).grown hgrow1 (by simp; omega) (fun k hk => (hown.lt k hk).1)
      clear hgrow1 hown hb
      have e : ((k : Nat) : Int) = ((UInt8.ofNat k).toNat : Int) := by simp; omega
      rw [e, ← byteCells_snoc, HS.out] at hown1
      have HO := Lib.hid hown1
      clear hown1 e
      go_wp2
      go_roundw
      case rel => exact ⟨k + 1, by omega, by go_num, HO.out, hb1⟩
      case measure => simp [intOf]; omega
    · obtain rfl : k = 256 := by omega
      have HO := Lib.hid hown
      clear hown
      go_wp2
      go_ret
      exact ⟨_, rfl, HO.out, hb⟩
theorem own_one (w : World) (x : Int) (base : Nat) (h : base ≤ w.heap.size) : (w.alloc (.cells #[.int .u8 x] 5)).ownsRow base 5 1 (.slice (some ⟨w.heap.size, 0, none⟩) 1 1) 1 [.int .u8 x] :=
  ⟨rfl, .inr ⟨w.heap.size, 1, #[.int .u8 x], rfl, h, heap_alloc_new w _, by omega, by unfold maxLen; omega, rfl, rfl⟩⟩
set_option maxHeartbeats 1600000 in
theorem rMoved (b0 : Nat) (v : Value) (K : Nat) (r : List UInt8) (w : World) (hown : w.ownsRow b0 5 1 v 256 (byteCells r)) (hK : K < 256) : Calls Try.prog 37 #[v, .int .i64 K] w fun e w' => ∃ v', e = .returned v' ∧ w'.ownsRow w.heap.size 5 1 v' 256 (byteCells (moved r K)) ∧ Below w.heap.size w w' := by
  obtain ⟨i0, hi, hz0, hz1, hz2⟩ := info_get infoB5
  have hrl := own_len8 hown
  rcases hown.2 with ⟨-, h0⟩ | ⟨g, cap, cur, rfl, -, hgg, hcap, hcm, -, -⟩
  · omega
  have hgl := block_lt hgg
  have hcell : ∀ j, j < 256 → w.cell? ⟨g, j, none⟩ = some (.int .u8 ((r.getD j 0).toNat : Int)) := fun j hj => by
    rw [hown.cellAt j (by omega)]
    simp [byteCells, List.getD_eq_getElem?_getD, show j < r.length by omega]
  have cK := hcell K hK
  have HC := Lib.hid hcell
  obtain ⟨B, hB⟩ : ∃ B, r.getD K 0 = B := ⟨_, rfl⟩
  rw [hB] at cK
  have HB := Lib.hid hB
  have HRL := Lib.hid hrl
  unfold maxLen at hcm
  clear hown hgg hcell hB hrl
  have H1 := Lib.hid (own_one w (B.toNat : Int) w.heap.size (Nat.le_refl _))
  have HN1 : Hid (∀ j u, (byteCells (r.take K))[j]? = some u → (w.alloc (.cells #[.int .u8 (B.toNat : Int)] 5)).cell? ((⟨g, 0, none⟩ : Addr).add j) = some u) := by
    intro j u hj
    have hlt : j < K := by have := (List.getElem?_eq_some_iff.1 hj).1; rw [byteCells_len, List.length_take] at this; omega
    have e2 : (⟨g, 0, none⟩ : Addr).add j = ⟨g, j, none⟩ := by unfold Addr.add; split <;> simp_all
    rw [e2, ((Below.refl w.heap.size w).alloc (Nat.le_refl _) _).cell (p := ⟨g, j, none⟩) hgl, HC.out j (by omega), ← hj]
    have := HRL.out
    simp [byteCells, hlt, List.getD_eq_getElem?_getD, show j < r.length by omega]
  have HL1 : Hid ((byteCells (r.take K)).length = K * 1) := by show _ = _; have := HRL.out; rw [byteCells_len, List.length_take]; omega
  have h1 : (0 : Int) ≤ (K : Int) + 1 := by omega
  by_cases hKc : K + 1 = cap
  all_goals
    go_enter Try.func37, Try.ntmps37
    go_wp2_with (at_builtin; refine wpList_append_own _ rfl (.tmp 11) (.tmp 14) 52 rfl w.heap.size 5 i0 (.int .u8 0) 1 1 Try.underlying52 hi hz0 hz1 hz2 rfl (by decide) _ _ _ rfl H1.out ⟨g, 0, none⟩ K cap (byteCells (r.take K)) rfl HL1.out HN1.out (bc_one _) ?d3 ?d4 ?d5 ?_)
    (case d3 => unfold maxLen; omega)
    (case d4 => omega)
    (case d5 => simp)
    intro v1 w1 hown1 hgrow1 _
    have hb1 : Below w.heap.size w w1 := ((Below.refl _ _).alloc (Nat.le_refl _) _).grown hgrow1 (by simp) (fun k hk => by simp [Value.ownBlock] at hk; omega)
    have HO1 := Lib.hid hown1
    have HB1 := Lib.hid hb1
    clear hown1 hgrow1 hb1
    have HRL' := HRL.out
  · have hK2 : K = 255 := by omega
    have hd : r.drop (K + 1) = [] := List.drop_eq_nil_of_le (by omega)
    have HM := Lib.hid (show [B] ++ r.take K = moved r K by unfold moved; rw [HB.out, hd, List.append_nil]; rfl)
    have HK2 := Lib.hid hK2
    clear HRL' hd hK2
    have hz : ∀ j u, ([] : List Value)[j]? = some u → w1.cell? ((⟨g, 0, none⟩ : Addr).add j) = some u := fun j u h => by simp at h
    have HZ := Lib.hid hz
    clear hz
    have hbs := HB1.out.size
    go_wp2_with (at_builtin; refine wpList_append_own _ rfl (.tmp 16) (.tmp 20) 52 rfl w.heap.size 5 i0 (.int .u8 0) 1 1 Try.underlying52 hi hz0 hz1 hz2 rfl (by decide) _ _ _ rfl HO1.out ⟨g, 0, none⟩ 0 0 [] rfl rfl HZ.out (by simp) ?d3 ?d4 ?d5 ?_)
    case d3 => unfold maxLen; omega
    case d4 => omega
    case d5 => omega
    intro v2 w2 hown2 hgrow2 _
    have hb2 : Below w.heap.size w w2 := HB1.out.grown hgrow2 (by omega) (fun k hk => (HO1.out.lt k hk).1)
    have HO2 : Hid (w2.ownsRow w.heap.size 5 1 v2 256 (byteCells (moved r K))) := by
      show w2.ownsRow _ _ _ _ _ _
      have e : (1 + K) = 256 := by have := HK2.out; omega
      rw [e] at hown2
      rw [← HM.out]
      exact hown2
    clear hown2 hgrow2
    go_wp2
    go_ret
    exact ⟨_, rfl, HO2.out, hb2⟩
  · have HM := Lib.hid (show [B] ++ r.take K ++ r.drop (K + 1) = moved r K by unfold moved; rw [HB.out]; rfl)
    have HN2 : Hid (∀ j u, (byteCells (r.drop (K + 1)))[j]? = some u → w1.cell? ((⟨g, K + 1, none⟩ : Addr).add j) = some u) := by
      intro j u hj
      have hlt : j < 256 - (K + 1) := by have := (List.getElem?_eq_some_iff.1 hj).1; rw [byteCells_len, List.length_drop] at this; omega
      have e2 : (⟨g, K + 1, none⟩ : Addr).add j = ⟨g, K + 1 + j, none⟩ := by unfold Addr.add; split <;> simp_all
      rw [e2, HB1.out.cell (p := ⟨g, K + 1 + j, none⟩) hgl, HC.out (K + 1 + j) (by omega), ← hj]
      simp [byteCells, List.getD_eq_getElem?_getD, show K + 1 + j < r.length by omega]
    have HL2 : Hid ((byteCells (r.drop (K + 1))).length = 256 - (K + 1)) := by show _ = _; rw [byteCells_len, List.length_drop]; omega
    clear HRL'
    have hbs := HB1.out.size
    go_wp2_with (at_builtin; refine wpList_append_own _ rfl (.tmp 16) (.tmp 20) 52 rfl w.heap.size 5 i0 (.int .u8 0) 1 1 Try.underlying52 hi hz0 hz1 hz2 rfl (by decide) _ _ _ rfl HO1.out ⟨g, K + 1, none⟩ _ _ (byteCells (r.drop (K + 1))) rfl ?d1 HN2.out (bc_one _) ?d3 ?d4 ?d5 ?_)
    case d1 => rw [HL2.out]; omega
    case d3 => unfold maxLen; omega
    case d4 => omega
    case d5 => omega
    intro v2 w2 hown2 hgrow2 _
    have hb2 : Below w.heap.size w w2 := HB1.out.grown hgrow2 (by omega) (fun k hk => (HO1.out.lt k hk).1)
    have HO2 : Hid (w2.ownsRow w.heap.size 5 1 v2 256 (byteCells (moved r K))) := by
      show w2.ownsRow _ _ _ _ _ _
      have h9 := hown2.1
      rw [← HM.out, ← bc_append, ← bc_append]
      have e := hown2
      first
        | exact e
        | (rw [show 1 + K + (256 - (K + 1)) = 256 by omega] at e; exact e)
        | (rw [show 1 + K + (255 - K) = 256 by omega] at e; exact e)
    clear hown2 hgrow2
    go_wp2
    go_ret
    exact ⟨_, rfl, HO2.out, hb2⟩

open Go.ChangeShapes Go.WideShapes Go.ChangeAt Go.RowKit
set_option linter.unusedVariables false
set_option maxRecDepth 100000
open MtfMath
theorem own_base {w : World} {b b' n size : Nat} {e : TypeId} {v : Value} {xs : List Value} (h : w.ownsRow b e size v n xs) (hb : b' ≤ b) : w.ownsRow b' e size v n xs := by
  refine ⟨h.1, ?_⟩
  rcases h.2 with h | ⟨g, cap, cur, h1, h2, h3⟩
  · exact .inl h
  · exact .inr ⟨g, cap, cur, h1, Nat.le_trans hb h2, h3⟩
theorem own_apart {w : World} {b b' n n' size size' : Nat} {e e' : TypeId} {u v : Value} {xs ys : List Value} (h : w.ownsRow b e size u n xs) (k : w.ownsRow b' e' size' v n' ys) (hne : e ≠ e') : u.ownBlock = none ∨ u.ownBlock ≠ v.ownBlock := by
  rcases h.2 with ⟨rfl, _⟩ | ⟨g, cap, cur, rfl, _, hg, _⟩
  · left; rfl
  · right
    exact fun e2 => own_ne k hg (fun e3 => hne e3.symm) (by rw [← e2]; rfl)
theorem get_ne (R : List UInt8) (hR : Fine R) (j I : Nat) (b : UInt8) (hI : R.idxOf b = I) (hj : j < 256) (hne : j ≠ I) : R.getD j 0 ≠ b := by
  intro e
  have := idx_get R j hj hR
  rw [e, hI] at this
  exact hne this.symm
set_option maxHeartbeats 3200000 in
theorem rMove (s : ByteArray) (hs : s.size ≤ 3000) (w : World) : Calls Try.prog 16 #[.string s] w fun e w' => ∃ v', e = .returned v' ∧ IsL w' v' ((moveL all s.data.toList).map (fun n : Nat => (n : Int))) ∧ Below w.heap.size w w' := by
  obtain ⟨i0, hi, hz0, hz1, hz2⟩ := info_get info_int
  go_enter Try.func16, Try.ntmps16
  go_wp2_with fail
  refine (rRow _).mono ?_; rintro e w1 ⟨v1, rfl, ho1, hb1⟩
  have HO1 := Lib.hid ho1
  clear ho1
  go_wp2
  go_loopw [3, 4, 5] (fun u v i wr => ∃ k : Nat, k ≤ s.size ∧ i = .int .i64 k ∧ wr.ownsRow w.heap.size 5 1 u 256 (byteCells (rowS all (s.data.toList.take k))) ∧ wr.ownsRow w.heap.size 3 1 v k (intCells ((moveL all (s.data.toList.take k)).map (fun n : Nat => (n : Int)))) ∧ Below w.heap.size w wr) (fun _ _ i _ => s.size - (intOf i).toNat)
  case atStart => exact ⟨0, Nat.zero_le _, rfl, HO1.out, World.ownsRow_nil _ _ _ _, hb1⟩
  case round =>
    clear hb1
    obtain ⟨k, hk, rfl, hrow, hout, hb⟩ := hrel
    have hll : s.data.toList.length = s.size := by simp
    have hbs := hb.size
    by_cases hlt : k < s.size
    · have hf := fine_rowS all (s.data.toList.take k) fine_all
      have et : s.data.toList.take (k + 1) = s.data.toList.take k ++ [s[k]] := by rw [List.take_succ_eq_append_getElem (by omega)]; rfl
      have hmv := moveL_snoc all (s.data.toList.take k) s[k]
      rw [← et] at hmv
      obtain ⟨R, hR⟩ : ∃ R, rowS all (s.data.toList.take k) = R := ⟨_, rfl⟩
      have hnext : rowS all (s.data.toList.take (k + 1)) = moved R (R.idxOf s[k]) := by rw [et, rowS_snoc, hR]
      rw [hR] at hf hrow hmv
      have hix := idx_lt R s[k] hf
      have hgi := get_idx R s[k] hf
      obtain ⟨I, hI⟩ : ∃ I, R.idxOf s[k] = I := ⟨_, rfl⟩
      rw [hI] at hix hnext hmv hgi
      have HF := Lib.hid hf
      have HI := Lib.hid hI
      have HGI := Lib.hid hgi
      have HMV := Lib.hid (show (moveL all (s.data.toList.take k)).map (fun n : Nat => (n : Int)) ++ [(I : Int)] = (moveL all (s.data.toList.take (k + 1))).map (fun n : Nat => (n : Int)) by rw [hmv]; simp)
      have HNEXT := Lib.hid hnext
      have hrl := own_len8 hrow
      rcases hrow.2 with ⟨-, h0⟩ | ⟨g, cap, cur, rfl, -, hgg, -, -, -, -⟩
      · omega
      have hcell : ∀ j, j < 256 → wr.cell? ⟨g, j, none⟩ = some (.int .u8 ((R.getD j 0).toNat : Int)) := fun j hj => by
        rw [hrow.cellAt j (by omega)]
        simp [byteCells, List.getD_eq_getElem?_getD, show j < R.length by omega]
      have HC := Lib.hid hcell
      have HROW := Lib.hid hrow
      have HOUT := Lib.hid hout
      have HB := Lib.hid hb
      clear hf hI hgi hmv hnext hrl hgg hcell hrow hout hb et hR hll
      go_wp2
      obtain ⟨wo, rfl⟩ : ∃ wo : World, wo = wr := ⟨_, rfl⟩
      go_loopw [6] (fun i wr => ∃ j : Nat, j ≤ I ∧ i = .int .i64 j ∧ ∃ q, wr = wo.drewN q) (fun i _ => I - (intOf i).toNat)
      case atStart => exact ⟨0, Nat.zero_le _, rfl, 0, rfl⟩
      case round =>
        obtain ⟨j, hj, rfl, q, rfl⟩ := hrel
        have cj := HC.out j (by omega)
        by_cases hjI : j < I
        · have hne := get_ne R HF.out j I s[k] HI.out (by omega) (by omega)
          obtain ⟨X, hX⟩ : ∃ X, (R.getD j 0).toNat = X := ⟨_, rfl⟩
          have e1 : ((X : Int) == (s[k].toNat : Int)) = false := by
            rw [beq_eq_false_iff_ne]
            intro e
            exact hne (UInt8.toNat_inj.1 (by omega))
          have e2 : ((X : Int) != (s[k].toNat : Int)) = true := by rw [bne, e1]; rfl
          rw [hX] at cj
          clear hne hX
          go_wp2
          go_region
          go_wp2
          go_roundw
          case rel => exact ⟨j + 1, by omega, by go_num, _, rfl⟩
          case measure => simp [intOf]; omega
        · obtain rfl : j = I := by omega
          rw [HGI.out] at cj
          have e2 : ((s[k].toNat : Int) != (s[k].toNat : Int)) = false := by simp
          have e1 : ((s[k].toNat : Int) == (s[k].toNat : Int)) = true := by simp
          go_wp2
          go_region
          go_wp2_with (at_builtin; refine wpList_append_own _ rfl (.tmp 24) (.tmp 26) 29 rfl w.heap.size 3 i0 (.int .i64 0) 1 8 Try.underlying29 hi hz0 hz1 hz2 rfl (by decide) _ _ _ rfl (HOUT.out.alloc _) ⟨wo.heap.size, 0, none⟩ 1 1 [Value.int .i64 (j : Int)] rfl rfl ?d1 ?d2 ?d3 ?d4 ?d5 ?_)
          case d1 => exact int_new1 _ _ _ _ rfl
          case d2 => exact int_one _
          case d3 => unfold maxLen; omega
          case d4 => omega
          case d5 => simp; omega
          intro v2 w3 hown3 hgrow3 _
          have hrq : (wo.drewN (q + 1)).ownsRow w.heap.size 5 1 (.slice (some ⟨g, 0, none⟩) 256 cap) 256 (byteCells R) := HROW.out
          have hra := hrq.alloc (.cells #[.int .i64 (j : Int)] 3)
          have hoq := (show (wo.drewN (q + 1)).ownsRow w.heap.size 3 1 _ k _ from HOUT.out).alloc (.cells #[.int .i64 (j : Int)] 3)
          have hrk : w3.ownsRow w.heap.size 5 1 (.slice (some ⟨g, 0, none⟩) 256 cap) 256 (byteCells R) := World.ownsRow.kept hra hgrow3 (own_apart hra hoq (by decide))
          have hbq : Below w.heap.size w (wo.drewN (q + 1)) := below_drewN HB.out _
          have hb3 : Below w.heap.size w w3 := (hbq.alloc (by have := hbq.size; omega) (.cells #[.int .i64 (j : Int)] 3)).grown hgrow3 (by simp; omega) (fun k hk => (HOUT.out.lt k hk).1)
          clear hrq hoq hbq
          rw [intCells_snoc, HMV.out] at hown3
          have HO3 := Lib.hid hown3; have HRK := Lib.hid hrk; have HB3 := Lib.hid hb3
          clear hown3 hgrow3 hra hrk hb3
          go_wp2_with fail
          refine (rMoved w.heap.size _ j R w3 HRK.out hix).mono ?_
          rintro e w4 ⟨v4, rfl, ho4, hb4⟩
          have hs3 := HB3.out.size
          rw [← HNEXT.out] at ho4
          have HO4 := Lib.hid (own_base ho4 hs3)
          have HO5 := Lib.hid (Keeps.ownsRow (S := fun _ => False) (Keeps.of_below hb4) HO3.out (fun _ _ h => h))
          have HB4 := Lib.hid (HB3.out.trans (hb4.mono hs3))
          clear ho4 hb4
          go_wp2_with fail
          go_roundw
          case rel => exact ⟨k + 1, by omega, by go_num, HO4.out, HO5.out, HB4.out⟩
          case measure => simp [intOf]; omega
    · have HV := Lib.hid (own_isL hout (by simp [moveL_length]; omega))
      have hk2 : s.data.toList.take k = s.data.toList := List.take_of_length_le (by omega)
      rw [hk2] at HV
      clear hk2 hll hrow hout
      go_wp2
      go_ret
      exact ⟨_, rfl, HV.out, hb⟩

end Go.Proofs.Ytedmnlfbmmlcbaa.Mtf
