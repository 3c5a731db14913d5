/- Layer 47: the contract of Back. -/
import Derived.Test.YtmpmioffngonjaaMh
namespace Go.Proofs.Ytmpmioffngonjaa
open Go.ChangeShapes Go.WideShapes Go.ChangeAt Go.RowKit
set_option linter.unusedVariables false
set_option maxRecDepth 100000
open MtfMath
theorem infoB5 : (Try.prog.info? 5).map (fun i => (i.zero, i.size, i.bytes)) = some (some (.int .u8 0), 1, 1) := by kernel_rfl
def okB (l : List Int) : Bool := l.all fun x => decide (0 ≤ x) && decide (x ≤ 255)
theorem okB_cons (x : Int) (l : List Int) : okB (x :: l) = ((decide (0 ≤ x) && decide (x ≤ 255)) && okB l) := by simp [okB]
theorem okB_snoc (l : List Int) (x : Int) (h : okB l = true) (h0 : 0 ≤ x) (h1 : x ≤ 255) : okB (l ++ [x]) = true := by
  unfold okB at *
  rw [List.all_append, h]
  simp [h0, h1]
def toN (l : List Int) : List Nat := l.map Int.toNat
def backS (l : List Int) : ByteArray := if okB l then ⟨(backL all (toN l)).toArray⟩ else ⟨#[]⟩
def backE (l : List Int) : Int := if okB l then 0 else 2
theorem toN_lt (l : List Int) (h : okB l = true) : ∀ k ∈ toN l, k < 256 := by
  intro k hk
  unfold toN at hk
  obtain ⟨x, hx, rfl⟩ := List.mem_map.1 hk
  have := List.all_eq_true.1 h x hx
  simp at this
  omega
theorem toN_take (l : List Int) (k : Nat) : toN (l.take k) = (toN l).take k := by unfold toN; rw [List.map_take]
def outB (l : List Int) (k : Nat) : List UInt8 := backL all (toN (l.take k)) ++ List.replicate (l.length - k) 0
theorem outB_len (l : List Int) (k : Nat) (hk : k ≤ l.length) : (outB l k).length = l.length := by
  unfold outB; simp [backL_length, toN]; omega
theorem toN_succ (l : List Int) (k : Nat) (hk : k < l.length) : toN (l.take (k + 1)) = toN (l.take k) ++ [(l.getD k 0).toNat] := by
  rw [take_getD l k hk]; unfold toN; simp
theorem outB_set (l : List Int) (k : Nat) (hk : k < l.length) : (outB l k).set k ((rowL all (toN (l.take k))).getD (l.getD k 0).toNat 0) = outB l (k + 1) := by
  unfold outB
  rw [toN_succ l k hk, backL_snoc, show l.length - k = (l.length - (k + 1)) + 1 by omega, List.replicate_succ]
  have hL : (backL all (toN (l.take k))).length = k := by simp [backL_length, toN]; omega
  rw [List.set_append_right _ _ (by omega), hL, Nat.sub_self, List.set_cons_zero]
  simp
theorem bcells_set (l : List UInt8) (k : Nat) (b : UInt8) : (byteCells l).set k (.int .u8 (b.toNat : Int)) = byteCells (l.set k b) := by unfold byteCells; rw [List.map_set]
theorem made_bytes (n : Nat) : (madeCells #[Value.int .u8 0] n).toList = byteCells (List.replicate n 0) := by
  rw [made_rep]; unfold byteCells; rw [List.map_replicate]; rfl
set_option maxHeartbeats 3200000 in
theorem mBack (a : Option Addr) (c : Nat) (l : List Int) (w : World) (h : IsInts w a l) (hl : l.length ≤ 3000) : Calls Try.prog 49 #[.slice a l.length c] w fun e w' => e = .returned (.tuple #[.string (backS l), .int .i64 (backE l)]) ∧ Below w.heap.size w w' := by
  obtain ⟨i0, hi, hz0, hz1, hz2⟩ := info_get infoB5
  have HI := Lib.hid h
  clear h
  go_enter Try.func49, Try.ntmps49
  go_wp2_with fail
  refine (mNew _).mono ?_; rintro e w1 ⟨rfl, hr, hb1, hsz⟩
  have HR := Lib.hid hr
  clear hr
  go_wp2_with (refine wpList_make_full _ rfl (.tmp 10) (.tmp 10) 82 rfl w.heap.size 5 i0 (.int .u8 0) 1 Try.underlying82 hi hz0 hz1 .i64 .i64 _ _ l.length rfl rfl rfl rfl ?b2 ?b3 ?b4 ?_)
  case b2 => rw [hz2]; omega
  case b3 => unfold maxLen; omega
  case b4 => omega
  intro w2 hown hgrow
  rw [made_bytes] at hown
  obtain ⟨g2, hg2⟩ : ∃ g2, w.heap.size + 1 = g2 := ⟨_, rfl⟩
  have hb2 : Below w.heap.size w w2 := hb1.grown hgrow (by omega) (fun k hk => by cases hk)
  have hr2 : RowAt w2 w.heap.size all := grown_heap hgrow HR.out (by simp)
  rw [hg2] at hown ⊢
  have hne : g2 ≠ w.heap.size := by omega
  have hgb : w.heap.size ≤ g2 := by omega
  have H0 := Lib.hid (show w2.ownsRow w.heap.size 5 1 (.slice (some ⟨g2, 0, none⟩) l.length l.length) l.length (byteCells (outB l 0)) by
    have e : outB l 0 = List.replicate l.length 0 := by simp [outB, backL, toN]
    rw [e]; exact hown)
  have HR2 := Lib.hid hr2
  clear hown hr2 hgrow hb1 hg2 hsz HR
  go_wp2
  go_loopw [14] (fun i wr => ∃ k : Nat, k ≤ l.length ∧ i = .int .i64 k ∧ RowAt wr w.heap.size (rowL all (toN (l.take k))) ∧ wr.ownsRow w.heap.size 5 1 (.slice (some ⟨g2, 0, none⟩) l.length l.length) l.length (byteCells (outB l k)) ∧ Below w.heap.size w wr ∧ Hid (okB (l.take k) = true) ∧ Hid (okB (l.drop k) = okB l)) (fun i _ => l.length - (intOf i).toNat)
  case atStart => exact ⟨0, Nat.zero_le _, rfl, HR2.out, H0.out, hb2, Lib.hid rfl, Lib.hid rfl⟩
  case round =>
    clear hb2
    obtain ⟨k, hk, rfl, hr, hown, hb, hok, hdr⟩ := hrel
    by_cases hlt : k < l.length
    · obtain ⟨x, rfl, hxb, hx⟩ := HI.out.at k hlt
      have cx := hx k hlt
      have cx : wr.cell? (x.add k) = some (.int .i64 (l.getD k 0)) := by rw [hb.cell (by rw [add_block]; exact hxb)]; exact cx
      have hd := hdr.out
      rw [drop_getD l k hlt, okB_cons] at hd
      have hset := outB_set l k hlt
      have htk := take_getD l k hlt
      have hsu := toN_succ l k hlt
      obtain ⟨X, hX⟩ : ∃ X, l.getD k 0 = X := ⟨_, rfl⟩
      rw [hX] at cx hd hset htk hsu
      clear hX hx hdr
      by_cases hbad : X < 0 ∨ 255 < X
      · have HF := Lib.hid (show okB l = false by
          rw [← hd]
          have : (decide (0 ≤ X) && decide (X ≤ 255)) = false := by rw [Bool.and_eq_false_iff, decide_eq_false_iff_not, decide_eq_false_iff_not]; omega
          rw [this, Bool.false_and])
        have HS := Lib.hid (show backS l = ⟨#[]⟩ by unfold backS; rw [HF.out]; rfl)
        have HE := Lib.hid (show backE l = 2 by unfold backE; rw [HF.out]; rfl)
        clear hd hset htk hsu hr hown
        rcases hbad with hbad | hbad
        · go_wp2
          go_ret2
          exact ⟨by rw [HS.out, HE.out]; first | rfl | exact ⟨rfl, rfl⟩ | simp, hb⟩
        · have hb0 : ¬ X < 0 := by omega
          go_wp2
          go_ret2
          exact ⟨by rw [HS.out, HE.out]; first | rfl | exact ⟨rfl, rfl⟩ | simp, hb⟩
      · obtain ⟨K, rfl⟩ : ∃ K : Nat, X = K := ⟨X.toNat, by omega⟩
        have hK : K < 256 := by omega
        have HD := Lib.hid (show okB (l.drop (k + 1)) = okB l by
          have e : (decide (0 ≤ (K : Int)) && decide ((K : Int) ≤ 255)) = true := by simp; omega
          rwa [e, Bool.true_and] at hd)
        have HK2 := Lib.hid (show okB (l.take (k + 1)) = true by rw [htk]; exact okB_snoc _ _ hok.out (by omega) (by omega))
        have hf := fine_rowL all (toN (l.take k)) fine_all (toN_lt _ hok.out)
        obtain ⟨R, hR⟩ : ∃ R, rowL all (toN (l.take k)) = R := ⟨_, rfl⟩
        have HNEXT := Lib.hid (show rowL all (toN (l.take (k + 1))) = moved R K by rw [hsu, rowL_snoc, hR]; rfl)
        rw [hR] at hf hr hset
        have hset : (outB l k).set k (R.getD K 0) = outB l (k + 1) := hset
        obtain ⟨b, hbB⟩ : ∃ b, R.getD K 0 = b := ⟨_, rfl⟩
        have CF := Lib.hid (mFront wr w.heap.size K R hr hf.len hK)
        rw [hbB] at hset CF
        have HSET := Lib.hid hset
        have HO := Lib.hid hown
        have HB := Lib.hid hb
        clear hd hset htk hsu hr hown hb hR hbB hf hbad hok
        go_wp2_with fail
        refine CF.out.mono ?_
        rintro e w3 ⟨rfl, hr3, hk3, hz3⟩
        have ho3 := Keeps.ownsRow hk3 HO.out (fun q hq e => by simp [Value.ownBlock] at hq; omega)
        have hb3 : Below w.heap.size w w3 := HB.out.trans (hk3.below (fun q hq => ⟨Nat.lt_of_lt_of_le hq HB.out.size, fun e => by omega⟩))
        obtain ⟨z, co⟩ : ∃ z, w3.cell? ⟨g2, k, none⟩ = some (.int .u8 z) := by
          have h9 := outB_len l k (by omega)
          have h8 : (byteCells (outB l k))[k]? = some (.int .u8 (((outB l k).getD k 0).toNat : Int)) := by simp [byteCells, List.getD_eq_getElem?_getD, h9, hlt]
          exact ⟨_, (ho3.cellAt k (by omega)).trans h8⟩
        have fo := ho3.frozenAt k
        rw [← HNEXT.out] at hr3
        have HR3 := Lib.hid hr3; have HO3 := Lib.hid ho3; have HB3 := Lib.hid hb3
        clear hr3 hk3 hz3 ho3 hb3
        go_wp2_with fail
        go_roundw
        case rel => exact ⟨k + 1, by omega, by go_num, by
          show (w3.setCell ⟨g2, k, none⟩ _).heap[w.heap.size]? = _
          rw [Below.heap_setCell _ _ _ _ (by simpa using hne.symm)]
          exact HR3.out, by
          have h := (HO3.out.stored k (.int .u8 (b.toNat : Int))).1
          rw [bcells_set, HSET.out] at h
          exact h, HB3.out.setCell (by simpa using hgb) _, HK2, HD⟩
        case measure => simp [intOf]; omega
    · have hk2 : k = l.length := by omega
      have hT : okB l = true := by have h := hok.out; rwa [List.take_of_length_le (by omega)] at h
      have he : outB l k = backL all (toN l) := by
        unfold outB
        rw [hk2, List.take_of_length_le (by omega)]
        simp
      rw [he] at hown
      have hcv := conv_own (P := Try.prog) (src := 82) (dst := 9) Try.underlying82 Try.underlying5 Try.underlying9 hown
      have HS := Lib.hid (show backS l = ⟨(backL all (toN l)).toArray⟩ by unfold backS; rw [hT]; rfl)
      have HE := Lib.hid (show backE l = 0 by unfold backE; rw [hT]; rfl)
      clear he hown hk2 hT hok hdr hr
      go_wp2
      go_ret2
      exact ⟨by rw [HS.out, HE.out]; first | rfl | exact ⟨rfl, rfl⟩ | simp, hb⟩
end Go.Proofs.Ytmpmioffngonjaa
