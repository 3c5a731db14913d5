/- Layer 47: the contract of the document's Back. -/
import Derived.Test.YtmpmioffngonjaaMk
namespace Go.Proofs.Ytmpmioffngonjaa
open Go.ChangeShapes Go.WideShapes Go.ChangeAt Go.RowKit
set_option linter.unusedVariables false
set_option maxRecDepth 100000
open MtfMath
theorem backL_toN_succ (l : List Int) (k : Nat) (hk : k < l.length) : backL all (toN (l.take k)) ++ [(rowL all (toN (l.take k))).getD (l.getD k 0).toNat 0] = backL all (toN (l.take (k + 1))) := by
  rw [toN_succ l k hk, backL_snoc]
set_option maxHeartbeats 3200000 in
theorem rBack47 (a : Option Addr) (c : Nat) (l : List Int) (w : World) (h : IsInts w a l) (hl : l.length ≤ 3000) : Calls Try.prog 50 #[.slice a l.length c] w fun e w' => e = .returned (.tuple #[.string (backS l), .int .i64 (backE l)]) ∧ Below w.heap.size w w' := by
  obtain ⟨i0, hi, hz0, hz1, hz2⟩ := info_get infoB5
  have HI := Lib.hid h
  clear h
  go_enter Try.func50, Try.ntmps50
  go_wp2_with fail
  refine (rRow _).mono ?_; rintro e w1 ⟨v1, rfl, ho1, hb1⟩
  have HO1 := Lib.hid ho1
  clear ho1
  go_wp2
  go_loopw [4, 5, 6] (fun u v i wr => ∃ k : Nat, k ≤ l.length ∧ i = .int .i64 k ∧ wr.ownsRow w.heap.size 5 1 u 256 (byteCells (rowL all (toN (l.take k)))) ∧ wr.ownsRow w.heap.size 5 1 v k (byteCells (backL all (toN (l.take k)))) ∧ Hid (∀ q, v.ownBlock = some q → u.ownBlock ≠ some q) ∧ Below w.heap.size w wr ∧ Hid (okB (l.take k) = true) ∧ Hid (okB (l.drop k) = okB l)) (fun _ _ i _ => l.length - (intOf i).toNat)
  case atStart => exact ⟨0, Nat.zero_le _, rfl, HO1.out, World.ownsRow_nil _ _ _ _, Lib.hid (fun q h => by simp [Value.ownBlock] at h), hb1, Lib.hid rfl, Lib.hid rfl⟩
  case round =>
    clear hb1
    obtain ⟨k, hk, rfl, hrow, hout, hap, hb, hok, hdr⟩ := hrel
    have hbs := hb.size
    by_cases hlt : k < l.length
    · obtain ⟨x, rfl, hxb, hx⟩ := HI.out.at k hlt
      have cx0 := hx k hlt
      have cx : wr.cell? (x.add k) = some (.int .i64 (l.getD k 0)) := by rw [hb.cell (by rw [add_block]; exact hxb)]; exact cx0
      have hd := hdr.out
      rw [drop_getD l k hlt, okB_cons] at hd
      have hset := backL_toN_succ l k hlt
      have htk := take_getD l k hlt
      have hsu := toN_succ l k hlt
      obtain ⟨X, hX⟩ : ∃ X, l.getD k 0 = X := ⟨_, rfl⟩
      rw [hX] at cx cx0 hd hset htk hsu
      clear hX hx hdr
      by_cases hbad : X < 0 ∨ 255 < X
      · have HF := Lib.hid (show okB l = false by
          rw [← hd]
          have : (decide (0 ≤ X) && decide (X ≤ 255)) = false := by rw [Bool.and_eq_false_iff, decide_eq_false_iff_not, decide_eq_false_iff_not]; omega
          rw [this, Bool.false_and])
        have HS := Lib.hid (show backS l = ⟨#[]⟩ by unfold backS; rw [HF.out]; rfl)
        have HE := Lib.hid (show backE l = 2 by unfold backE; rw [HF.out]; rfl)
        clear hd hset htk hsu hrow hout cx0
        rcases hbad with hbad | hbad
        · go_wp2
          go_ret2
          exact ⟨by rw [HS.out, HE.out]; first | rfl | exact ⟨rfl, rfl⟩ | simp, hb⟩
        · have hb0 : ¬ X < 0 := by omega
          go_wp2
          go_ret2
          exact ⟨by rw [HS.out, HE.out]; first | rfl | exact ⟨rfl, rfl⟩ | simp, hb⟩
      · obtain ⟨K, rfl⟩ : ∃ K : Nat, X = K := ⟨X.toNat, by omega⟩
        have hK : K < 256 := by omega
        have HD := Lib.hid (show okB (l.drop (k + 1)) = okB l by
          have e : (decide (0 ≤ (K : Int)) && decide ((K : Int) ≤ 255)) = true := by simp; omega
          rwa [e, Bool.true_and] at hd)
        have HK2 := Lib.hid (show okB (l.take (k + 1)) = true by rw [htk]; exact okB_snoc _ _ hok.out (by omega) (by omega))
        obtain ⟨R, hR⟩ : ∃ R, rowL all (toN (l.take k)) = R := ⟨_, rfl⟩
        have HNEXT := Lib.hid (show rowL all (toN (l.take (k + 1))) = moved R K by rw [hsu, rowL_snoc, hR]; rfl)
        rw [hR] at hrow hset
        have hset : backL all (toN (l.take k)) ++ [R.getD K 0] = backL all (toN (l.take (k + 1))) := hset
        have hrl := own_len8 hrow
        rcases hrow.2 with ⟨-, h0⟩ | ⟨g, cap, cur, rfl, -, hgg, -, -, -, -⟩
        · omega
        have cr : wr.cell? ⟨g, K, none⟩ = some (.int .u8 ((R.getD K 0).toNat : Int)) := by
          rw [hrow.cellAt K (by omega)]
          simp [byteCells, List.getD_eq_getElem?_getD, show K < R.length by omega]
        obtain ⟨b, hbB⟩ : ∃ b, R.getD K 0 = b := ⟨_, rfl⟩
        rw [hbB] at hset cr
        have HSET := Lib.hid hset
        have HROW := Lib.hid hrow
        have HOUT := Lib.hid hout
        have HB := Lib.hid hb
        have HX := Lib.hid cx0
        have hgl := block_lt hgg
        clear hd hset htk hsu hrow hout hb hR hbB hbad hok hrl hgg cx0
        go_wp2_with (at_builtin; refine wpList_append_at _ rfl (.tmp 26) (.tmp 34) 82 rfl w.heap.size 5 i0 (.int .u8 0) 1 Try.underlying82 hi hz0 hz1 hz2 rfl _ k _ rfl (HOUT.out.alloc _) ⟨wr.heap.size, 0, none⟩ 1 1 [Value.int .u8 (b.toNat : Int)] rfl rfl ?d1 ?d2 ?d3 ?d4 ?d5 ?d6 ?_)
        case d1 => exact byte_new1 _ _ _ rfl
        case d2 => exact byte_one _
        case d3 => unfold maxLen; omega
        case d4 => omega
        case d5 => simp; omega
        case d6 => decide
        intro kb cap3 w3 hown3 hgrow3 hk3
        have hgk : g ≠ kb := by
          rcases hk3 with h | h
          · have := hap.out kb h
            simpa [Value.ownBlock] using this
          · omega
        have hrk : w3.ownsRow w.heap.size 5 1 (.slice (some ⟨g, 0, none⟩) 256 cap) 256 (byteCells R) := by
          refine World.ownsRow.kept (HROW.out.alloc (.cells #[.int .u8 (b.toNat : Int)] 5)) hgrow3 (.inr ?_)
          intro e
          have := hap.out g e.symm
          exact this (by simp [Value.ownBlock])
        have hb3 : Below w.heap.size w w3 := (HB.out.alloc (by omega) (.cells #[.int .u8 (b.toNat : Int)] 5)).grown hgrow3 (by simp; omega) (fun k hk => (HOUT.out.lt k hk).1)
        rw [← byteCells_snoc, HSET.out] at hown3
        have cx : w3.cell? (x.add k) = some (.int .i64 (K : Int)) := by rw [hb3.cell (by rw [add_block]; exact hxb)]; exact HX.out
        have hkb := (hown3.lt kb (by simp [Value.ownBlock])).2
        have HO3 := Lib.hid hown3; have HRK := Lib.hid hrk; have HB3 := Lib.hid hb3
        clear hown3 hgrow3 hrk hb3 hk3
        go_wp2_with fail
        refine (rMoved w.heap.size _ K R w3 HRK.out hK).mono ?_
        rintro e w4 ⟨v4, rfl, ho4, hb4⟩
        have hs3 := HB3.out.size
        have hap4 : Hid (∀ q, (Value.slice (some ⟨kb, 0, none⟩) (k + 1) cap3).ownBlock = some q → v4.ownBlock ≠ some q) := by
          intro q hq e
          have := (ho4.lt q e).1
          simp [Value.ownBlock] at hq
          omega
        rw [← HNEXT.out] at ho4
        have HO4 := Lib.hid (own_base ho4 hs3)
        have HO5 := Lib.hid (Keeps.ownsRow (S := fun _ => False) (Keeps.of_below hb4) HO3.out (fun _ _ h => h))
        have HB4 := Lib.hid (HB3.out.trans (hb4.mono hs3))
        clear ho4 hb4
        go_wp2_with fail
        go_roundw
        case rel => exact ⟨k + 1, by omega, by go_num, HO4.out, HO5.out, hap4, HB4.out, HK2, HD⟩
        case measure => simp [intOf]; omega
    · have hk2 : k = l.length := by omega
      have htl : l.take k = l := List.take_of_length_le (by omega)
      have hT : okB l = true := by have h := hok.out; rwa [htl] at h
      rw [htl] at hout
      have hcv := conv_own (P := Try.prog) (src := 82) (dst := 9) Try.underlying82 Try.underlying5 Try.underlying9 hout
      have HS := Lib.hid (show backS l = ⟨(backL all (toN l)).toArray⟩ by unfold backS; rw [hT]; rfl)
      have HE := Lib.hid (show backE l = 0 by unfold backE; rw [hT]; rfl)
      clear htl hout hk2 hT hok hdr hrow
      go_wp2
      go_ret2
      exact ⟨by rw [HS.out, HE.out]; first | rfl | exact ⟨rfl, rfl⟩ | simp, hb⟩
end Go.Proofs.Ytmpmioffngonjaa
