/- Layer 47: contracts of the document's Move and Back. -/
import Derived.Test.YtmpmioffngonjaaMj
namespace Go.Proofs.Ytmpmioffngonjaa
open Go.ChangeShapes Go.WideShapes Go.ChangeAt Go.RowKit
set_option linter.unusedVariables false
set_option maxRecDepth 100000
open MtfMath
theorem own_base {w : World} {b b' n size : Nat} {e : TypeId} {v : Value} {xs : List Value} (h : w.ownsRow b e size v n xs) (hb : b' ≤ b) : w.ownsRow b' e size v n xs := by
  refine ⟨h.1, ?_⟩
  rcases h.2 with h | ⟨g, cap, cur, h1, h2, h3⟩
  · exact .inl h
  · exact .inr ⟨g, cap, cur, h1, Nat.le_trans hb h2, h3⟩
theorem own_apart {w : World} {b b' n n' size size' : Nat} {e e' : TypeId} {u v : Value} {xs ys : List Value} (h : w.ownsRow b e size u n xs) (k : w.ownsRow b' e' size' v n' ys) (hne : e ≠ e') : u.ownBlock = none ∨ u.ownBlock ≠ v.ownBlock := by
  rcases h.2 with ⟨rfl, _⟩ | ⟨g, cap, cur, rfl, _, hg, _⟩
  · left; rfl
  · right
    exact fun e2 => own_ne k hg (fun e3 => hne e3.symm) (by rw [← e2]; rfl)
theorem get_ne (R : List UInt8) (hR : Fine R) (j I : Nat) (b : UInt8) (hI : R.idxOf b = I) (hj : j < 256) (hne : j ≠ I) : R.getD j 0 ≠ b := by
  intro e
  have := idx_get R j hj hR
  rw [e, hI] at this
  exact hne this.symm
set_option maxHeartbeats 3200000 in
theorem rMove (s : ByteArray) (hs : s.size ≤ 3000) (w : World) : Calls Try.prog 53 #[.string s] w fun e w' => ∃ v', e = .returned v' ∧ IsL w' v' ((moveL all s.data.toList).map (fun n : Nat => (n : Int))) ∧ Below w.heap.size w w' := by
  obtain ⟨i0, hi, hz0, hz1, hz2⟩ := info_get info_int
  go_enter Try.func53, Try.ntmps53
  go_wp2_with fail
  refine (rRow _).mono ?_; rintro e w1 ⟨v1, rfl, ho1, hb1⟩
  have HO1 := Lib.hid ho1
  clear ho1
  go_wp2
  go_loopw [3, 4, 5] (fun u v i wr => ∃ k : Nat, k ≤ s.size ∧ i = .int .i64 k ∧ wr.ownsRow w.heap.size 5 1 u 256 (byteCells (rowS all (s.data.toList.take k))) ∧ wr.ownsRow w.heap.size 3 1 v k (intCells ((moveL all (s.data.toList.take k)).map (fun n : Nat => (n : Int)))) ∧ Below w.heap.size w wr) (fun _ _ i _ => s.size - (intOf i).toNat)
  case atStart => exact ⟨0, Nat.zero_le _, rfl, HO1.out, World.ownsRow_nil _ _ _ _, hb1⟩
  case round =>
    clear hb1
    obtain ⟨k, hk, rfl, hrow, hout, hb⟩ := hrel
    have hll : s.data.toList.length = s.size := by simp
    have hbs := hb.size
    by_cases hlt : k < s.size
    · have hf := fine_rowS all (s.data.toList.take k) fine_all
      have et : s.data.toList.take (k + 1) = s.data.toList.take k ++ [s[k]] := by rw [List.take_succ_eq_append_getElem (by omega)]; rfl
      have hmv := moveL_snoc all (s.data.toList.take k) s[k]
      rw [← et] at hmv
      obtain ⟨R, hR⟩ : ∃ R, rowS all (s.data.toList.take k) = R := ⟨_, rfl⟩
      have hnext : rowS all (s.data.toList.take (k + 1)) = moved R (R.idxOf s[k]) := by rw [et, rowS_snoc, hR]
      rw [hR] at hf hrow hmv
      have hix := idx_lt R s[k] hf
      have hgi := get_idx R s[k] hf
      obtain ⟨I, hI⟩ : ∃ I, R.idxOf s[k] = I := ⟨_, rfl⟩
      rw [hI] at hix hnext hmv hgi
      have HF := Lib.hid hf
      have HI := Lib.hid hI
      have HGI := Lib.hid hgi
      have HMV := Lib.hid (show (moveL all (s.data.toList.take k)).map (fun n : Nat => (n : Int)) ++ [(I : Int)] = (moveL all (s.data.toList.take (k + 1))).map (fun n : Nat => (n : Int)) by rw [hmv]; simp)
      have HNEXT := Lib.hid hnext
      have hrl := own_len8 hrow
      rcases hrow.2 with ⟨-, h0⟩ | ⟨g, cap, cur, rfl, -, hgg, -, -, -, -⟩
      · omega
      have hcell : ∀ j, j < 256 → wr.cell? ⟨g, j, none⟩ = some (.int .u8 ((R.getD j 0).toNat : Int)) := fun j hj => by
        rw [hrow.cellAt j (by omega)]
        simp [byteCells, List.getD_eq_getElem?_getD, show j < R.length by omega]
      have HC := Lib.hid hcell
      have HROW := Lib.hid hrow
      have HOUT := Lib.hid hout
      have HB := Lib.hid hb
      clear hf hI hgi hmv hnext hrl hgg hcell hrow hout hb et hR hll
      go_wp2
      obtain ⟨wo, rfl⟩ : ∃ wo : World, wo = wr := ⟨_, rfl⟩
      go_loopw [6] (fun i wr => ∃ j : Nat, j ≤ I ∧ i = .int .i64 j ∧ ∃ q, wr = wo.drewN q) (fun i _ => I - (intOf i).toNat)
      case atStart => exact ⟨0, Nat.zero_le _, rfl, 0, rfl⟩
      case round =>
        obtain ⟨j, hj, rfl, q, rfl⟩ := hrel
        have cj := HC.out j (by omega)
        by_cases hjI : j < I
        · have hne := get_ne R HF.out j I s[k] HI.out (by omega) (by omega)
          obtain ⟨X, hX⟩ : ∃ X, (R.getD j 0).toNat = X := ⟨_, rfl⟩
          have e1 : ((X : Int) == (s[k].toNat : Int)) = false := by
            rw [beq_eq_false_iff_ne]
            intro e
            exact hne (UInt8.toNat_inj.1 (by omega))
          have e2 : ((X : Int) != (s[k].toNat : Int)) = true := by rw [bne, e1]; rfl
          rw [hX] at cj
          clear hne hX
          go_wp2
          go_region
          go_wp2
          go_roundw
          case rel => exact ⟨j + 1, by omega, by go_num, _, rfl⟩
          case measure => simp [intOf]; omega
        · obtain rfl : j = I := by omega
          rw [HGI.out] at cj
          have e2 : ((s[k].toNat : Int) != (s[k].toNat : Int)) = false := by simp
          have e1 : ((s[k].toNat : Int) == (s[k].toNat : Int)) = true := by simp
          go_wp2
          go_region
          go_wp2_with (at_builtin; refine wpList_append_own _ rfl (.tmp 24) (.tmp 26) 22 rfl w.heap.size 3 i0 (.int .i64 0) 1 8 Try.underlying22 hi hz0 hz1 hz2 rfl (by decide) _ _ _ rfl (HOUT.out.alloc _) ⟨wo.heap.size, 0, none⟩ 1 1 [Value.int .i64 (j : Int)] rfl rfl ?d1 ?d2 ?d3 ?d4 ?d5 ?_)
          case d1 => exact int_new1 _ _ _ _ rfl
          case d2 => exact int_one _
          case d3 => unfold maxLen; omega
          case d4 => omega
          case d5 => simp; omega
          intro v2 w3 hown3 hgrow3 _
          have hrq : (wo.drewN (q + 1)).ownsRow w.heap.size 5 1 (.slice (some ⟨g, 0, none⟩) 256 cap) 256 (byteCells R) := HROW.out
          have hra := hrq.alloc (.cells #[.int .i64 (j : Int)] 3)
          have hoq := (show (wo.drewN (q + 1)).ownsRow w.heap.size 3 1 _ k _ from HOUT.out).alloc (.cells #[.int .i64 (j : Int)] 3)
          have hrk : w3.ownsRow w.heap.size 5 1 (.slice (some ⟨g, 0, none⟩) 256 cap) 256 (byteCells R) := World.ownsRow.kept hra hgrow3 (own_apart hra hoq (by decide))
          have hbq : Below w.heap.size w (wo.drewN (q + 1)) := below_drewN HB.out _
          have hb3 : Below w.heap.size w w3 := (hbq.alloc (by have := hbq.size; omega) (.cells #[.int .i64 (j : Int)] 3)).grown hgrow3 (by simp; omega) (fun k hk => (HOUT.out.lt k hk).1)
          clear hrq hoq hbq
          rw [intCells_snoc, HMV.out] at hown3
          have HO3 := Lib.hid hown3; have HRK := Lib.hid hrk; have HB3 := Lib.hid hb3
          clear hown3 hgrow3 hra hrk hb3
          go_wp2_with fail
          refine (rMoved w.heap.size _ j R w3 HRK.out hix).mono ?_
          rintro e w4 ⟨v4, rfl, ho4, hb4⟩
          have hs3 := HB3.out.size
          rw [← HNEXT.out] at ho4
          have HO4 := Lib.hid (own_base ho4 hs3)
          have HO5 := Lib.hid (Keeps.ownsRow (S := fun _ => False) (Keeps.of_below hb4) HO3.out (fun _ _ h => h))
          have HB4 := Lib.hid (HB3.out.trans (hb4.mono hs3))
          clear ho4 hb4
          go_wp2_with fail
          go_roundw
          case rel => exact ⟨k + 1, by omega, by go_num, HO4.out, HO5.out, HB4.out⟩
          case measure => simp [intOf]; omega
    · have HV := Lib.hid (own_isL hout (by simp [moveL_length]; omega))
      have hk2 : s.data.toList.take k = s.data.toList := List.take_of_length_le (by omega)
      rw [hk2] at HV
      clear hk2 hll hrow hout
      go_wp2
      go_ret
      exact ⟨_, rfl, HV.out, hb⟩
end Go.Proofs.Ytmpmioffngonjaa
