/- Layer 47: contracts of the document's row and moved. -/
import Derived.Test.YtmpmioffngonjaaMi
import Derived.Outline
namespace Go.Proofs.Ytmpmioffngonjaa
open Go.ChangeShapes Go.WideShapes Go.ChangeAt Go.RowKit
set_option linter.unusedVariables false
set_option maxRecDepth 100000
open MtfMath
theorem own_len8 {w : World} {base n : Nat} {e : TypeId} {v : Value} {l : List UInt8} (h : w.ownsRow base e 1 v n (byteCells l)) : n = l.length := by have := h.1; rw [byteCells_len] at this; omega
theorem byte_new1 (w : World) (x : Int) (g : Nat) (hg : g = w.heap.size) : ∀ j u, [Value.int .u8 x][j]? = some u → (w.alloc (.cells #[.int .u8 x] 5)).cell? ((⟨g, 0, none⟩ : Addr).add j) = some u := cell_new1 w _ 5 g hg
theorem byte_one (x : Int) : ∀ u ∈ [Value.int .u8 x], u.oneCell' = true := by intro u hu; simp at hu; subst hu; rfl
def upto (k : Nat) : List UInt8 := (List.range k).map UInt8.ofNat
theorem upto_snoc (k : Nat) : upto k ++ [UInt8.ofNat k] = upto (k + 1) := by unfold upto; rw [List.range_succ, List.map_append]; rfl
theorem upto_len (k : Nat) : (upto k).length = k := by simp [upto]
set_option maxHeartbeats 800000 in
theorem rRow (w : World) : Calls Try.prog 71 #[] w fun e w' => ∃ v', e = .returned v' ∧ w'.ownsRow w.heap.size 5 1 v' 256 (byteCells all) ∧ Below w.heap.size w w' := by
  obtain ⟨i0, hi, hz0, hz1, hz2⟩ := info_get infoB5
  go_enter Try.func71, Try.ntmps71
  go_wp2
  go_loopw [1, 2] (fun u i wr => ∃ k : Nat, k ≤ 256 ∧ i = .int .i64 k ∧ wr.ownsRow w.heap.size 5 1 u k (byteCells (upto k)) ∧ Below w.heap.size w wr) (fun _ i _ => 256 - (intOf i).toNat)
  case atStart => exact ⟨0, by omega, rfl, World.ownsRow_nil _ _ _ _, Below.refl _ _⟩
  case round =>
    obtain ⟨k, hk, rfl, hown, hb⟩ := hrel
    have hbs := hb.size
    by_cases hlt : k < 256
    · have HS := Lib.hid (upto_snoc k)
      go_wp2_with (at_builtin; refine wpList_append_own _ rfl _ _ 82 rfl w.heap.size 5 i0 (.int .u8 0) 1 1 Try.underlying82 hi hz0 hz1 hz2 rfl (by decide) _ _ _ rfl (hown.alloc _) ⟨wr.heap.size, 0, none⟩ 1 1 [Value.int .u8 (k : Int)] rfl rfl ?d1 ?d2 ?d3 ?d4 ?d5 ?_)
      case d1 => exact byte_new1 _ _ _ rfl
      case d2 => exact byte_one _
      case d3 => unfold maxLen; omega
      case d4 => omega
      case d5 => simp; omega
      intro v1 w1 hown1 hgrow1 _
      have hb1 : Below w.heap.size w w1 := (hb.alloc (by omega) _).grown hgrow1 (by simp; omega) (fun k hk => (hown.lt k hk).1)
      clear hgrow1 hown hb
      have e : ((k : Nat) : Int) = ((UInt8.ofNat k).toNat : Int) := by simp; omega
      rw [e, ← byteCells_snoc, HS.out] at hown1
      have HO := Lib.hid hown1
      clear hown1 e
      go_wp2
      go_roundw
      case rel => exact ⟨k + 1, by omega, by go_num, HO.out, hb1⟩
      case measure => simp [intOf]; omega
    · obtain rfl : k = 256 := by omega
      have HO := Lib.hid hown
      clear hown
      go_wp2
      go_ret
      exact ⟨_, rfl, HO.out, hb⟩
theorem own_one (w : World) (x : Int) (base : Nat) (h : base ≤ w.heap.size) : (w.alloc (.cells #[.int .u8 x] 5)).ownsRow base 5 1 (.slice (some ⟨w.heap.size, 0, none⟩) 1 1) 1 [.int .u8 x] :=
  ⟨rfl, .inr ⟨w.heap.size, 1, #[.int .u8 x], rfl, h, heap_alloc_new w _, by omega, by unfold maxLen; omega, rfl, rfl⟩⟩
set_option maxHeartbeats 1600000 in
theorem rMoved (b0 : Nat) (v : Value) (K : Nat) (r : List UInt8) (w : World) (hown : w.ownsRow b0 5 1 v 256 (byteCells r)) (hK : K < 256) : Calls Try.prog 72 #[v, .int .i64 K] w fun e w' => ∃ v', e = .returned v' ∧ w'.ownsRow w.heap.size 5 1 v' 256 (byteCells (moved r K)) ∧ Below w.heap.size w w' := by
  obtain ⟨i0, hi, hz0, hz1, hz2⟩ := info_get infoB5
  have hrl := own_len8 hown
  rcases hown.2 with ⟨-, h0⟩ | ⟨g, cap, cur, rfl, -, hgg, hcap, hcm, -, -⟩
  · omega
  have hgl := block_lt hgg
  have hcell : ∀ j, j < 256 → w.cell? ⟨g, j, none⟩ = some (.int .u8 ((r.getD j 0).toNat : Int)) := fun j hj => by
    rw [hown.cellAt j (by omega)]
    simp [byteCells, List.getD_eq_getElem?_getD, show j < r.length by omega]
  have cK := hcell K hK
  have HC := Lib.hid hcell
  obtain ⟨B, hB⟩ : ∃ B, r.getD K 0 = B := ⟨_, rfl⟩
  rw [hB] at cK
  have HB := Lib.hid hB
  have HRL := Lib.hid hrl
  unfold maxLen at hcm
  clear hown hgg hcell hB hrl
  have H1 := Lib.hid (own_one w (B.toNat : Int) w.heap.size (Nat.le_refl _))
  have HN1 : Hid (∀ j u, (byteCells (r.take K))[j]? = some u → (w.alloc (.cells #[.int .u8 (B.toNat : Int)] 5)).cell? ((⟨g, 0, none⟩ : Addr).add j) = some u) := by
    intro j u hj
    have hlt : j < K := by have := (List.getElem?_eq_some_iff.1 hj).1; rw [byteCells_len, List.length_take] at this; omega
    have e2 : (⟨g, 0, none⟩ : Addr).add j = ⟨g, j, none⟩ := by unfold Addr.add; split <;> simp_all
    rw [e2, ((Below.refl w.heap.size w).alloc (Nat.le_refl _) _).cell (p := ⟨g, j, none⟩) hgl, HC.out j (by omega), ← hj]
    have := HRL.out
    simp [byteCells, hlt, List.getD_eq_getElem?_getD, show j < r.length by omega]
  have HL1 : Hid ((byteCells (r.take K)).length = K * 1) := by show _ = _; have := HRL.out; rw [byteCells_len, List.length_take]; omega
  have h1 : (0 : Int) ≤ (K : Int) + 1 := by omega
  by_cases hKc : K + 1 = cap
  all_goals
    go_enter Try.func72, Try.ntmps72
    go_wp2_with (at_builtin; refine wpList_append_own _ rfl (.tmp 11) (.tmp 14) 82 rfl w.heap.size 5 i0 (.int .u8 0) 1 1 Try.underlying82 hi hz0 hz1 hz2 rfl (by decide) _ _ _ rfl H1.out ⟨g, 0, none⟩ K cap (byteCells (r.take K)) rfl HL1.out HN1.out (bc_one _) ?d3 ?d4 ?d5 ?_)
    (case d3 => unfold maxLen; omega)
    (case d4 => omega)
    (case d5 => simp)
    intro v1 w1 hown1 hgrow1 _
    have hb1 : Below w.heap.size w w1 := ((Below.refl _ _).alloc (Nat.le_refl _) _).grown hgrow1 (by simp) (fun k hk => by simp [Value.ownBlock] at hk; omega)
    have HO1 := Lib.hid hown1
    have HB1 := Lib.hid hb1
    clear hown1 hgrow1 hb1
    have HRL' := HRL.out
  · have hK2 : K = 255 := by omega
    have hd : r.drop (K + 1) = [] := List.drop_eq_nil_of_le (by omega)
    have HM := Lib.hid (show [B] ++ r.take K = moved r K by unfold moved; rw [HB.out, hd, List.append_nil]; rfl)
    have HK2 := Lib.hid hK2
    clear HRL' hd hK2
    have hz : ∀ j u, ([] : List Value)[j]? = some u → w1.cell? ((⟨g, 0, none⟩ : Addr).add j) = some u := fun j u h => by simp at h
    have HZ := Lib.hid hz
    clear hz
    have hbs := HB1.out.size
    go_wp2_with (at_builtin; refine wpList_append_own _ rfl (.tmp 16) (.tmp 20) 82 rfl w.heap.size 5 i0 (.int .u8 0) 1 1 Try.underlying82 hi hz0 hz1 hz2 rfl (by decide) _ _ _ rfl HO1.out ⟨g, 0, none⟩ 0 0 [] rfl rfl HZ.out (by simp) ?d3 ?d4 ?d5 ?_)
    case d3 => unfold maxLen; omega
    case d4 => omega
    case d5 => omega
    intro v2 w2 hown2 hgrow2 _
    have hb2 : Below w.heap.size w w2 := HB1.out.grown hgrow2 (by omega) (fun k hk => (HO1.out.lt k hk).1)
    have HO2 : Hid (w2.ownsRow w.heap.size 5 1 v2 256 (byteCells (moved r K))) := by
      show w2.ownsRow _ _ _ _ _ _
      have e : (1 + K) = 256 := by have := HK2.out; omega
      rw [e] at hown2
      rw [← HM.out]
      exact hown2
    clear hown2 hgrow2
    go_wp2
    go_ret
    exact ⟨_, rfl, HO2.out, hb2⟩
  · have HM := Lib.hid (show [B] ++ r.take K ++ r.drop (K + 1) = moved r K by unfold moved; rw [HB.out]; rfl)
    have HN2 : Hid (∀ j u, (byteCells (r.drop (K + 1)))[j]? = some u → w1.cell? ((⟨g, K + 1, none⟩ : Addr).add j) = some u) := by
      intro j u hj
      have hlt : j < 256 - (K + 1) := by have := (List.getElem?_eq_some_iff.1 hj).1; rw [byteCells_len, List.length_drop] at this; omega
      have e2 : (⟨g, K + 1, none⟩ : Addr).add j = ⟨g, K + 1 + j, none⟩ := by unfold Addr.add; split <;> simp_all
      rw [e2, HB1.out.cell (p := ⟨g, K + 1 + j, none⟩) hgl, HC.out (K + 1 + j) (by omega), ← hj]
      simp [byteCells, List.getD_eq_getElem?_getD, show K + 1 + j < r.length by omega]
    have HL2 : Hid ((byteCells (r.drop (K + 1))).length = 256 - (K + 1)) := by show _ = _; rw [byteCells_len, List.length_drop]; omega
    clear HRL'
    have hbs := HB1.out.size
    go_wp2_with (at_builtin; refine wpList_append_own _ rfl (.tmp 16) (.tmp 20) 82 rfl w.heap.size 5 i0 (.int .u8 0) 1 1 Try.underlying82 hi hz0 hz1 hz2 rfl (by decide) _ _ _ rfl HO1.out ⟨g, K + 1, none⟩ _ _ (byteCells (r.drop (K + 1))) rfl ?d1 HN2.out (bc_one _) ?d3 ?d4 ?d5 ?_)
    case d1 => rw [HL2.out]; omega
    case d3 => unfold maxLen; omega
    case d4 => omega
    case d5 => omega
    intro v2 w2 hown2 hgrow2 _
    have hb2 : Below w.heap.size w w2 := HB1.out.grown hgrow2 (by omega) (fun k hk => (HO1.out.lt k hk).1)
    have HO2 : Hid (w2.ownsRow w.heap.size 5 1 v2 256 (byteCells (moved r K))) := by
      show w2.ownsRow _ _ _ _ _ _
      have h9 := hown2.1
      rw [← HM.out, ← bc_append, ← bc_append]
      have e := hown2
      first
        | exact e
        | (rw [show 1 + K + (256 - (K + 1)) = 256 by omega] at e; exact e)
        | (rw [show 1 + K + (255 - K) = 256 by omega] at e; exact e)
    clear hown2 hgrow2
    go_wp2
    go_ret
    exact ⟨_, rfl, HO2.out, hb2⟩
end Go.Proofs.Ytmpmioffngonjaa
