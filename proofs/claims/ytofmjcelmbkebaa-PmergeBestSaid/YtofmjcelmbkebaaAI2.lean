/- Layer 7: coins in memory; lighter; pairs. -/
import Derived.Test.YtofmjcelmbkebaaAI1
import Derived.Test.YtofmjcelmbkebaaJ3
import Derived.Test.YtofmjcelmbkebaaAG3
namespace Go.Proofs.Ytofmjcelmbkebaa
open Go.ChangeShapes Go.WideShapes Go.ChangeAt Go.RowKit
set_option linter.unusedVariables false
set_option linter.unusedSimpArgs false
set_option maxRecDepth 100000
open Pm
def fC (c : Coin) : List Value := [.int .i64 c.1, .bool c.2]
theorem flatC : Flat fC 2 := fun x => ⟨rfl, by intro u hu; simp [fC] at hu; rcases hu with rfl | rfl <;> rfl⟩
abbrev OwnC (B : Nat) (w : World) (v : Value) (l : List Coin) : Prop := OwnS fC 49 2 B w v l
theorem info_coin : (Try.prog.info? 49).map (fun i => (i.zero, i.size, i.bytes)) = some (some (.agg #[.int .i64 0, .bool false]), 2, 16) := by kernel_rfl
def coAt (w : World) (g o : Nat) (c : Coin) : Prop := w.cell? ⟨g, o, none⟩ = some (.int .i64 c.1) ∧ w.cell? ⟨g, o + 1, none⟩ = some (.bool c.2)
theorem coAt.kept {w w' : World} {g o B : Nat} {c : Coin} (h : coAt w g o c) (hg : g < B) (hb : Below B w w') : coAt w' g o c := ⟨(hb.cell (p := ⟨g, o, none⟩) hg).trans h.1, (hb.cell (p := ⟨g, o + 1, none⟩) hg).trans h.2⟩
/-- A slice of coins that lies below a block. -/
def IsC (B : Nat) (w : World) (v : Value) (l : List Coin) : Prop := ∃ g o cap, v = .slice (some ⟨g, o, none⟩) l.length cap ∧ g < B ∧ ∀ i c, l[i]? = some c → coAt w g (o + i * 2) c
theorem IsC.kept {B : Nat} {w w' : World} {v : Value} {l : List Coin} (h : IsC B w v l) (hb : Below B w w') : IsC B w' v l := by
  obtain ⟨g, o, cap, rfl, hg, hc⟩ := h
  exact ⟨g, o, cap, rfl, hg, fun i c hi => (hc i c hi).kept hg hb⟩
theorem IsC.mono {B B' : Nat} {w : World} {v : Value} {l : List Coin} (h : IsC B w v l) (hb : B ≤ B') : IsC B' w v l := by
  obtain ⟨g, o, cap, rfl, hg, hc⟩ := h
  exact ⟨g, o, cap, rfl, by omega, hc⟩
theorem own_isC {B B' g n cap : Nat} {w : World} {l : List Coin} (h : OwnC B w (.slice (some ⟨g, 0, none⟩) n cap) l) (hB : w.heap.size ≤ B') : IsC B' w (.slice (some ⟨g, 0, none⟩) n cap) l := by
  have hn : n = l.length := by
    rcases h.2 with ⟨h0, -⟩ | ⟨g', cap', cur', h0, -⟩ <;> simp at h0; omega
  refine ⟨g, 0, cap, by rw [hn], Nat.lt_of_lt_of_le (h.lt _ rfl).2 hB, fun i c hi => ?_⟩
  have h1 := h.cell flatC i 0 c hi (by decide)
  have h2 := h.cell flatC i 1 c hi (by decide)
  rw [Nat.zero_add]
  exact ⟨by simpa [fC] using h1, by simpa [fC] using h2⟩
set_option maxHeartbeats 800000 in
theorem pLight (a b : Coin) (w : World) : Calls Try.prog 39 #[.agg #[.int .i64 a.1, .bool a.2], .agg #[.int .i64 b.1, .bool b.2]] w fun e w' => e = .returned (.bool (decide (a.1 < b.1))) ∧ Below w.heap.size w w' := by
  obtain ⟨x, hx⟩ : ∃ x, a.1 = x := ⟨_, rfl⟩
  obtain ⟨y, hy⟩ : ∃ y, b.1 = y := ⟨_, rfl⟩
  rw [hx, hy]
  have hb := ((Below.refl w.heap.size w).alloc (Nat.le_refl _) (.cells #[.int .i64 x, .bool a.2] 49)).alloc (by simp) (.cells #[.int .i64 y, .bool b.2] 49)
  have HB := Lib.hid hb
  clear hb
  go_enter Try.func39, Try.ntmps39
  go_wp2_with fail
  go_ret
  exact ⟨rfl, HB.out⟩
theorem take_set {α : Type} (P : List α) (z : α) (i m : Nat) (hm : P.length = m) (hi : i < m) : (P.take i ++ List.replicate (m - i) z).set i P[i] = P.take (i + 1) ++ List.replicate (m - (i + 1)) z := by
  have h1 : (P.take i).length = i := List.length_take_of_le (by omega)
  rw [List.set_append_right _ _ (by omega), h1, Nat.sub_self, show m - i = (m - (i + 1)) + 1 by omega, List.replicate_succ, List.set_cons_zero, List.take_succ_eq_append_getElem (by omega), List.append_assoc]; rfl
theorem pairs_get : ∀ (l : List Coin) (i : Nat) (x y : Coin), l[2 * i]? = some x → l[2 * i + 1]? = some y → (pairsF l)[i]? = some (x.1 + y.1, false)
  | [], i, x, y, h, _ => by simp at h
  | [a], 0, x, y, _, h => by simp at h
  | [a], i + 1, x, y, h, _ => by simp at h
  | a :: b :: r, 0, x, y, h, k => by
    simp at h k
    subst h; subst k; rfl
  | a :: b :: r, i + 1, x, y, h, k => by
    simp only [pairsF, List.getElem?_cons_succ]
    exact pairs_get r i x y (by rw [show 2 * (i + 1) = 2 * i + 1 + 1 by omega] at h; simpa using h) (by rw [show 2 * (i + 1) + 1 = 2 * i + 1 + 1 + 1 by omega] at k; simpa using k)
set_option maxHeartbeats 1600000 in
theorem pPairs (g o cap n : Nat) (l : List Coin) (w : World) (hl : l.length = n) (hc : ∀ i c, l[i]? = some c → coAt w g (o + i * 2) c) (hg : g < w.heap.size) (hn : n ≤ 10000) (hb : ∀ c ∈ l, 0 ≤ c.1 ∧ c.1 ≤ 1152921504606846976) :
    Calls Try.prog 38 #[.slice (some ⟨g, o, none⟩) n cap] w fun e w' => ∃ gu, e = .returned (.slice (some ⟨gu, 0, none⟩) (n / 2) (n / 2)) ∧ OwnC w.heap.size w' (.slice (some ⟨gu, 0, none⟩) (n / 2) (n / 2)) (pairsF l) ∧ Below w.heap.size w w' := by
  obtain ⟨m, hm⟩ : ∃ m, n / 2 = m := ⟨_, rfl⟩
  have hPL := pairsF_len l
  rw [hl, hm] at hPL
  have em : (n : Int) / 2 = m := by omega
  have em2 : (n : Int).tdiv 2 = m := by rw [Int.tdiv_eq_ediv_of_nonneg (by omega)]; omega
  rw [hm]
  have HC := Lib.hid hc; have HL := Lib.hid hl; have HBD := Lib.hid hb
  have HPL := Lib.hid hPL
  have hmn : m + m ≤ n := by omega
  clear hc hl hb hPL hm
  go_enter Try.func38, Try.ntmps38
  go_wp2_with (refine make_full (f := fC) info_coin (by decide) Try.underlying47 (0, false) rfl flatC (by decide) rfl _ _ rfl .i64 .i64 (m : Int) (m : Int) m rfl rfl rfl rfl (by omega) ?_; intro w2 ho2 hb2 hs2)
  have HO := Lib.hid (show OwnC w.heap.size w2 (.slice (some ⟨w.heap.size, 0, none⟩) m m) ((pairsF l).take 0 ++ List.replicate (m - 0) (0, false)) from ho2)
  have HB := Lib.hid hb2
  obtain ⟨gu, hgu⟩ : ∃ gu, w.heap.size = gu := ⟨_, rfl⟩
  rw [hgu] at HO HB hg ⊢
  clear ho2 hb2 hs2 em em2
  have HGU := Lib.hid hgu
  clear hgu
  go_loopw [11] (fun iv wr => ∃ i : Nat, i ≤ m ∧ iv = .int .i64 i ∧ Hid (OwnC gu wr (.slice (some ⟨gu, 0, none⟩) m m) ((pairsF l).take i ++ List.replicate (m - i) (0, false))) ∧ Hid (Below gu w wr)) (fun iv _ => m - (intOf iv).toNat)
  case atStart => exact ⟨0, Nat.zero_le _, rfl, HO, HB⟩
  case round =>
    clear HO HB
    obtain ⟨i, hi, rfl, HO, HB⟩ := hrel
    by_cases hlt : i < m
    · have hii : (i : Int) < m := by omega
      have h1 : 2 * i < l.length := by rw [HL.out]; omega
      have h2 : 2 * i + 1 < l.length := by rw [HL.out]; omega
      obtain ⟨x, hx⟩ : ∃ x, l[2 * i] = x := ⟨_, rfl⟩
      obtain ⟨y, hy⟩ : ∃ y, l[2 * i + 1] = y := ⟨_, rfl⟩
      have hx' : l[2 * i]? = some x := by rw [List.getElem?_eq_getElem h1, hx]
      have hy' : l[2 * i + 1]? = some y := by rw [List.getElem?_eq_getElem h2, hy]
      have bx := HBD.out x (by rw [← hx]; exact List.getElem_mem h1)
      have by' := HBD.out y (by rw [← hy]; exact List.getElem_mem h2)
      have cx := (HC.out _ x hx').kept hg HB.out
      have cy := (HC.out _ y hy').kept hg HB.out
      have hP : (pairsF l)[i]'(by rw [HPL.out]; exact hlt) = (x.1 + y.1, false) := by
        have := pairs_get l i x y hx' hy'
        rw [List.getElem?_eq_getElem (by rw [HPL.out]; exact hlt)] at this
        exact Option.some.inj this
      obtain ⟨X, hX⟩ : ∃ X, x.1 = X := ⟨_, rfl⟩
      obtain ⟨Y, hY⟩ : ∃ Y, y.1 = Y := ⟨_, rfl⟩
      obtain ⟨cx, -⟩ := cx
      obtain ⟨cy, -⟩ := cy
      rw [hX] at cx bx hP
      rw [hY] at cy by' hP
      have hset := take_set (pairsF l) (0, false) i m HPL.out hlt
      rw [hP] at hset
      have hz0 : ((pairsF l).take i ++ List.replicate (m - i) ((0, false) : Coin))[i]? = some (0, false) := by
        rw [List.getElem?_append_right (by rw [List.length_take]; omega), List.length_take_of_le (by rw [HPL.out]; omega), Nat.sub_self, List.getElem?_replicate, if_pos (by omega)]
      have c3 : wr.cell? ⟨gu, i * 2, none⟩ = some (.int .i64 0) := by have := HO.out.cell flatC i 0 _ hz0 (by decide); simpa [fC] using this
      have c4 : wr.cell? ⟨gu, i * 2 + 1, none⟩ = some (.bool false) := by have := HO.out.cell flatC i 1 _ hz0 (by decide); simpa [fC] using this
      have f1 := HO.out.free (i * 2)
      have f2 := HO.out.free (i * 2 + 1)
      have lg := (HO.out.lt _ rfl).2
      have hO2 := OwnS.set2 flatC HO.out i (X + Y, false) (.int .i64 (X + Y)) (.bool false) rfl (by rw [List.length_append, List.length_take_of_le (by rw [HPL.out]; omega), List.length_replicate]; omega)
      rw [hset] at hO2
      have HO2 := Lib.hid hO2
      have HB2 := Lib.hid ((HB.out.setCell (p := ⟨gu, i * 2, none⟩) (Nat.le_refl _) (.int .i64 (X + Y))).setCell (p := ⟨gu, i * 2 + 1, none⟩) (Nat.le_refl _) (.bool false))
      obtain ⟨j0, hj0⟩ : ∃ j0, 2 * i = j0 := ⟨_, rfl⟩
      obtain ⟨j1, hj1⟩ : ∃ j1, j0 + 1 = j1 := ⟨_, rfl⟩
      rw [hj0] at cx
      rw [hj0, hj1] at cy
      have e0 : 2 * (i : Int) = j0 := by omega
      have e1 : (j0 : Int) + 1 = j1 := by omega
      have w0 : IntKind.i64.wrap (j0 : Int) = j0 := IntWalk.i64_in _ (by omega)
      have w1 : IntKind.i64.wrap (j1 : Int) = j1 := IntWalk.i64_in _ (by omega)
      have w3 : IntKind.i64.wrap (X + Y) = X + Y := IntWalk.i64_in _ (by omega)
      have hn0 : (j0 : Int) < n := by omega
      have hn1 : (j1 : Int) < n := by omega
      have cl0 := cell_block cx
      obtain ⟨bx1, bx2⟩ := bx
      obtain ⟨by1, by2⟩ := by'
      clear hx hy hx' hy' hP hX hY hset hO2 HO HB hj0 hj1 h1 h2 hz0
      go_wp2_with fail
      go_region
      go_wp2_with fail
      go_roundw
      case rel => exact ⟨i + 1, by omega, by go_num, HO2, Lib.hid HB2.out.drew⟩
      case measure => simp [intOf] <;> omega
    · obtain rfl : i = m := by omega
      have hO2 := HO.out
      rw [Nat.sub_self, List.replicate_zero, List.append_nil, List.take_of_length_le (by rw [HPL.out]; exact Nat.le_refl _)] at hO2
      have HO2 := Lib.hid hO2
      clear hO2 HO
      go_wp2_with fail
      go_ret
      exact ⟨gu, rfl, by rw [HGU.out]; exact HO2.out, by rw [HGU.out]; exact HB.out⟩
end Go.Proofs.Ytofmjcelmbkebaa
