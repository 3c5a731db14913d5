/- Layers 1 and 2: the document's Bytes, walked. -/
import Derived.Test.YtnpbjnhjgoafpaaBv
namespace Go.Proofs.Ytnpbjnhjgoafpaa
open Go.ChangeShapes Go.WideShapes Go.ChangeAt Go.RowKit
set_option linter.unusedVariables false
set_option maxRecDepth 100000
open Bits
def IsBoo (w : World) (a : Option Addr) (l : List Bool) : Prop := l = [] ∨ ∃ x, a = some x ∧ ∀ i, i < l.length → w.cell? (x.add i) = some (.bool (l.getD i false))
theorem cell_blk {w : World} {a : Addr} {v : Value} (h : w.cell? a = some v) : a.block < w.heap.size := by
  apply Classical.byContradiction
  intro hn
  have : w.heap[a.block]? = none := Array.getElem?_eq_none (by omega)
  simp [World.cell?, this] at h
theorem add_blk (x : Addr) (i : Nat) : (x.add i).block = x.block := by unfold Addr.add; split <;> rfl
theorem IsBoo.at {w : World} {a : Option Addr} {l : List Bool} (h : IsBoo w a l) (k : Nat) (hk : k < l.length) : ∃ x : Addr, a = some x ∧ x.block < w.heap.size ∧ w.cell? (x.add k) = some (.bool (l.getD k false)) := by
  rcases h with rfl | ⟨x, rfl, hc⟩
  · simp at hk
  · have := cell_blk (hc k hk)
    rw [add_blk] at this
    exact ⟨x, rfl, this, hc k hk⟩
theorem own_boo {w : World} {base n : Nat} {e : TypeId} {v : Value} {l : List Bool} (h : w.ownsRow base e 1 v n (boolCells l)) : ∃ a cap, v = .slice a l.length cap ∧ IsBoo w a l := by
  have hn := own_lenB h
  subst hn
  rcases h.2 with ⟨rfl, h0⟩ | ⟨g, cap, cur, rfl, -⟩
  · exact ⟨none, 0, by rw [h0], .inl (List.length_eq_zero_iff.1 h0)⟩
  · refine ⟨_, cap, rfl, .inr ⟨_, rfl, fun i hi => h.cells rfl i _ ?_⟩⟩
    unfold boolCells; simp [hi]
theorem take_snocB (l : List Bool) (k : Nat) (h : k < l.length) : l.take (k + 1) = l.take k ++ [l.getD k false] := by
  rw [List.take_succ_eq_append_getElem h]; simp [List.getD_eq_getElem?_getD, h]
theorem own_len8 {w : World} {base n : Nat} {e : TypeId} {v : Value} {l : List UInt8} (h : w.ownsRow base e 1 v n (cells8 l)) : n = l.length := by have := h.1; rw [cells8_len] at this; omega
theorem cell8 {w : World} {base : Nat} {e : TypeId} {g n cap : Nat} {l : List UInt8} (h : w.ownsRow base e 1 (.slice (some ⟨g, 0, none⟩) n cap) n (cells8 l)) (k : Nat) (hk : k < l.length) (W : Nat) (hW : (l.getD k 0).toNat = W) : w.cell? ⟨g, k, none⟩ = some (.int .u8 (W : Int)) := by
  have hn := own_len8 h
  rw [h.cellAt k (by omega)]
  unfold cells8
  subst hW
  simp [List.getD_eq_getElem?_getD, hk]
theorem or_bit2 (W J : Nat) (hJ : J < 8) (hW : W < 2 ^ J) (z : Int) (hz : z = 2 ^ J % 256) : bits .or .u8 (W : Int) z = (((UInt8.ofNat (W + 2 ^ J)).toNat : Nat) : Int) := by
  subst hz
  rw [← or_bit W J hJ hW]
  have hp : 2 ^ J ≤ 2 ^ 7 := Nat.pow_le_pow_right (by decide) (by omega)
  have e1 : (2 : Int) ^ J = ((2 ^ J : Nat) : Int) := by simp
  have e2 : IntKind.u8.wrap ((2 ^ J : Nat) : Int) = ((2 ^ J : Nat) : Int) := by first | exact IntWalk.u8_in _ (by omega) | (unfold IntKind.wrap; simp; omega)
  rw [e1, e2]
  congr 1 <;> omega
set_option maxHeartbeats 3200000 in
theorem rBytes (a : Option Addr) (c : Nat) (l : List Bool) (w : World) (h : IsBoo w a l) (hl : l.length ≤ 100000) :
    Calls Try.prog 23 #[.slice a l.length c] w fun e w' => e = .returned (.string ⟨(pack l).toArray⟩) ∧ Below w.heap.size w w' := by
  obtain ⟨i0, hi, hz0, hz1, hz2⟩ := info_get infoB5
  have HI := Lib.hid h
  clear h
  go_enter Try.func23, Try.ntmps23
  go_wp2
  go_loopw [3, 4] (fun u i wr => ∃ k : Nat, k ≤ l.length ∧ i = .int .i64 k ∧ wr.ownsRow w.heap.size 5 1 u (pack (l.take k)).length (cells8 (pack (l.take k))) ∧ Below w.heap.size w wr) (fun _ i _ => l.length - (intOf i).toNat)
  case atStart => exact ⟨0, Nat.zero_le _, rfl, World.ownsRow_nil _ _ _ _, Below.refl _ _⟩
  case round =>
    obtain ⟨k, hk, rfl, hown, hb⟩ := hrel
    have hbs := hb.size
    by_cases hlt : k < l.length
    · obtain ⟨x, rfl, hxb, cx0⟩ := HI.out.at k hlt
      have htl : (l.take k).length = k := by rw [List.length_take]; omega
      obtain ⟨W, hWlt, hOl, hW, hpk⟩ := opened_next (l.take k) (l.getD k false)
      rw [htl] at hWlt hOl hW hpk
      have hpl := pack_length (l.take k)
      rw [htl] at hpl
      have hop : opened (l.take k) = if k % 8 = 0 then pack (l.take k) ++ [0] else pack (l.take k) := by unfold opened; rw [htl]
      obtain ⟨B, hBB⟩ : ∃ B, l.getD k false = B := ⟨_, rfl⟩
      rw [hBB] at cx0 hpk
      have HT := Lib.hid (take_snocB l k hlt)
      rw [hBB] at HT
      obtain ⟨O, hO⟩ : ∃ O, opened (l.take k) = O := ⟨_, rfl⟩
      rw [hO] at hOl hW hpk hop
      obtain ⟨J, hJ⟩ : ∃ J, k % 8 = J := ⟨_, rfl⟩
      rw [hJ] at hWlt hpk hop
      have HPK := Lib.hid (show pack (l.take (k + 1)) = if B then O.set (k / 8) (UInt8.ofNat (W + 2 ^ J)) else O by rw [HT.out]; exact hpk)
      have hJ8 : J < 8 := by omega
      have hJi : (k : Int) % 8 = (J : Int) := by omega
      clear hpk hBB hO htl
      by_cases hJ0 : J = 0
      · subst hJ0
        rw [if_pos rfl] at hop
        have HOP := Lib.hid hop
        have HPL := Lib.hid hpl
        have hpb : (pack (l.take k)).length ≤ 100000 := by omega
        clear hop hpl hJ
        go_wp2_with (at_builtin; refine wpList_append_at _ rfl (.tmp 14) (.tmp 15) 54 rfl w.heap.size 5 i0 (.int .u8 0) 1 Try.underlying54 hi hz0 hz1 hz2 rfl _ _ _ rfl (hown.alloc _) ⟨wr.heap.size, 0, none⟩ 1 1 [Value.int .u8 0] rfl rfl ?d1 ?d2 ?d3 ?d4 ?d5 ?d6 ?_)
        case d1 => exact u8_new1 _ _ _ _ rfl
        case d2 => exact u8_one _
        case d3 => unfold maxLen; omega
        case d4 => omega
        case d5 => simp; omega
        case d6 => decide
        intro g cap w1 hown1 hgrow hk1
        have hb1 : Below w.heap.size w w1 := (hb.alloc (by omega) _).grown hgrow (by simp; omega) (fun k hk => (hown.lt k hk).1)
        have e8 := cells8_snoc (pack (l.take k)) 0
        rw [← HOP.out] at e8
        have hown1 : w1.ownsRow w.heap.size 5 1 (.slice (some ⟨g, 0, none⟩) ((pack (l.take k)).length + 1) cap) ((pack (l.take k)).length + 1) (cells8 O) := by rw [← e8]; exact hown1
        obtain ⟨nn, hnn0⟩ : ∃ nn, (pack (l.take k)).length + 1 = nn := ⟨_, rfl⟩
        rw [hnn0] at hown1 ⊢
        have hnn2 : nn = k / 8 + 1 := by have := own_len8 hown1; omega
        clear hgrow hk1 hown hb e8 hnn0
        have hnn := own_len8 hown1
        have cx : w1.cell? (x.add k) = some (.bool B) := by rw [hb1.cell (by rw [add_blk]; exact hxb)]; exact cx0
        rcases hB : B with _ | _
        · rw [hB] at cx
          have HO := Lib.hid hown1
          have HP := Lib.hid (show pack (l.take (k + 1)) = O from HPK.out.trans (by rw [hB]; rfl))
          clear hown1 cx0
          go_wp2_with fail
          go_roundw
          case rel => exact ⟨k + 1, by omega, by go_num, by rw [HP.out]; have e := own_len8 HO.out; rw [← e]; exact HO.out, hb1⟩
          case measure => simp [intOf]; omega
        · rw [hB] at cx
          have cb := cell8 hown1 (k / 8) (by rw [hOl]; omega) W hW
          have fb := hown1.frozenAt (k / 8)
          have HO := Lib.hid hown1
          have HP := Lib.hid (show pack (l.take (k + 1)) = O.set (k / 8) (UInt8.ofNat (W + 2 ^ 0)) from HPK.out.trans (by rw [hB]; rfl))
          have hor : bits .or .u8 (W : Int) (1) = (((UInt8.ofNat (W + 2 ^ 0)).toNat : Nat) : Int) := or_bit2 W 0 hJ8 hWlt _ (by first | rfl | (simp; done))
          obtain ⟨Z, hZ⟩ : ∃ Z, UInt8.ofNat (W + 2 ^ 0) = Z := ⟨_, rfl⟩
          rw [hZ] at HP hor
          clear hown1 cx0 hZ hWlt hW
          go_wp2_with fail
          go_roundw
          case rel => exact ⟨k + 1, by omega, by go_num, by
            have e := (HO.out.stored (k / 8) (.int .u8 (Z.toNat : Int))).1
            rw [cells8_set, ← HP.out] at e
            have e2 := own_len8 e
            rw [← e2]; exact e, hb1.setCell (by have := (HO.out.lt _ rfl).1; simpa using this) _⟩
          case measure => simp [intOf]; omega
      · rw [if_neg hJ0] at hop
        have hne : ((J : Int) == 0) = false := by rw [beq_eq_false_iff_ne]; omega
        obtain ⟨nn, hnn0⟩ : ∃ nn, (pack (l.take k)).length = nn := ⟨_, rfl⟩
        rw [← hop] at hown hnn0
        rw [hnn0] at hown
        rcases hown.2 with ⟨-, h0⟩ | ⟨g, cap, cur, rfl, -⟩
        · exfalso; omega
        have hown1 := hown
        have hb1 := hb
        have hnn2 : nn = k / 8 + 1 := by have := own_len8 hown1; omega
        clear hown hb hop hpl hJ hnn0
        have hnn := own_len8 hown1
        have cx : wr.cell? (x.add k) = some (.bool B) := by rw [hb1.cell (by rw [add_blk]; exact hxb)]; exact cx0
        rcases hB : B with _ | _
        · rw [hB] at cx
          have HO := Lib.hid hown1
          have HP := Lib.hid (show pack (l.take (k + 1)) = O from HPK.out.trans (by rw [hB]; rfl))
          clear hown1 cx0
          go_wp2_with fail
          go_roundw
          case rel => exact ⟨k + 1, by omega, by go_num, by rw [HP.out]; have e := own_len8 HO.out; rw [← e]; exact HO.out, hb1⟩
          case measure => simp [intOf]; omega
        · rw [hB] at cx
          have cb := cell8 hown1 (k / 8) (by rw [hOl]; omega) W hW
          have fb := hown1.frozenAt (k / 8)
          have HO := Lib.hid hown1
          have HP := Lib.hid (show pack (l.take (k + 1)) = O.set (k / 8) (UInt8.ofNat (W + 2 ^ J)) from HPK.out.trans (by rw [hB]; rfl))
          have hor : bits .or .u8 (W : Int) (2 ^ J % 256) = (((UInt8.ofNat (W + 2 ^ J)).toNat : Nat) : Int) := or_bit2 W J hJ8 hWlt _ (by first | rfl | (simp; done))
          obtain ⟨Z, hZ⟩ : ∃ Z, UInt8.ofNat (W + 2 ^ J) = Z := ⟨_, rfl⟩
          rw [hZ] at HP hor
          clear hown1 cx0 hZ hWlt hW
          go_wp2_with fail
          go_roundw
          case rel => exact ⟨k + 1, by omega, by go_num, by
            have e := (HO.out.stored (k / 8) (.int .u8 (Z.toNat : Int))).1
            rw [cells8_set, ← HP.out] at e
            have e2 := own_len8 e
            rw [← e2]; exact e, hb1.setCell (by have := (HO.out.lt _ rfl).1; simpa using this) _⟩
          case measure => simp [intOf]; omega
    · have hkl : l.take k = l := List.take_of_length_le (by omega)
      rw [hkl] at hown
      have hcv := conv_own8 (P := Try.prog) (src := 54) (dst := 9) Try.underlying54 Try.underlying5 Try.underlying9 hown
      clear hkl
      go_wp2
      go_ret
      exact ⟨rfl, hb⟩
end Go.Proofs.Ytnpbjnhjgoafpaa
