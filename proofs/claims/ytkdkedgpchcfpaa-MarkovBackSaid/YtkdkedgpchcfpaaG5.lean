/- Layer 45: Encode's closure. -/
import Derived.Test.YtkdkedgpchcfpaaG4
import Derived.Test.YtkdkedgpchcfpaaBv
import Derived.Defers
import Derived.Recover
namespace Go.Proofs.Ytkdkedgpchcfpaa
open Go.ChangeShapes Go.WideShapes Go.ChangeAt Go.RowKit Go.Deep
set_option linter.unusedVariables false
set_option maxRecDepth 100000
open Range

theorem info_u8g : (Try.prog.info? 5).map (fun i => (i.zero, i.size, i.bytes)) = some (some (.int .u8 0), 1, 1) := by kernel_rfl
/-- The boxes of an encoder: what was told, the span, the result. -/
def Enc (w : World) (B gO gN gR : Nat) (v : Value) (bs : List UInt8) (a b : Nat) (r : ByteArray) : Prop :=
  w.heap[gO]? = some (.cells #[v] 75 (0, 0)) ∧ w.heap[gN]? = some (.cells #[.int .u32 a, .int .u32 b] 78 (0, 0)) ∧ w.heap[gR]? = some (.cells #[.string r] 9 (0, 0)) ∧
    w.ownsRow B 5 1 v bs.length (cells8 bs) ∧ B ≤ w.heap.size
def encFeet (gO gN gR : Nat) (v : Value) : Nat → Prop := fun k => k = gO ∨ k = gN ∨ k = gR ∨ v.ownBlock = some k
theorem bound_own {w : World} {B n : Nat} {e : TypeId} {v : Value} {xs : List Value} (h : w.ownsRow B e 1 v n xs) : ∃ c, v = .slice none 0 0 ∧ n = 0 ∨ ∃ k, v = .slice (some ⟨k, 0, none⟩) n c ∧ n ≤ c ∧ c ≤ maxLen := by
  rcases h.2 with ⟨h1, h2⟩ | ⟨g, cap, cur, h1, -, -, h2, h3, -⟩
  · exact ⟨0, .inl ⟨h1, by omega⟩⟩
  · exact ⟨cap, .inr ⟨g, h1, h2, h3⟩⟩
theorem undrew {X w1 : World} {row : Option Nat} (h : X.drew.grownBy w1 row) : X.grownBy w1 row := ⟨h.os, h.tape, h.output, h.size, h.block⟩
/-- One byte more, in the newest world. -/
theorem Enc.put {w w1 : World} {B gO gN gR k cap : Nat} {v : Value} {bs : List UInt8} {a b : Nat} {r : ByteArray} {c : UInt8} {o : Obj} (h : Enc w B gO gN gR v bs a b r)
    (hown1 : w1.ownsRow B 5 1 (.slice (some ⟨k, 0, none⟩) (bs.length + 1) cap) (bs.length + 1) (cells8 bs ++ [.int .u8 c.toNat])) (hgrow : (w.alloc o).grownBy w1 v.ownBlock) :
    Enc (w1.setCell ⟨gO, 0, none⟩ (.slice (some ⟨k, 0, none⟩) (bs.length + 1) cap)) B gO gN gR (.slice (some ⟨k, 0, none⟩) (bs.length + 1) cap) (bs ++ [c]) a b r := by
  obtain ⟨h1, h2, h3, h4, h5⟩ := h
  have g1 := grown_heap hgrow (heap_old h1 o) (own_ne h4 h1 (by decide))
  have g2 := grown_heap hgrow (heap_old h2 o) (own_ne h4 h2 (by decide))
  have g3 := grown_heap hgrow (heap_old h3 o) (own_ne h4 h3 (by decide))
  have n12 : gN ≠ gO := by rintro rfl; rw [h1] at h2; injection h2 with h2; injection h2 with _ h2 _; exact absurd h2 (by decide)
  have n13 : gR ≠ gO := by rintro rfl; rw [h1] at h3; injection h3 with h3; injection h3 with _ h3 _; exact absurd h3 (by decide)
  have hne : (Value.slice (some ⟨k, 0, none⟩) (bs.length + 1) cap).ownBlock ≠ some gO := own_ne hown1 g1 (by decide)
  refine ⟨block_set g1 0 _, (Below.heap_setCell _ _ _ _ n12).trans g2, (Below.heap_setCell _ _ _ _ n13).trans g3, ?_, ?_⟩
  · have := ownsRow_setCell_other hown1 (a := ⟨gO, 0, none⟩) hne (.slice (some ⟨k, 0, none⟩) (bs.length + 1) cap)
    rw [List.length_append, ← cells8_snoc]
    exact this
  · have := hgrow.size; simp at this ⊢; omega
theorem Enc.facts {w : World} {B gO gN gR : Nat} {v : Value} {bs : List UInt8} {a b : Nat} {r : ByteArray} (h : Enc w B gO gN gR v bs a b r) :
    gO < w.heap.size ∧ gN < w.heap.size ∧ gR < w.heap.size ∧ w.cell? ⟨gO, 0, none⟩ = some v ∧ w.cell? ⟨gN, 0, none⟩ = some (.int .u32 a) ∧ w.cell? ⟨gN, 1, none⟩ = some (.int .u32 b) ∧ w.cell? ⟨gR, 0, none⟩ = some (.string r) ∧
    w.frozen? ⟨gO, 0, none⟩ = false ∧ w.frozen? ⟨gN, 0, none⟩ = false ∧ w.frozen? ⟨gN, 1, none⟩ = false ∧ w.frozen? ⟨gR, 0, none⟩ = false := by
  obtain ⟨h1, h2, h3, h4, h5⟩ := h
  exact ⟨block_lt h1, block_lt h2, block_lt h3, cell_lit h1 0 _ rfl, cell_lit h2 0 _ rfl, cell_lit h2 1 _ rfl, cell_lit h3 0 _ rfl, free_in h1 0, free_in h2 0, free_in h2 1, free_in h3 0⟩
def byteAt (a k : Nat) : UInt8 := UInt8.ofNat (a / 256 ^ (3 - k) % 256)
theorem four_take (a : Nat) (ha : a < 4294967296) (k : Nat) (hk : k < 4) : (four a).take k ++ [byteAt a k] = (four a).take (k + 1) := by
  unfold four byteAt
  match k, hk with
  | 0, _ => simp; rw [Nat.mod_eq_of_lt (by omega)]
  | 1, _ => simp
  | 2, _ => simp
  | 3, _ => simp
set_option maxHeartbeats 3200000 in
theorem gTail (w : World) (B gO gN gR : Nat) (v : Value) (bs : List UInt8) (a b : Nat) (r : ByteArray) (h : Enc w B gO gN gR v bs a b r) (ha : a < 4294967296) (hl : bs.length ≤ 1000000) (u : FrameMode) :
    CallsD Try.prog 43 #[.pointer (some ⟨gO, 0, none⟩), .pointer (some ⟨gN, 0, none⟩), .pointer (some ⟨gR, 0, none⟩)] u w fun e u' w' => u' = u ∧ (e = .returned (.tuple #[]) ∧
      w'.heap[gR]? = some (.cells #[.string ⟨(bs ++ four a).toArray⟩] 9 (0, 0)) ∧ Keeps (encFeet gO gN gR v) w w') := by
  obtain ⟨i0, hi, hz0, hz1, hz2⟩ := info_get info_u8g
  have HF := Lib.hid (four_take a ha)
  have HE := Lib.hid h
  clear h
  go_enter_d Try.func43, Try.ntmps43
  go_wp2
  go_loopw [4] (fun i wr => ∃ k : Nat, k ≤ 4 ∧ i = .int .i64 k ∧ (∃ v', Enc wr B gO gN gR v' (bs ++ (four a).take k) a b r ∧ ∀ q, v'.ownBlock = some q → v.ownBlock = some q ∨ w.heap.size ≤ q) ∧ Keeps (encFeet gO gN gR v) w wr) (fun i _ => 4 - (intOf i).toNat)
  case atStart => exact ⟨0, Nat.zero_le _, rfl, ⟨v, by simpa using HE.out, fun q hq => .inl hq⟩, Keeps.refl _ _⟩
  case round =>
    obtain ⟨k, hk, rfl, ⟨v', he, hv⟩, hkp⟩ := hrel
    obtain ⟨lO, lN, lR, c0, c1, c2, c3, f0, f1, f2, f3⟩ := he.facts
    obtain ⟨L, hL⟩ : ∃ L, (four a).take k = L := ⟨_, rfl⟩
    have hown := he.2.2.2.1
    have hBw := he.2.2.2.2
    by_cases hk4 : k < 4
    · have HFk := Lib.hid (HF.out k hk4)
      rw [hL] at he hown HFk
      have hLl : L.length ≤ 4 := by rw [← hL, List.length_take]; omega
      obtain ⟨bl, hbl⟩ : ∃ bl, bs ++ L = bl := ⟨_, rfl⟩
      rw [hbl] at he hown
      have hbll : bl.length ≤ 1000004 := by rw [← hbl, List.length_append]; omega
      have HFk2 := Lib.hid (show bl ++ [byteAt a k] = bs ++ (four a).take (k + 1) by rw [← hbl, List.append_assoc, HFk.out])
      have HBY : Hid (((a : Int) / 256 ^ (3 - k) % 256) = ((byteAt a k).toNat : Int)) := by
        show _ = _
        unfold byteAt
        have : (a : Int) / 256 ^ (3 - k) = ((a / 256 ^ (3 - k) : Nat) : Int) := by simp
        rw [this]; simp
      have HE1 := Lib.hid he
      have HO1 := Lib.hid hown
      have HK1 := Lib.hid hkp
      have HV1 := Lib.hid hv
      obtain ⟨CB, hCB⟩ : ∃ CB, (byteAt a k) = CB := ⟨_, rfl⟩
      rw [hCB] at HFk2 HBY
      clear he hown hkp hv HFk hbl hL hLl hCB
      generalize hKI : (k : Int) = K
      have hk4' : (k = 0 ∧ K = 0) ∨ (k = 1 ∧ K = 1) ∨ (k = 2 ∧ K = 2) ∨ (k = 3 ∧ K = 3) := by omega
      clear hKI hk hk4
      have HPUT := Lib.hid (fun (w1 : World) (q cap : Nat) (o : Obj) h1 h2 => Enc.put (w1 := w1) (k := q) (cap := cap) (c := CB) (o := o) HE1.out h1 h2)
      have e0 : IntKind.i64.wrap 0 = 0 := by decide
      have e8 : IntKind.i64.wrap 8 = 8 := by decide
      have e16 : IntKind.i64.wrap 16 = 16 := by decide
      have e24 : IntKind.i64.wrap 24 = 24 := by decide
      rcases hk4' with ⟨rfl, rfl⟩ | ⟨rfl, rfl⟩ | ⟨rfl, rfl⟩ | ⟨rfl, rfl⟩
      · have HX : Hid (IntKind.u8.wrap ((a : Int) / 16777216) = (CB.toNat : Int)) := by
          show _ = _
          have := HBY.out
          rw [← this]
          first | rfl | (simp [IntKind.wrap, IntKind.signed, IntKind.bits]; done) | (simp [go_sem]; done) | (unfold IntKind.wrap; simp; omega)
        go_wp2_with fail
        go_region_law (refine step_append_at rfl (.tmp 7) (.tmp 15) 75 rfl B 5 i0 (.int .u8 0) 1 Try.underlying75 hi hz0 hz1 hz2 rfl v' bl.length (cells8 bl) rfl (HO1.out.alloc _) ⟨wr.heap.size, 0, none⟩ 1 1 [.int .u8 _] rfl rfl (cell_new1 wr _ _ _ rfl) (by simp [Value.oneCell']) (by unfold maxLen; omega) (by omega) (by simp; omega) (by decide) ?_; intro k cap w1 hown1 hgrow hk; have HOW := Lib.hid hown1; have HGR := Lib.hid hgrow; have cx := cell_lit (grown_heap hgrow (heap_old HE1.out.1 _) (own_ne HO1.out HE1.out.1 (by decide))) 0 v' rfl; have fx := free_in (grown_heap hgrow (heap_old HE1.out.1 _) (own_ne HO1.out HE1.out.1 (by decide))) 0; clear hown1 hgrow)
        all_goals
          have HPP := Lib.hid (HPUT.out w1 k cap _ (by have := HOW.out; rw [HX.out] at this; exact this) (undrew HGR.out))
          have HVV : Hid (∀ q, (Value.slice (some ⟨k, 0, none⟩) (bl.length + 1) cap).ownBlock = some q → v.ownBlock = some q ∨ w.heap.size ≤ q) := by
            intro q hq
            obtain rfl : k = q := by simpa [Value.ownBlock] using hq
            rcases hk with hk | hk
            · exact HV1.out _ hk
            · have := HK1.out.size; simp at hk; right; omega
          have HKK := Lib.hid (((HK1.out.alloc _).grown (undrew HGR.out) (fun j hj => (HV1.out j hj).elim (fun e => .inr (.inr (.inr (.inr e)))) .inl)).setCell (p := ⟨gO, 0, none⟩) (.inr (.inl rfl)) (.slice (some ⟨k, 0, none⟩) (bl.length + 1) cap))
          clear hk
          rw [HFk2.out] at HPP
          go_wp2_with fail
          go_roundw
          case rel => exact ⟨1, by omega, rfl, ⟨_, HPP.out, HVV.out⟩, HKK.out⟩
          case measure => simp [intOf]
      · have HX : Hid (IntKind.u8.wrap ((a : Int) / 65536) = (CB.toNat : Int)) := by
          show _ = _
          have := HBY.out
          rw [← this]
          first | rfl | (simp [IntKind.wrap, IntKind.signed, IntKind.bits]; done) | (simp [go_sem]; done) | (unfold IntKind.wrap; simp; omega)
        go_wp2_with fail
        go_region_law (refine step_append_at rfl (.tmp 7) (.tmp 15) 75 rfl B 5 i0 (.int .u8 0) 1 Try.underlying75 hi hz0 hz1 hz2 rfl v' bl.length (cells8 bl) rfl (HO1.out.alloc _) ⟨wr.heap.size, 0, none⟩ 1 1 [.int .u8 _] rfl rfl (cell_new1 wr _ _ _ rfl) (by simp [Value.oneCell']) (by unfold maxLen; omega) (by omega) (by simp; omega) (by decide) ?_; intro k cap w1 hown1 hgrow hk; have HOW := Lib.hid hown1; have HGR := Lib.hid hgrow; have cx := cell_lit (grown_heap hgrow (heap_old HE1.out.1 _) (own_ne HO1.out HE1.out.1 (by decide))) 0 v' rfl; have fx := free_in (grown_heap hgrow (heap_old HE1.out.1 _) (own_ne HO1.out HE1.out.1 (by decide))) 0; clear hown1 hgrow)
        all_goals
          have HPP := Lib.hid (HPUT.out w1 k cap _ (by have := HOW.out; rw [HX.out] at this; exact this) (undrew HGR.out))
          have HVV : Hid (∀ q, (Value.slice (some ⟨k, 0, none⟩) (bl.length + 1) cap).ownBlock = some q → v.ownBlock = some q ∨ w.heap.size ≤ q) := by
            intro q hq
            obtain rfl : k = q := by simpa [Value.ownBlock] using hq
            rcases hk with hk | hk
            · exact HV1.out _ hk
            · have := HK1.out.size; simp at hk; right; omega
          have HKK := Lib.hid (((HK1.out.alloc _).grown (undrew HGR.out) (fun j hj => (HV1.out j hj).elim (fun e => .inr (.inr (.inr (.inr e)))) .inl)).setCell (p := ⟨gO, 0, none⟩) (.inr (.inl rfl)) (.slice (some ⟨k, 0, none⟩) (bl.length + 1) cap))
          clear hk
          rw [HFk2.out] at HPP
          go_wp2_with fail
          go_roundw
          case rel => exact ⟨2, by omega, rfl, ⟨_, HPP.out, HVV.out⟩, HKK.out⟩
          case measure => simp [intOf]
      · have HX : Hid (IntKind.u8.wrap ((a : Int) / 256) = (CB.toNat : Int)) := by
          show _ = _
          have := HBY.out
          rw [← this]
          first | rfl | (simp [IntKind.wrap, IntKind.signed, IntKind.bits]; done) | (simp [go_sem]; done) | (unfold IntKind.wrap; simp; omega)
        go_wp2_with fail
        go_region_law (refine step_append_at rfl (.tmp 7) (.tmp 15) 75 rfl B 5 i0 (.int .u8 0) 1 Try.underlying75 hi hz0 hz1 hz2 rfl v' bl.length (cells8 bl) rfl (HO1.out.alloc _) ⟨wr.heap.size, 0, none⟩ 1 1 [.int .u8 _] rfl rfl (cell_new1 wr _ _ _ rfl) (by simp [Value.oneCell']) (by unfold maxLen; omega) (by omega) (by simp; omega) (by decide) ?_; intro k cap w1 hown1 hgrow hk; have HOW := Lib.hid hown1; have HGR := Lib.hid hgrow; have cx := cell_lit (grown_heap hgrow (heap_old HE1.out.1 _) (own_ne HO1.out HE1.out.1 (by decide))) 0 v' rfl; have fx := free_in (grown_heap hgrow (heap_old HE1.out.1 _) (own_ne HO1.out HE1.out.1 (by decide))) 0; clear hown1 hgrow)
        all_goals
          have HPP := Lib.hid (HPUT.out w1 k cap _ (by have := HOW.out; rw [HX.out] at this; exact this) (undrew HGR.out))
          have HVV : Hid (∀ q, (Value.slice (some ⟨k, 0, none⟩) (bl.length + 1) cap).ownBlock = some q → v.ownBlock = some q ∨ w.heap.size ≤ q) := by
            intro q hq
            obtain rfl : k = q := by simpa [Value.ownBlock] using hq
            rcases hk with hk | hk
            · exact HV1.out _ hk
            · have := HK1.out.size; simp at hk; right; omega
          have HKK := Lib.hid (((HK1.out.alloc _).grown (undrew HGR.out) (fun j hj => (HV1.out j hj).elim (fun e => .inr (.inr (.inr (.inr e)))) .inl)).setCell (p := ⟨gO, 0, none⟩) (.inr (.inl rfl)) (.slice (some ⟨k, 0, none⟩) (bl.length + 1) cap))
          clear hk
          rw [HFk2.out] at HPP
          go_wp2_with fail
          go_roundw
          case rel => exact ⟨3, by omega, rfl, ⟨_, HPP.out, HVV.out⟩, HKK.out⟩
          case measure => simp [intOf]
      · have HX : Hid (IntKind.u8.wrap ((a : Int)) = (CB.toNat : Int)) := by
          show _ = _
          have := HBY.out
          rw [← this]
          first | rfl | (simp [IntKind.wrap, IntKind.signed, IntKind.bits]; done) | (simp [go_sem]; done) | (unfold IntKind.wrap; simp; omega)
        go_wp2_with fail
        go_region_law (refine step_append_at rfl (.tmp 7) (.tmp 15) 75 rfl B 5 i0 (.int .u8 0) 1 Try.underlying75 hi hz0 hz1 hz2 rfl v' bl.length (cells8 bl) rfl (HO1.out.alloc _) ⟨wr.heap.size, 0, none⟩ 1 1 [.int .u8 _] rfl rfl (cell_new1 wr _ _ _ rfl) (by simp [Value.oneCell']) (by unfold maxLen; omega) (by omega) (by simp; omega) (by decide) ?_; intro k cap w1 hown1 hgrow hk; have HOW := Lib.hid hown1; have HGR := Lib.hid hgrow; have cx := cell_lit (grown_heap hgrow (heap_old HE1.out.1 _) (own_ne HO1.out HE1.out.1 (by decide))) 0 v' rfl; have fx := free_in (grown_heap hgrow (heap_old HE1.out.1 _) (own_ne HO1.out HE1.out.1 (by decide))) 0; clear hown1 hgrow)
        all_goals
          have HPP := Lib.hid (HPUT.out w1 k cap _ (by have := HOW.out; rw [HX.out] at this; exact this) (undrew HGR.out))
          have HVV : Hid (∀ q, (Value.slice (some ⟨k, 0, none⟩) (bl.length + 1) cap).ownBlock = some q → v.ownBlock = some q ∨ w.heap.size ≤ q) := by
            intro q hq
            obtain rfl : k = q := by simpa [Value.ownBlock] using hq
            rcases hk with hk | hk
            · exact HV1.out _ hk
            · have := HK1.out.size; simp at hk; right; omega
          have HKK := Lib.hid (((HK1.out.alloc _).grown (undrew HGR.out) (fun j hj => (HV1.out j hj).elim (fun e => .inr (.inr (.inr (.inr e)))) .inl)).setCell (p := ⟨gO, 0, none⟩) (.inr (.inl rfl)) (.slice (some ⟨k, 0, none⟩) (bl.length + 1) cap))
          clear hk
          rw [HFk2.out] at HPP
          go_wp2_with fail
          go_roundw
          case rel => exact ⟨4, by omega, rfl, ⟨_, HPP.out, HVV.out⟩, HKK.out⟩
          case measure => simp [intOf]
    · obtain rfl : k = 4 := by omega
      have h4 : (four a).take 4 = four a := rfl
      rw [h4] at hown he
      have hcv := conv_own8 (P := Try.prog) (src := 75) (dst := 9) Try.underlying75 Try.underlying5 Try.underlying9 hown
      have HE1 := Lib.hid he
      have HK1 := Lib.hid hkp
      clear he hown hkp hv h4 hL
      go_wp2_with fail
      go_end0
      exact ⟨rfl, block_set HE1.out.2.2.1 0 _, HK1.out.setCell (p := ⟨gR, 0, none⟩) (.inr (.inr (.inr (.inl rfl)))) _⟩
end Go.Proofs.Ytkdkedgpchcfpaa
