import Derived.Test.YtedmnlfbmmlcbaaJ04
import Derived.Defers
import Derived.Recover
import Derived.RegionCalls
import Derived.Deep.RegionWith
import Derived.Laws.IdiomStrings
/- Layer 45: Encode's closure. -/
namespace Go.Proofs.Ytedmnlfbmmlcbaa
open Go.ChangeShapes Go.WideShapes Go.ChangeAt Go.RowKit Go.Deep
set_option linter.unusedVariables false
set_option maxRecDepth 100000
open Range

theorem info_u8g : (Try.prog.info? 5).map (fun i => (i.zero, i.size, i.bytes)) = some (some (.int .u8 0), 1, 1) := by kernel_rfl
/-- The boxes of an encoder: what was told, the span, the result. -/
def Enc (w : World) (B gO gN gR : Nat) (v : Value) (bs : List UInt8) (a b : Nat) (r : ByteArray) : Prop :=
  w.heap[gO]? = some (.cells #[v] 52 (0, 0)) ∧ w.heap[gN]? = some (.cells #[.int .u32 a, .int .u32 b] 83 (0, 0)) ∧ w.heap[gR]? = some (.cells #[.string r] 9 (0, 0)) ∧
    w.ownsRow B 5 1 v bs.length (cells8 bs) ∧ B ≤ w.heap.size
def encFeet (gO gN gR : Nat) (v : Value) : Nat → Prop := fun k => k = gO ∨ k = gN ∨ k = gR ∨ v.ownBlock = some k
theorem bound_own {w : World} {B n : Nat} {e : TypeId} {v : Value} {xs : List Value} (h : w.ownsRow B e 1 v n xs) : ∃ c, v = .slice none 0 0 ∧ n = 0 ∨ ∃ k, v = .slice (some ⟨k, 0, none⟩) n c ∧ n ≤ c ∧ c ≤ maxLen := by
  rcases h.2 with ⟨h1, h2⟩ | ⟨g, cap, cur, h1, -, -, h2, h3, -⟩
  · exact ⟨0, .inl ⟨h1, by omega⟩⟩
  · exact ⟨cap, .inr ⟨g, h1, h2, h3⟩⟩
theorem undrew {X w1 : World} {row : Option Nat} (h : X.drew.grownBy w1 row) : X.grownBy w1 row := ⟨h.os, h.tape, h.output, h.size, h.block⟩
/-- One byte more, in the newest world. -/
theorem Enc.put {w w1 : World} {B gO gN gR k cap : Nat} {v : Value} {bs : List UInt8} {a b : Nat} {r : ByteArray} {c : UInt8} {o : Obj} (h : Enc w B gO gN gR v bs a b r)
    (hown1 : w1.ownsRow B 5 1 (.slice (some ⟨k, 0, none⟩) (bs.length + 1) cap) (bs.length + 1) (cells8 bs ++ [.int .u8 c.toNat])) (hgrow : (w.alloc o).grownBy w1 v.ownBlock) :
    Enc (w1.setCell ⟨gO, 0, none⟩ (.slice (some ⟨k, 0, none⟩) (bs.length + 1) cap)) B gO gN gR (.slice (some ⟨k, 0, none⟩) (bs.length + 1) cap) (bs ++ [c]) a b r := by
  obtain ⟨h1, h2, h3, h4, h5⟩ := h
  have g1 := grown_heap hgrow (heap_old h1 o) (own_ne h4 h1 (by decide))
  have g2 := grown_heap hgrow (heap_old h2 o) (own_ne h4 h2 (by decide))
  have g3 := grown_heap hgrow (heap_old h3 o) (own_ne h4 h3 (by decide))
  have n12 : gN ≠ gO := by rintro rfl; rw [h1] at h2; injection h2 with h2; injection h2 with _ h2 _; exact absurd h2 (by decide)
  have n13 : gR ≠ gO := by rintro rfl; rw [h1] at h3; injection h3 with h3; injection h3 with _ h3 _; exact absurd h3 (by decide)
  have hne : (Value.slice (some ⟨k, 0, none⟩) (bs.length + 1) cap).ownBlock ≠ some gO := own_ne hown1 g1 (by decide)
  refine ⟨block_set g1 0 _, (Below.heap_setCell _ _ _ _ n12).trans g2, (Below.heap_setCell _ _ _ _ n13).trans g3, ?_, ?_⟩
  · have := ownsRow_setCell_other hown1 (a := ⟨gO, 0, none⟩) hne (.slice (some ⟨k, 0, none⟩) (bs.length + 1) cap)
    rw [List.length_append, ← cells8_snoc]
    exact this
  · have := hgrow.size; simp at this ⊢; omega
theorem Enc.facts {w : World} {B gO gN gR : Nat} {v : Value} {bs : List UInt8} {a b : Nat} {r : ByteArray} (h : Enc w B gO gN gR v bs a b r) :
    gO < w.heap.size ∧ gN < w.heap.size ∧ gR < w.heap.size ∧ w.cell? ⟨gO, 0, none⟩ = some v ∧ w.cell? ⟨gN, 0, none⟩ = some (.int .u32 a) ∧ w.cell? ⟨gN, 1, none⟩ = some (.int .u32 b) ∧ w.cell? ⟨gR, 0, none⟩ = some (.string r) ∧
    w.frozen? ⟨gO, 0, none⟩ = false ∧ w.frozen? ⟨gN, 0, none⟩ = false ∧ w.frozen? ⟨gN, 1, none⟩ = false ∧ w.frozen? ⟨gR, 0, none⟩ = false := by
  obtain ⟨h1, h2, h3, h4, h5⟩ := h
  exact ⟨block_lt h1, block_lt h2, block_lt h3, cell_lit h1 0 _ rfl, cell_lit h2 0 _ rfl, cell_lit h2 1 _ rfl, cell_lit h3 0 _ rfl, free_in h1 0, free_in h2 0, free_in h2 1, free_in h3 0⟩
def byteAt (a k : Nat) : UInt8 := UInt8.ofNat (a / 256 ^ (3 - k) % 256)
theorem four_take (a : Nat) (ha : a < 4294967296) (k : Nat) (hk : k < 4) : (four a).take k ++ [byteAt a k] = (four a).take (k + 1) := by
  unfold four byteAt
  match k, hk with
  | 0, _ => simp; rw [Nat.mod_eq_of_lt (by omega)]
  | 1, _ => simp
  | 2, _ => simp
  | 3, _ => simp
set_option maxHeartbeats 3200000 in
theorem gTail (w : World) (B gO gN gR : Nat) (v : Value) (bs : List UInt8) (a b : Nat) (r : ByteArray) (h : Enc w B gO gN gR v bs a b r) (ha : a < 4294967296) (hl : bs.length ≤ 1000000) (u : FrameMode) :
    CallsD Try.prog 54 #[.pointer (some ⟨gO, 0, none⟩), .pointer (some ⟨gN, 0, none⟩), .pointer (some ⟨gR, 0, none⟩)] u w fun e u' w' => u' = u ∧ (e = .returned (.tuple #[]) ∧
      w'.heap[gR]? = some (.cells #[.string ⟨(bs ++ four a).toArray⟩] 9 (0, 0)) ∧ Keeps (encFeet gO gN gR v) w w') := by
  obtain ⟨i0, hi, hz0, hz1, hz2⟩ := info_get info_u8g
  have HF := Lib.hid (four_take a ha)
  have HE := Lib.hid h
  clear h
  go_enter_d Try.func54, Try.ntmps54
  go_wp2
  go_loopw [4] (fun i wr => ∃ k : Nat, k ≤ 4 ∧ i = .int .i64 k ∧ (∃ v', Enc wr B gO gN gR v' (bs ++ (four a).take k) a b r ∧ ∀ q, v'.ownBlock = some q → v.ownBlock = some q ∨ w.heap.size ≤ q) ∧ Keeps (encFeet gO gN gR v) w wr) (fun i _ => 4 - (intOf i).toNat)
  case atStart => exact ⟨0, Nat.zero_le _, rfl, ⟨v, by simpa using HE.out, fun q hq => .inl hq⟩, Keeps.refl _ _⟩
  case round =>
    obtain ⟨k, hk, rfl, ⟨v', he, hv⟩, hkp⟩ := hrel
    obtain ⟨lO, lN, lR, c0, c1, c2, c3, f0, f1, f2, f3⟩ := he.facts
    obtain ⟨L, hL⟩ : ∃ L, (four a).take k = L := ⟨_, rfl⟩
    have hown := he.2.2.2.1
    have hBw := he.2.2.2.2
    by_cases hk4 : k < 4
    · have HFk := Lib.hid (HF.out k hk4)
      rw [hL] at he hown HFk
      have hLl : L.length ≤ 4 := by rw [← hL, List.length_take]; omega
      obtain ⟨bl, hbl⟩ : ∃ bl, bs ++ L = bl := ⟨_, rfl⟩
      rw [hbl] at he hown
      have hbll : bl.length ≤ 1000004 := by rw [← hbl, List.length_append]; omega
      have HFk2 := Lib.hid (show bl ++ [byteAt a k] = bs ++ (four a).take (k + 1) by rw [← hbl, List.append_assoc, HFk.out])
      have HBY : Hid (((a : Int) / 256 ^ (3 - k) % 256) = ((byteAt a k).toNat : Int)) := by
        show _ = _
        unfold byteAt
        have : (a : Int) / 256 ^ (3 - k) = ((a / 256 ^ (3 - k) : Nat) : Int) := by simp
        rw [this]; simp
      have HE1 := Lib.hid he
      have HO1 := Lib.hid hown
      have HK1 := Lib.hid hkp
      have HV1 := Lib.hid hv
      obtain ⟨CB, hCB⟩ : ∃ CB, (byteAt a k) = CB := ⟨_, rfl⟩
      rw [hCB] at HFk2 HBY
      clear he hown hkp hv HFk hbl hL hLl hCB
      generalize hKI : (k : Int) = K
      have hk4' : (k = 0 ∧ K = 0) ∨ (k = 1 ∧ K = 1) ∨ (k = 2 ∧ K = 2) ∨ (k = 3 ∧ K = 3) := by omega
      clear hKI hk hk4
      have HPUT := Lib.hid (fun (w1 : World) (q cap : Nat) (o : Obj) h1 h2 => Enc.put (w1 := w1) (k := q) (cap := cap) (c := CB) (o := o) HE1.out h1 h2)
      have e0 : IntKind.i64.wrap 0 = 0 := by decide
      have e8 : IntKind.i64.wrap 8 = 8 := by decide
      have e16 : IntKind.i64.wrap 16 = 16 := by decide
      have e24 : IntKind.i64.wrap 24 = 24 := by decide
      rcases hk4' with ⟨rfl, rfl⟩ | ⟨rfl, rfl⟩ | ⟨rfl, rfl⟩ | ⟨rfl, rfl⟩
      · have HX : Hid (IntKind.u8.wrap ((a : Int) / 16777216) = (CB.toNat : Int)) := by
          show _ = _
          have := HBY.out
          rw [← this]
          first | rfl | (simp [IntKind.wrap, IntKind.signed, IntKind.bits]; done) | (simp [go_sem]; done) | (unfold IntKind.wrap; simp; omega)
        go_wp2_with fail
        go_region_law (refine step_append_at rfl (.tmp 7) (.tmp 15) 52 rfl B 5 i0 (.int .u8 0) 1 Try.underlying52 hi hz0 hz1 hz2 rfl v' bl.length (cells8 bl) rfl (HO1.out.alloc _) ⟨wr.heap.size, 0, none⟩ 1 1 [.int .u8 _] rfl rfl (cell_new1 wr _ _ _ rfl) (by simp [Value.oneCell']) (by unfold maxLen; omega) (by omega) (by simp; omega) (by decide) ?_; intro k cap w1 hown1 hgrow hk; have HOW := Lib.hid hown1; have HGR := Lib.hid hgrow; have cx := cell_lit (grown_heap hgrow (heap_old HE1.out.1 _) (own_ne HO1.out HE1.out.1 (by decide))) 0 v' rfl; have fx := free_in (grown_heap hgrow (heap_old HE1.out.1 _) (own_ne HO1.out HE1.out.1 (by decide))) 0; clear hown1 hgrow)
        all_goals
          have HPP := Lib.hid (HPUT.out w1 k cap _ (by have := HOW.out; rw [HX.out] at this; exact this) (undrew HGR.out))
          have HVV : Hid (∀ q, (Value.slice (some ⟨k, 0, none⟩) (bl.length + 1) cap).ownBlock = some q → v.ownBlock = some q ∨ w.heap.size ≤ q) := by
            intro q hq
            obtain rfl : k = q := by simpa [Value.ownBlock] using hq
            rcases hk with hk | hk
            · exact HV1.out _ hk
            · have := HK1.out.size; simp at hk; right; omega
          have HKK := Lib.hid (((HK1.out.alloc _).grown (undrew HGR.out) (fun j hj => (HV1.out j hj).elim (fun e => .inr (.inr (.inr (.inr e)))) .inl)).setCell (p := ⟨gO, 0, none⟩) (.inr (.inl rfl)) (.slice (some ⟨k, 0, none⟩) (bl.length + 1) cap))
          clear hk
          rw [HFk2.out] at HPP
          go_wp2_with fail
          go_roundw
          case rel => exact ⟨1, by omega, rfl, ⟨_, HPP.out, HVV.out⟩, HKK.out⟩
          case measure => simp [intOf]
      · have HX : Hid (IntKind.u8.wrap ((a : Int) / 65536) = (CB.toNat : Int)) := by
          show _ = _
          have := HBY.out
          rw [← this]
          first | rfl | (simp [IntKind.wrap, IntKind.signed, IntKind.bits]; done) | (simp [go_sem]; done) | (unfold IntKind.wrap; simp; omega)
        go_wp2_with fail
        go_region_law (refine step_append_at rfl (.tmp 7) (.tmp 15) 52 rfl B 5 i0 (.int .u8 0) 1 Try.underlying52 hi hz0 hz1 hz2 rfl v' bl.length (cells8 bl) rfl (HO1.out.alloc _) ⟨wr.heap.size, 0, none⟩ 1 1 [.int .u8 _] rfl rfl (cell_new1 wr _ _ _ rfl) (by simp [Value.oneCell']) (by unfold maxLen; omega) (by omega) (by simp; omega) (by decide) ?_; intro k cap w1 hown1 hgrow hk; have HOW := Lib.hid hown1; have HGR := Lib.hid hgrow; have cx := cell_lit (grown_heap hgrow (heap_old HE1.out.1 _) (own_ne HO1.out HE1.out.1 (by decide))) 0 v' rfl; have fx := free_in (grown_heap hgrow (heap_old HE1.out.1 _) (own_ne HO1.out HE1.out.1 (by decide))) 0; clear hown1 hgrow)
        all_goals
          have HPP := Lib.hid (HPUT.out w1 k cap _ (by have := HOW.out; rw [HX.out] at this; exact this) (undrew HGR.out))
          have HVV : Hid (∀ q, (Value.slice (some ⟨k, 0, none⟩) (bl.length + 1) cap).ownBlock = some q → v.ownBlock = some q ∨ w.heap.size ≤ q) := by
            intro q hq
            obtain rfl : k = q := by simpa [Value.ownBlock] using hq
            rcases hk with hk | hk
            · exact HV1.out _ hk
            · have := HK1.out.size; simp at hk; right; omega
          have HKK := Lib.hid (((HK1.out.alloc _).grown (undrew HGR.out) (fun j hj => (HV1.out j hj).elim (fun e => .inr (.inr (.inr (.inr e)))) .inl)).setCell (p := ⟨gO, 0, none⟩) (.inr (.inl rfl)) (.slice (some ⟨k, 0, none⟩) (bl.length + 1) cap))
          clear hk
          rw [HFk2.out] at HPP
          go_wp2_with fail
          go_roundw
          case rel => exact ⟨2, by omega, rfl, ⟨_, HPP.out, HVV.out⟩, HKK.out⟩
          case measure => simp [intOf]
      · have HX : Hid (IntKind.u8.wrap ((a : Int) / 256) = (CB.toNat : Int)) := by
          show _ = _
          have := HBY.out
          rw [← this]
          first | rfl | (simp [IntKind.wrap, IntKind.signed, IntKind.bits]; done) | (simp [go_sem]; done) | (unfold IntKind.wrap; simp; omega)
        go_wp2_with fail
        go_region_law (refine step_append_at rfl (.tmp 7) (.tmp 15) 52 rfl B 5 i0 (.int .u8 0) 1 Try.underlying52 hi hz0 hz1 hz2 rfl v' bl.length (cells8 bl) rfl (HO1.out.alloc _) ⟨wr.heap.size, 0, none⟩ 1 1 [.int .u8 _] rfl rfl (cell_new1 wr _ _ _ rfl) (by simp [Value.oneCell']) (by unfold maxLen; omega) (by omega) (by simp; omega) (by decide) ?_; intro k cap w1 hown1 hgrow hk; have HOW := Lib.hid hown1; have HGR := Lib.hid hgrow; have cx := cell_lit (grown_heap hgrow (heap_old HE1.out.1 _) (own_ne HO1.out HE1.out.1 (by decide))) 0 v' rfl; have fx := free_in (grown_heap hgrow (heap_old HE1.out.1 _) (own_ne HO1.out HE1.out.1 (by decide))) 0; clear hown1 hgrow)
        all_goals
          have HPP := Lib.hid (HPUT.out w1 k cap _ (by have := HOW.out; rw [HX.out] at this; exact this) (undrew HGR.out))
          have HVV : Hid (∀ q, (Value.slice (some ⟨k, 0, none⟩) (bl.length + 1) cap).ownBlock = some q → v.ownBlock = some q ∨ w.heap.size ≤ q) := by
            intro q hq
            obtain rfl : k = q := by simpa [Value.ownBlock] using hq
            rcases hk with hk | hk
            · exact HV1.out _ hk
            · have := HK1.out.size; simp at hk; right; omega
          have HKK := Lib.hid (((HK1.out.alloc _).grown (undrew HGR.out) (fun j hj => (HV1.out j hj).elim (fun e => .inr (.inr (.inr (.inr e)))) .inl)).setCell (p := ⟨gO, 0, none⟩) (.inr (.inl rfl)) (.slice (some ⟨k, 0, none⟩) (bl.length + 1) cap))
          clear hk
          rw [HFk2.out] at HPP
          go_wp2_with fail
          go_roundw
          case rel => exact ⟨3, by omega, rfl, ⟨_, HPP.out, HVV.out⟩, HKK.out⟩
          case measure => simp [intOf]
      · have HX : Hid (IntKind.u8.wrap ((a : Int)) = (CB.toNat : Int)) := by
          show _ = _
          have := HBY.out
          rw [← this]
          first | rfl | (simp [IntKind.wrap, IntKind.signed, IntKind.bits]; done) | (simp [go_sem]; done) | (unfold IntKind.wrap; simp; omega)
        go_wp2_with fail
        go_region_law (refine step_append_at rfl (.tmp 7) (.tmp 15) 52 rfl B 5 i0 (.int .u8 0) 1 Try.underlying52 hi hz0 hz1 hz2 rfl v' bl.length (cells8 bl) rfl (HO1.out.alloc _) ⟨wr.heap.size, 0, none⟩ 1 1 [.int .u8 _] rfl rfl (cell_new1 wr _ _ _ rfl) (by simp [Value.oneCell']) (by unfold maxLen; omega) (by omega) (by simp; omega) (by decide) ?_; intro k cap w1 hown1 hgrow hk; have HOW := Lib.hid hown1; have HGR := Lib.hid hgrow; have cx := cell_lit (grown_heap hgrow (heap_old HE1.out.1 _) (own_ne HO1.out HE1.out.1 (by decide))) 0 v' rfl; have fx := free_in (grown_heap hgrow (heap_old HE1.out.1 _) (own_ne HO1.out HE1.out.1 (by decide))) 0; clear hown1 hgrow)
        all_goals
          have HPP := Lib.hid (HPUT.out w1 k cap _ (by have := HOW.out; rw [HX.out] at this; exact this) (undrew HGR.out))
          have HVV : Hid (∀ q, (Value.slice (some ⟨k, 0, none⟩) (bl.length + 1) cap).ownBlock = some q → v.ownBlock = some q ∨ w.heap.size ≤ q) := by
            intro q hq
            obtain rfl : k = q := by simpa [Value.ownBlock] using hq
            rcases hk with hk | hk
            · exact HV1.out _ hk
            · have := HK1.out.size; simp at hk; right; omega
          have HKK := Lib.hid (((HK1.out.alloc _).grown (undrew HGR.out) (fun j hj => (HV1.out j hj).elim (fun e => .inr (.inr (.inr (.inr e)))) .inl)).setCell (p := ⟨gO, 0, none⟩) (.inr (.inl rfl)) (.slice (some ⟨k, 0, none⟩) (bl.length + 1) cap))
          clear hk
          rw [HFk2.out] at HPP
          go_wp2_with fail
          go_roundw
          case rel => exact ⟨4, by omega, rfl, ⟨_, HPP.out, HVV.out⟩, HKK.out⟩
          case measure => simp [intOf]
    · obtain rfl : k = 4 := by omega
      have h4 : (four a).take 4 = four a := rfl
      rw [h4] at hown he
      have hcv := conv_own8 (P := Try.prog) (src := 52) (dst := 9) Try.underlying52 Try.underlying5 Try.underlying9 hown
      have HE1 := Lib.hid he
      have HK1 := Lib.hid hkp
      clear he hown hkp hv h4 hL
      go_wp2_with fail
      go_end0
      exact ⟨rfl, block_set HE1.out.2.2.1 0 _, HK1.out.setCell (p := ⟨gR, 0, none⟩) (.inr (.inr (.inr (.inl rfl)))) _⟩
end Go.Proofs.Ytedmnlfbmmlcbaa

/- Layer 45: Encode. -/
namespace Go.Proofs.Ytedmnlfbmmlcbaa
open Go.ChangeShapes Go.WideShapes Go.ChangeAt Go.RowKit Go.Deep
set_option linter.unusedVariables false
set_option maxRecDepth 100000
open Range

theorem gEncodeArg (a a2 : Option Addr) (n m c c2 : Nat) (w : World) (h : n ≠ m) :
    Calls Try.prog 33 #[.slice a n c, .slice a2 m c2] w fun e w' => e = .returned (.tuple #[.string ⟨#[]⟩, .int .i64 1]) ∧ Below w.heap.size w w' := by
  have hb : ((n : Int) != (m : Int)) = true := by rw [bne_iff_ne]; omega
  go_enter_defers Try.func33, Try.ntmps33
  go_wp2_with fail
  exact ⟨.tuple #[.string ⟨#[]⟩, .int .i64 1], by simp [results, Try.results33, go_sem], rfl, by go_grown⟩
theorem gEncodeRange (a a2 : Option Addr) (c c2 : Nat) (l : List Int) (w : World) (h : IsInts w a2 l) (ho : l.all okB = false) :
    Calls Try.prog 33 #[.slice a l.length c, .slice a2 l.length c2] w fun e w' => e = .returned (.tuple #[.string ⟨#[]⟩, .int .i64 2]) ∧ Below w.heap.size w w' := by
  have C := Lib.hid (gChances a2 c2 l _ (h.alloc (.cells #[.string ⟨#[]⟩] 9)))
  rw [ho] at C
  have hb : ((l.length : Int) != (l.length : Int)) = false := by simp
  clear h ho
  go_enter_defers Try.func33, Try.ntmps33
  go_wp2_with fail
  refine C.out.mono ?_; rintro e w1 ⟨rfl, rfl⟩
  go_wp2_with fail
  exact ⟨.tuple #[.string ⟨#[]⟩, .int .i64 2], by simp [results, Try.results33, go_sem], rfl, by go_grown⟩
theorem gEncodeNil (a a2 : Option Addr) (c c2 : Nat) (w : World) :
    Calls Try.prog 33 #[.slice a 0 c, .slice a2 0 c2] w fun e w' => e = .returned (.tuple #[.string ⟨#[]⟩, .int .i64 0]) ∧ Below w.heap.size w w' := by
  have C := Lib.hid (gChances a2 c2 [] (w.alloc (.cells #[.string ⟨#[]⟩] 9)) ⟨by simp, .inl rfl⟩)
  rw [show ([] : List Int).all okB = true from rfl, List.length_nil] at C
  go_enter_defers Try.func33, Try.ntmps33
  go_wp2_with fail
  refine C.out.mono ?_; rintro e w1 ⟨rfl, rfl⟩
  go_wp2_with fail
  exact ⟨.tuple #[.string ⟨#[]⟩, .int .i64 0], by simp [results, Try.results33, go_sem], rfl, by go_grown⟩
theorem Enc.below {w w' : World} {B gO gN gR : Nat} {v : Value} {bs : List UInt8} {a b : Nat} {r : ByteArray} (h : Enc w B gO gN gR v bs a b r) (hb : Below w.heap.size w w') : Enc w' B gO gN gR v bs a b r := by
  obtain ⟨h1, h2, h3, h4, h5⟩ := h
  refine ⟨(hb.block _ (block_lt h1)).trans h1, (hb.block _ (block_lt h2)).trans h2, (hb.block _ (block_lt h3)).trans h3, ⟨h4.1, ?_⟩, Nat.le_trans h5 hb.size⟩
  rcases h4.2 with hn | ⟨g, cap, cur, rfl, hbb, hgg, rest⟩
  · exact .inl hn
  · exact .inr ⟨g, cap, cur, rfl, hbb, (hb.block g (block_lt hgg)).trans hgg, rest⟩
theorem Enc.span {w : World} {B gO gN gR : Nat} {v : Value} {bs : List UInt8} {a b : Nat} {r : ByteArray} (h : Enc w B gO gN gR v bs a b r) (a' b' : Nat) :
    Enc ((w.setCell ⟨gN, 0, none⟩ (.int .u32 a')).setCell ⟨gN, 1, none⟩ (.int .u32 b')) B gO gN gR v bs a' b' r := by
  obtain ⟨h1, h2, h3, h4, h5⟩ := h
  have n12 : gO ≠ gN := by rintro rfl; rw [h1] at h2; injection h2 with h2; injection h2 with _ h2 _; exact absurd h2 (by decide)
  have n13 : gR ≠ gN := by rintro rfl; rw [h2] at h3; injection h3 with h3; injection h3 with _ h3 _; exact absurd h3 (by decide)
  have hne := own_ne h4 h2 (by decide)
  have h4' := ownsRow_setCell_other h4 (a := ⟨gN, 0, none⟩) hne (.int .u32 a')
  have h4'' := ownsRow_setCell_other h4' (a := ⟨gN, 1, none⟩) hne (.int .u32 b')
  refine ⟨?_, block_set (block_set h2 0 _) 1 _, ?_, h4'', by simp; exact h5⟩
  · rw [Below.heap_setCell _ _ _ _ n12, Below.heap_setCell _ _ _ _ n12]; exact h1
  · rw [Below.heap_setCell _ _ _ _ n13, Below.heap_setCell _ _ _ _ n13]; exact h3
theorem Enc.res {w : World} {B gO gN gR : Nat} {v : Value} {bs : List UInt8} {a b : Nat} {r : ByteArray} (h : Enc w B gO gN gR v bs a b r) (r' : ByteArray) :
    Enc (w.setCell ⟨gR, 0, none⟩ (.string r')) B gO gN gR v bs a b r' := by
  obtain ⟨h1, h2, h3, h4, h5⟩ := h
  have n12 : gO ≠ gR := by rintro rfl; rw [h1] at h3; injection h3 with h3; injection h3 with _ h3 _; exact absurd h3 (by decide)
  have n13 : gN ≠ gR := by rintro rfl; rw [h2] at h3; injection h3 with h3; injection h3 with _ h3 _; exact absurd h3 (by decide)
  have hne := own_ne h4 h3 (by decide)
  have h4' := ownsRow_setCell_other h4 (a := ⟨gR, 0, none⟩) hne (.string r')
  refine ⟨?_, ?_, block_set h3 0 _, h4', by simp; exact h5⟩
  · rw [Below.heap_setCell _ _ _ _ n12]; exact h1
  · rw [Below.heap_setCell _ _ _ _ n13]; exact h2
/-- The pairs of bits and chances. -/
def pairs (bl : List Bool) (l : List Int) : List (Bool × Nat) := bl.zip (nats l)
theorem pairs_take (bl : List Bool) (l : List Int) (k : Nat) (h1 : k < bl.length) (h2 : k < l.length) : (pairs bl l).take (k + 1) = (pairs bl l).take k ++ [(bl.getD k false, (l.getD k 0).toNat)] := by
  unfold pairs
  rw [List.take_succ_eq_append_getElem (by simp [nats]; omega)]
  congr 2
  simp [nats, List.getD_eq_getElem?_getD, h1, h2]
theorem pairs_lt (bl : List Bool) (l : List Int) (h : l.all okB = true) : ∀ x ∈ pairs bl l, x.2 < 2048 := by
  intro x hx
  obtain ⟨c, p⟩ := x
  exact nats_lt l h p (List.of_mem_zip hx).2
set_option maxHeartbeats 6400000 in
theorem gEncode (a a2 : Option Addr) (c c2 : Nat) (bl : List Bool) (l : List Int) (w : World) (h1 : IsBoo w a bl) (h : IsInts w a2 l) (hlen : bl.length = l.length) (hl : l.length ≤ 100000) (hpos : 0 < l.length) (ho : l.all okB = true) :
    Calls Try.prog 33 #[.slice a l.length c, .slice a2 l.length c2] w fun e w' => e = .returned (.tuple #[.string ⟨(told (pairs bl l)).toArray⟩, .int .i64 0]) ∧ Below w.heap.size w w' := by
  have hmf : ∀ (fn : Fn) (first cap : Array Value) (w : World), (Instr.makeFunc fn first cap).run Try.prog w = .ok (.func fn first cap) w := fun _ _ _ _ => rfl
  have C := Lib.hid (gChances a2 c2 l _ (h.alloc (.cells #[.string ⟨#[]⟩] 9)))
  rw [ho] at C
  have hb : ((l.length : Int) != (l.length : Int)) = false := by simp
  have CA := Lib.hid (fun w => gAll w)
  have HI := Lib.hid h
  have HJ := Lib.hid h1
  have HO := Lib.hid ho
  have HLN := Lib.hid hlen
  clear h h1 ho hlen
  go_enter_defers Try.func33, Try.ntmps33
  go_wp2_with fail
  refine C.out.mono ?_; rintro e w1 ⟨rfl, rfl⟩
  go_wp2_with fail
  refine (CA.out _).mono ?_; rintro e w1 ⟨rfl, hb1⟩
  have hz1 := hb1.size
  simp at hz1
  have HB1 := Lib.hid hb1
  clear hb1 C CA
  go_wp2_with fail
  obtain ⟨gN, hgN⟩ : ∃ gN, w1.heap.size = gN := ⟨_, rfl⟩
  have HGN : w.heap.size ≤ gN := by omega
  have HNE : gN ≠ w.heap.size + 1 := by omega
  obtain ⟨W, hW⟩ : ∃ W, w1.alloc (.cells #[.int .u32 0, .int .u32 4294967295] 83) = W := ⟨_, rfl⟩
  have hE0 : Enc W w.heap.size (w.heap.size + 1) gN w.heap.size (.slice none 0 0) [] 0 top ⟨#[]⟩ := by
    rw [← hW, ← hgN]
    refine ⟨?_, heap_alloc_new w1 _, ?_, World.ownsRow_nil _ _ _ _, by simp; omega⟩
    · rw [Below.heap_alloc _ _ _ (by omega)]
      exact (HB1.out.block _ (by simp)).trans (heap_two_last _ _ _)
    · rw [Below.heap_alloc _ _ _ (by omega)]
      exact (HB1.out.block _ (by simp; omega)).trans (heap_two_first _ _ _)
  have hbW : Below w.heap.size w W := by
    rw [← hW]
    exact (((((Below.refl _ _).alloc (Nat.le_refl _) _).alloc (by simp) _).trans (HB1.out.mono (by simp; omega))).alloc (by omega) _)
  rw [hgN, hW]
  have HE0 := Lib.hid hE0
  have HBW := Lib.hid hbW
  clear hE0 hbW hW hgN hz1 HB1
  clear hb
  go_loopw [25] (fun i wr => ∃ k : Nat, k ≤ l.length ∧ i = .int .i64 k ∧ (∃ v, Enc wr w.heap.size (w.heap.size + 1) gN w.heap.size v (run 0 top ((pairs bl l).take k)).1 (run 0 top ((pairs bl l).take k)).2.1 (run 0 top ((pairs bl l).take k)).2.2 ⟨#[]⟩) ∧ Below w.heap.size w wr) (fun i _ => l.length - (intOf i).toNat)
  case atStart => exact ⟨0, Nat.zero_le _, rfl, ⟨_, HE0.out⟩, HBW.out⟩
  case round =>
    obtain ⟨k, hk, rfl, ⟨v, he⟩, hb⟩ := hrel
    by_cases hlt : k < l.length
    · obtain ⟨x, rfl, hxb, hc⟩ := HI.out.at k hlt
      obtain ⟨y, rfl, hyb, cy⟩ := HJ.out.at k (by rw [HLN.out]; exact hlt)
      have cx := hc k hlt
      have hxk : (x.add k).block < w.heap.size := by rw [add_block]; exact hxb
      have hyk : (y.add k).block < w.heap.size := by rw [add_block]; exact hyb
      rw [← hb.cell hxk] at cx
      rw [← hb.cell hyk] at cy
      have hxk : (x.add k).block < wr.heap.size := by have := hb.size; omega
      have hok := all_at l HO.out k hlt
      have HT := Lib.hid (pairs_take bl l k (by rw [HLN.out]; exact hlt) hlt)
      have hap := run_apart 0 top ((pairs bl l).take k) apart_all (fun x hx => pairs_lt bl l HO.out x (List.mem_of_mem_take hx))
      have hrl := run_len 0 top ((pairs bl l).take k)
      rw [List.length_take] at hrl
      obtain ⟨Z, hZ⟩ : ∃ Z, l.getD k 0 = Z := ⟨_, rfl⟩
      rw [hZ] at cx hok HT
      obtain ⟨P, rfl⟩ : ∃ P : Nat, Z = P := ⟨Z.toNat, by have := okB_yes hok; omega⟩
      rw [Int.toNat_natCast] at HT
      obtain ⟨BT, hBT⟩ : ∃ BT, bl.getD k false = BT := ⟨_, rfl⟩
      rw [hBT] at cy HT
      have HRS := Lib.hid (run_snoc 0 top ((pairs bl l).take k) BT P)
      rw [← HT.out] at HRS
      obtain ⟨⟨RB, A, Bb⟩, hR⟩ : ∃ r, run 0 top ((pairs bl l).take k) = r := ⟨_, rfl⟩
      rw [hR] at he hap hrl HRS
      simp only at he hap hrl HRS
      have hpp : 1 ≤ P ∧ P ≤ 2047 := by have := okB_yes hok; omega
      have hm := mid_le A Bb P hap.1 (by omega)
      have hab := apart_lt hap
      have hb32 := hap.2.1
      have hmid := hm.2.2.1 hab
      have hamid := hm.1
      have C2 := Lib.hid (fun W => gMiddle A Bb P hap.1 hb32 hpp.2 W)
      have hpt : Range.part A Bb P BT = sttl 4 (if BT then mid A Bb P + 1 else A) (if BT then Bb else mid A Bb P) := by cases BT <;> rfl
      rw [hpt] at HRS
      obtain ⟨M, hM⟩ : ∃ M, mid A Bb P = M := ⟨_, rfl⟩
      rw [hM] at C2 HRS hmid hamid
      have C3 := Lib.hid (fun W => gOfX A Bb M BT (by omega) hb32 (fun _ => hmid) (by omega) W)
      have HWD := Lib.hid (show Wide 4 (if BT then M + 1 else A) (if BT then Bb else M) by
        cases BT
        · exact wide4 _ _ hamid (by simp; omega)
        · exact wide4 _ _ (by simp; omega) hb32)
      obtain ⟨A2, hA2⟩ : ∃ A2, (if BT then M + 1 else A : Nat) = A2 := ⟨_, rfl⟩
      obtain ⟨B2, hB2⟩ : ∃ B2, (if BT then Bb else M : Nat) = B2 := ⟨_, rfl⟩
      rw [hA2, hB2] at C3 HRS HWD
      obtain ⟨lO, lN, lR, c0, c1, c2, c3, f0, f1, f2, f3⟩ := he.facts
      have HE := Lib.hid he
      have HB := Lib.hid hb
      have hgNl : w.heap.size ≤ gN := HGN
      have hrl : RB.length ≤ 4 * l.length := by omega
      clear he hb hZ hBT hR hap hm hpt hM hA2 hB2 hok hc c0 c3 f0 f3 hmid hamid hab hyk
      go_wp2_with fail
      have HBR := Lib.hid (bcell (Below.refl wr.heap.size wr))
      have C22 := Lib.hid (fun W (hb : Below wr.heap.size wr W) => (C2.out W).mono (R' := fun e w' => e = .returned (.int .u32 M) ∧ Below wr.heap.size wr w') (by rintro e w' ⟨h1, rfl⟩; exact ⟨h1, hb.alloc hb.size _⟩))
      have C33 := Lib.hid (fun W (hb : Below wr.heap.size wr W) => (C3.out W).mono (R' := fun e w' => e = .returned (.agg #[.int .u32 A2, .int .u32 B2]) ∧ Below wr.heap.size wr w') (by rintro e w' ⟨h1, rfl⟩; exact ⟨h1, (hb.alloc hb.size _).alloc (by have := hb.size; simp; omega) _⟩))
      clear C2 C3 HBR
      refine wp_region_noPanic ?_
      refine' (fun (KEY : ∀ w3 : World, Below wr.heap.size wr w3 → (_ : World → Prop) w3) => ?main) ?key
      case main =>
        go_region_with (first | (go_at_call 56; refine (C22.out _ (by first | assumption | exact (Below.refl _ _).drew)).mono ?_; rintro e w2 ⟨rfl, hb2⟩; obtain ⟨hc2, hf2⟩ := bcell hb2) | (go_at_call 55; refine (C33.out _ (by assumption)).mono ?_; rintro e w3 ⟨rfl, hb3⟩; obtain ⟨hc3, hf3⟩ := bcell hb3))
        all_goals exact KEY _ hb3
      case key =>
        intro w3 hb3
        clear C22 C33
        have HE3 := Lib.hid ((HE.out.below hb3).span A2 B2)
        have HB3 := Lib.hid (((HB.out.trans (hb3.mono HB.out.size)).setCell (p := ⟨gN, 0, none⟩) hgNl (.int .u32 A2)).setCell (p := ⟨gN, 1, none⟩) hgNl (.int .u32 B2))
        obtain ⟨W3, hW3⟩ : ∃ W3, (w3.setCell ⟨gN, 0, none⟩ (.int .u32 A2)).setCell ⟨gN, 1, none⟩ (.int .u32 B2) = W3 := ⟨_, rfl⟩
        rw [hW3] at HE3 HB3 ⊢
        obtain ⟨⟨TB, TA, TC⟩, hTR⟩ : ∃ r, run 0 top ((pairs bl l).take (k + 1)) = r := ⟨_, rfl⟩
        have HTR := Lib.hid hTR
        have hrs := HRS.out
        rw [hTR] at hrs
        simp only [Prod.mk.injEq] at hrs
        have HT1 := Lib.hid hrs.1.symm
        have HT2 := Lib.hid (show (sttl 4 A2 B2).2 = (TA, TC) from hrs.2.symm)
        have htl : TB.length ≤ 4 * l.length := by
          have := run_len 0 top ((pairs bl l).take (k + 1))
          rw [hTR, List.length_take] at this
          simp only at this; omega
        clear hb3 hW3 hTR hrs HRS HE HB c1 c2 f1 f2 cx cy
        refine NoPanic.normal ?_
        go_wp2_with fail
        go_loopg [] 4 (fun f wq => ∃ a' b' v' bs', Wide f a' b' ∧ Hid (bs' ++ (sttl f a' b').1 = TB) ∧ Hid ((sttl f a' b').2 = (TA, TC)) ∧ Enc wq w.heap.size (w.heap.size + 1) gN w.heap.size v' bs' a' b' ⟨#[]⟩ ∧ Below w.heap.size w wq)
        case atStart => exact ⟨A2, B2, v, RB, HWD.out, HT1, HT2, HE3.out, HB3.out⟩
        case round =>
          obtain ⟨a', b', v', bs', hwd, ht1, ht2, heq, hbq⟩ := hrel
          have ha32 : a' < 4294967296 := by have := hwd.1; have := hwd.2.1; omega
          have hb32' : b' < 4294967296 := hwd.2.1
          have CS := Lib.hid (fun W => (gSettled a' b' ha32 hb32' W).mono (R' := fun e w' => e = .returned (.bool (sett a' b')) ∧ Below W.heap.size W w') (by rintro e w' ⟨h1, rfl⟩; exact ⟨h1, by go_grown⟩))
          have CW := Lib.hid (fun W => (gWithout a' b' ha32 hb32' W).mono (R' := fun e w' => e = .returned (.agg #[.int .u32 (a' % 16777216 * 256 : Nat), .int .u32 (b' % 16777216 * 256 + 255 : Nat)]) ∧ Below W.heap.size W w') (by rintro e w' ⟨h1, rfl⟩; exact ⟨h1, by go_grown⟩))
          obtain ⟨lO, lN, lR, d0, d1, d2, d3, g0, g1, g2, g3⟩ := heq.facts
          have HEQ := Lib.hid heq
          have HBQ := Lib.hid hbq
          obtain ⟨ST, hST⟩ : ∃ ST, sett a' b' = ST := ⟨_, rfl⟩
          rw [hST] at CS
          clear heq hbq
          cases ST with
          | false =>
            have hne : a' / 16777216 ≠ b' / 16777216 := by simpa [sett] using hST
            have ht1' := ht1.out
            have ht2' := ht2.out
            rw [settle_no hne] at ht1' ht2'
            simp only [List.append_nil, Prod.mk.injEq] at ht1' ht2'
            obtain ⟨rfl, rfl⟩ := ht2'
            subst ht1'
            clear hne hST ht1 ht2 CW HT1 HT2
            go_wp2_with fail
            refine (CS.out _).mono ?_; rintro e w4 ⟨rfl, hb4⟩
            have HE4 := Lib.hid (HEQ.out.below hb4)
            have HB4 := Lib.hid (HBQ.out.trans (hb4.mono HBQ.out.size))
            clear hb4 d0 d1 d2 d3 g0 g1 g2 g3
            go_wp2_with fail
            go_roundw
            case rel => exact ⟨k + 1, by omega, by go_num, ⟨v', by rw [HTR.out]; exact HE4.out⟩, HB4.out⟩
            case measure => simp [intOf]; omega
          | true =>
            have heqs : a' / 16777216 = b' / 16777216 := by simpa [sett] using hST
            obtain ⟨f', rfl⟩ : ∃ f', gk = f' + 1 := by
              cases gk with
              | zero => exact absurd heqs (wide0 hwd)
              | succ f' => exact ⟨f', rfl⟩
            have hwd2 := Lib.hid (wide_next hwd heqs)
            have ht1' := ht1.out
            have ht2' := ht2.out
            rw [settle_yes heqs] at ht1' ht2'
            have HT1' := Lib.hid ht1'
            have HT2' := Lib.hid ht2'
            have hbl' : bs'.length ≤ 4 * l.length := by rw [← ht1', List.length_append] at htl; omega
            clear ht1' ht2' ht1 ht2 hST heqs HT1 HT2 hwd
            go_wp2_with fail
            refine (CS.out _).mono ?_; rintro e w4 ⟨rfl, hb4⟩
            have he4 := HEQ.out.below hb4
            have hb5 := HBQ.out.trans (hb4.mono HBQ.out.size)
            clear d0 d1 d2 d3 g0 g1 g2 g3 lO lN lR hb4
            obtain ⟨lO, lN, lR, d0, d1, d2, d3, g0, g1, g2, g3⟩ := he4.facts
            obtain ⟨i0, hi, hz0, hz1, hz2⟩ := info_get info_u8g
            have HE4 := Lib.hid he4
            have HB4 := Lib.hid hb5
            have hbs5 := hb5.size
            clear he4 hb5
            go_wp2_with (at_builtin; refine wpList_append_at _ rfl (.tmp 41) (.tmp 46) 52 rfl w.heap.size 5 i0 (.int .u8 0) 1 Try.underlying52 hi hz0 hz1 hz2 rfl v' bs'.length (cells8 bs') rfl (HE4.out.2.2.2.1.alloc _) ⟨w4.heap.size, 0, none⟩ 1 1 [Value.int .u8 _] rfl rfl (cell_new1 w4 _ _ _ rfl) (by simp [Value.oneCell']) ?d3 ?d4 ?d5 ?d6 ?_)
            case d3 => unfold maxLen; omega
            case d4 => omega
            case d5 => simp; omega
            case d6 => decide
            intro q cap w5 hown5 hgrow5 hq5
            have hHX : (a' : Int) / 16777216 = ((UInt8.ofNat (a' / 16777216)).toNat : Int) := by simp; omega
            rw [hHX] at hown5
            have k1 := grown_heap hgrow5 (heap_old HE4.out.1 _) (own_ne HE4.out.2.2.2.1 HE4.out.1 (by decide))
            have k2 := grown_heap hgrow5 (heap_old HE4.out.2.1 _) (own_ne HE4.out.2.2.2.1 HE4.out.2.1 (by decide))
            have p0 := cell_lit k1 0 _ rfl
            have p1 := cell_lit k2 0 _ rfl
            have p2 := cell_lit k2 1 _ rfl
            have q0 := free_in k1 0
            have q1 := free_in k2 0
            have q2 := free_in k2 1
            have HE5 := Lib.hid (HE4.out.put hown5 hgrow5)
            have HB5 := Lib.hid (((HB4.out.alloc (by omega) _).grown hgrow5 (by simp; omega) (fun j hj => (World.ownsRow.lt HE4.out.2.2.2.1 j hj).1)).setCell (p := ⟨w.heap.size + 1, 0, none⟩) (Nat.le_succ _) (.slice (some ⟨q, 0, none⟩) (bs'.length + 1) cap))
            have hne1 : gN ≠ w.heap.size + 1 := HNE
            have hne2 : ¬ w.heap.size + 1 = gN := fun e => hne1 e.symm
            clear hown5 hgrow5 hq5 k1 k2 hHX d0 d1 d2 d3 g0 g1 g2 g3 HE4 HB4
            go_wp2_with fail
            refine (CW.out _).mono ?_; rintro e w6 ⟨rfl, hb6⟩
            have he6 := HE5.out.below hb6
            have HE6 := Lib.hid (he6.span (a' % 16777216 * 256) (b' % 16777216 * 256 + 255))
            have HB6 := Lib.hid (((HB5.out.trans (hb6.mono HB5.out.size)).setCell (p := ⟨gN, 0, none⟩) hgNl (.int .u32 (a' % 16777216 * 256 : Nat))).setCell (p := ⟨gN, 1, none⟩) hgNl (.int .u32 (b' % 16777216 * 256 + 255 : Nat)))
            obtain ⟨l6, l7, l8, r0, r1, r2, r3, s0, s1, s2, s3⟩ := he6.facts
            obtain ⟨a2, ha2⟩ : ∃ a2, a' % 16777216 * 256 = a2 := ⟨_, rfl⟩
            obtain ⟨b2, hb2⟩ : ∃ b2, b' % 16777216 * 256 + 255 = b2 := ⟨_, rfl⟩
            rw [ha2, hb2] at HE6 HB6 HT1' HT2' hwd2 ⊢
            have HT3 := Lib.hid (show bs' ++ [UInt8.ofNat (a' / 16777216)] ++ (sttl f' a2 b2).1 = TB by rw [List.append_assoc]; exact HT1'.out)
            clear he6 hb6 ha2 hb2 p0 p1 p2 q0 q1 q2 r0 r3 s0 s3 CS CW
            go_wp2_with fail
            go_roundg f'
            case rel => exact ⟨a2, b2, _, _, hwd2.out, HT3, HT2', HE6.out, HB6.out⟩
            case measure => omega
    · obtain rfl : k = l.length := by omega
      have HT := Lib.hid (show (pairs bl l).take l.length = pairs bl l by rw [List.take_of_length_le]; unfold pairs; rw [List.length_zip, nats_len]; omega)
      rw [HT.out] at he
      have HTO := Lib.hid (show told (pairs bl l) = (run 0 top (pairs bl l)).1 ++ four (run 0 top (pairs bl l)).2.1 by
        unfold told
        rw [if_neg]
        intro e
        have := congrArg List.length e
        unfold pairs at this
        rw [List.length_zip, nats_len, HLN.out, Nat.min_self, List.length_nil] at this
        omega)
      have hap := run_apart 0 top (pairs bl l) apart_all (fun x hx => pairs_lt bl l HO.out x hx)
      have hrl := run_len 0 top (pairs bl l)
      have hpl : (pairs bl l).length ≤ l.length := by unfold pairs; rw [List.length_zip, nats_len]; omega
      obtain ⟨⟨RB, A, Bb⟩, hR⟩ : ∃ r, run 0 top (pairs bl l) = r := ⟨_, rfl⟩
      rw [hR] at he hap hrl HTO
      simp only at he hap hrl HTO
      have CT := Lib.hid (fun W (hW : Enc W w.heap.size (w.heap.size + 1) gN w.heap.size v RB A Bb ⟨#[]⟩) u => gTail W w.heap.size (w.heap.size + 1) gN w.heap.size v RB A Bb ⟨#[]⟩ hW (by have := hap.1; have := hap.2.1; omega) (by omega) u)
      obtain ⟨lO, lN, lR, d0, d1, d2, d3, g0, g1, g2, g3⟩ := he.facts
      have HE := Lib.hid (he.res ⟨#[]⟩)
      have HB := Lib.hid (hb.setCell (p := ⟨w.heap.size, 0, none⟩) (Nat.le_refl _) (.string ⟨#[]⟩))
      have HV := Lib.hid (show ∀ j, v.ownBlock = some j → w.heap.size ≤ j from fun j hj => (World.ownsRow.lt he.2.2.2.1 j hj).1)
      clear he hb hap hrl hpl hR
      go_wp2_with fail
      refine leaves_cons (f := 54) (args := #[.pointer (some ⟨w.heap.size + 1, 0, none⟩), .pointer (some ⟨gN, 0, none⟩), .pointer (some ⟨w.heap.size, 0, none⟩)]) (by simp) (by simp [go_sem]) ?_
      refine (CT.out _ HE.out .returning).mono ?_
      rintro e u' w9 ⟨rfl, rfl, hR9, hK9⟩
      have cR := cell_lit hR9 0 _ rfl
      have hb9 := HB.out.trans (hK9.below (B := w.heap.size) (fun j hj => ⟨by have := HB.out.size; omega, fun e => by
        rcases e with e | e | e | e
        · omega
        · omega
        · omega
        · have := HV.out j e; omega⟩))
      refine ⟨.tuple #[.string ⟨(RB ++ four A).toArray⟩, .int .i64 0], by simp [results, Try.results33, go_sem, cR], by rw [HTO.out], hb9⟩
end Go.Proofs.Ytedmnlfbmmlcbaa

/- Layer 45, the document's: next, New, part. -/
namespace Go.Proofs.Ytedmnlfbmmlcbaa
open Go.ChangeShapes Go.WideShapes Go.ChangeAt Go.RowKit Go.Deep
set_option linter.unusedVariables false
set_option maxRecDepth 100000
open Range

/-- Bytes as a string. -/
def sB (l : List UInt8) : ByteArray := ⟨l.toArray⟩
theorem sB_size (l : List UInt8) : (sB l).size = l.length := by unfold sB; simp [ByteArray.size]
theorem sB_list (l : List UInt8) : (sB l).data.toList = l := by unfold sB; simp
theorem sB_of (s : ByteArray) : sB s.data.toList = s := by unfold sB; simp
theorem sB_app (s : ByteArray) (l : List UInt8) : (s ++ sB l).data.toList = s.data.toList ++ l := by unfold sB; simp
theorem sB_get (l : List UInt8) (k : Nat) (h : k < l.length) (h2 : k < (sB l).size) : ((sB l)[k]'h2) = l.getD k 0 := by
  unfold sB
  simp [List.getD_eq_getElem?_getD, h]
  first | rfl | (show (l.toArray[k]'_) = _; simp)
theorem sB_tail (l : List UInt8) : (sB l).extract 1 (sB l).size = sB (l.drop 1) := by
  apply ByteArray.ext
  apply Array.ext'
  rw [ByteArray.data_extract]
  have e : (sB l).size = l.length := sB_size l
  rw [e]
  unfold sB
  simp
  rw [List.take_of_length_le (by simp)]
/-- A reader's value. -/
abbrev rV (d : Dec) : Value := .agg #[.int .u64 d.a, .int .u64 d.b, .int .u64 d.x, .string (sB d.s)]
end Go.Proofs.Ytedmnlfbmmlcbaa
