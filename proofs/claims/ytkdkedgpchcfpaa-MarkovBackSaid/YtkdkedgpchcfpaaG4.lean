/- Layer 45: Decode. -/
import Derived.Test.YtkdkedgpchcfpaaG3
namespace Go.Proofs.Ytkdkedgpchcfpaa
open Go.ChangeShapes Go.WideShapes Go.ChangeAt Go.RowKit Go.Deep
set_option linter.unusedVariables false
set_option maxRecDepth 100000
open Range

def nats (l : List Int) : List Nat := l.map Int.toNat
theorem nats_take (l : List Int) (k : Nat) (h : k < l.length) : (nats l).take (k + 1) = (nats l).take k ++ [(l.getD k 0).toNat] := by
  unfold nats; rw [← List.map_take, ← List.map_take, take_getD l k h]; simp
theorem nats_len (l : List Int) : (nats l).length = l.length := by simp [nats]
theorem all_at (l : List Int) (h : l.all okB = true) (k : Nat) (hk : k < l.length) : okB (l.getD k 0) = true := by
  have := List.all_eq_true.1 h (l.getD k 0) (by simp [List.getD_eq_getElem?_getD, hk])
  exact this
theorem nats_lt (l : List Int) (h : l.all okB = true) : ∀ p ∈ nats l, p < 2048 := by
  intro p hp
  obtain ⟨z, hz, rfl⟩ := List.mem_map.1 hp
  have := okB_yes (List.all_eq_true.1 h z hz)
  omega
theorem gDecodeOut (s : ByteArray) (a : Option Addr) (c : Nat) (l : List Int) (w : World) (h : IsInts w a l) (ho : l.all okB = false) :
    Calls Try.prog 17 #[.string s, .slice a l.length c] w fun e w' => e = .returned (.tuple #[.slice none 0 0, .int .i64 2]) ∧ w' = w := by
  have C := Lib.hid (gChances a c l w h)
  rw [ho] at C
  clear h ho
  go_enter Try.func17, Try.ntmps17
  go_wp2_with fail
  refine C.out.mono ?_; rintro e w1 ⟨rfl, rfl⟩
  go_wp2_with fail
  go_ret2
  exact ⟨rfl, rfl⟩
set_option maxHeartbeats 3200000 in
theorem gDecode (s : ByteArray) (hs : s.size ≤ 1000000) (a : Option Addr) (c : Nat) (l : List Int) (hl : l.length ≤ 1000000) (w : World) (h : IsInts w a l) (ho : l.all okB = true) :
    Calls Try.prog 17 #[.string s, .slice a l.length c] w fun e w' => ∃ v, e = .returned (.tuple #[v, .int .i64 0]) ∧ OwnB w.heap.size w' v (undo (fresh s.data.toList) (nats l)) ∧ Below w.heap.size w w' := by
  have C := Lib.hid (gChances a c l w h)
  rw [ho] at C
  have CN := Lib.hid (fun w => gNew s (by omega) w)
  have HI := Lib.hid h
  have HO := Lib.hid ho
  obtain ⟨D, hD⟩ : ∃ D, fresh s.data.toList = D := ⟨_, rfl⟩
  have HF := Lib.hid (show Fine D by rw [← hD]; exact fine_fresh _)
  rw [hD] at CN ⊢
  clear h ho hD
  go_enter Try.func17, Try.ntmps17
  go_wp2_with fail
  refine C.out.mono ?_; rintro e w1 ⟨rfl, rfl⟩
  go_wp2_with fail
  refine (CN.out _).mono ?_; rintro e w2 ⟨g, rfl, hd, hb2, hg1, hg2⟩
  have hbs := hb2.size
  have hd_ := Lib.hid hd
  have hb2_ := Lib.hid hb2
  clear hd hb2
  go_wp2_with (refine make_bool rfl _ _ rfl .i64 .i64 _ _ l.length rfl rfl rfl rfl (by omega) ?_; intro w3 hown3 hb3 hz3)
  have hd3 := hd_.out.keepsNot hb3
  have hbb := hb2_.out.trans (hb3.mono hbs)
  obtain ⟨B, hB⟩ : ∃ B, w2.heap.size = B := ⟨_, rfl⟩
  rw [hB] at hown3 hg2 hz3 ⊢
  have hBw : w1.heap.size ≤ B := by omega
  have hd3_ := Lib.hid hd3
  have hbb_ := Lib.hid hbb
  have hown3_ := Lib.hid hown3
  clear hd3 hbb hown3
  clear hb3 C CN hd_ hb2_ hB hbs hz3
  go_wp2_with fail
  go_loopw [20] (fun i wr => ∃ k : Nat, k ≤ l.length ∧ i = .int .i64 k ∧ IsDec wr g (after D ((nats l).take k)) ∧ OwnB B wr (.slice (some ⟨B, 0, none⟩) l.length l.length) (undo D ((nats l).take k) ++ List.replicate (l.length - k) false) ∧ Below w1.heap.size w1 wr) (fun i _ => l.length - (intOf i).toNat)
  case atStart => exact ⟨0, Nat.zero_le _, rfl, hd3_.out, hown3_.out, hbb_.out⟩
  case round =>
    obtain ⟨k, hk, rfl, hd, hown, hb⟩ := hrel
    by_cases hlt : k < l.length
    · obtain ⟨x, rfl, hxb, hc⟩ := HI.out.at k hlt
      have cx := hc k hlt
      rw [← hb.cell (by rw [add_block]; exact hxb)] at cx
      have hok := all_at l HO.out k hlt
      have HT := Lib.hid (nats_take l k hlt)
      obtain ⟨Z, hZ⟩ : ∃ Z, l.getD k 0 = Z := ⟨_, rfl⟩
      rw [hZ] at cx hok HT
      obtain ⟨P, rfl⟩ : ∃ P : Nat, Z = P := ⟨Z.toNat, by have := okB_yes hok; omega⟩
      rw [Int.toNat_natCast] at HT
      have CB := Lib.hid (gBit wr g _ P hd (fine_after HF.out (fun p hp => nats_lt l HO.out p (List.mem_of_mem_take hp))) hok)
      have HA := Lib.hid (after_snoc D ((nats l).take k) P)
      have HDE := Lib.hid (decode_snoc D ((nats l).take k) P)
      have hdl : (undo D ((nats l).take k)).length = k := by rw [decode_len, List.length_take, nats_len]; omega
      obtain ⟨DK, hDK⟩ : ∃ DK, after D ((nats l).take k) = DK := ⟨_, rfl⟩
      rw [hDK] at CB HA HDE
      obtain ⟨BT, hBT⟩ : ∃ BT, bitOf DK P = BT := ⟨_, rfl⟩
      rw [hBT] at CB HDE
      obtain ⟨OL, hOL⟩ : ∃ OL, undo D ((nats l).take k) = OL := ⟨_, rfl⟩
      rw [hOL] at hown HDE hdl
      have hd_ := Lib.hid hd
      have hown_ := Lib.hid hown
      have hb_ := Lib.hid hb
      have hdl_ := Lib.hid hdl
      clear hd hown hb hdl
      clear hZ hDK hBT hOL hc hok
      go_wp2_with fail
      refine CB.out.mono ?_; rintro e w4 ⟨rfl, hd4, hk4⟩
      have hk4b : Below w1.heap.size wr w4 := hk4.below (fun j hj => ⟨by have := hb_.out.size; omega, fun e => by have e' : j = g := e; omega⟩)
      have hb4 := hb_.out.trans hk4b
      have hown4 : OwnB B w4 (.slice (some ⟨B, 0, none⟩) l.length l.length) (OL ++ List.replicate (l.length - k) false) := hk4.ownsRow hown_.out (fun j hj e => by have e' : j = g := e; simp [Value.ownBlock] at hj; omega)
      have hfr : w4.frozen? ⟨B, k, none⟩ = false := hown4.free k
      have hcc : ∃ v, w4.cell? ⟨B, k, none⟩ = some v := by
        have := OwnS.cell flatB hown4 k 0 false (by rw [List.getElem?_append_right (by rw [hdl_.out]; omega), hdl_.out, Nat.sub_self, List.getElem?_replicate, if_pos (by omega)]) (by decide)
        rw [Nat.mul_one, Nat.add_zero] at this
        exact ⟨_, this⟩
      obtain ⟨vv, hcc⟩ := hcc
      have hown5 := OwnS.set1 flatB hown4 k BT (.bool BT) rfl (by rw [List.length_append, hdl_.out]; simp; omega)
      have e1 : (OL ++ List.replicate (l.length - k) false).set k BT = OL ++ [BT] ++ List.replicate (l.length - (k + 1)) false := by
        rw [List.set_append_right _ _ (by rw [hdl_.out]; omega), hdl_.out, Nat.sub_self]
        obtain ⟨m, hm⟩ : ∃ m, l.length - k = m + 1 := ⟨l.length - k - 1, by omega⟩
        rw [hm, show l.length - (k + 1) = m by omega, List.replicate_succ]
        simp
      rw [e1, ← HDE.out, ← HT.out] at hown5
      have hd5 : IsDec (w4.setCell ⟨B, k, none⟩ (.bool BT)) g (after D ((nats l).take (k + 1))) := by
        rw [HT.out, HA.out]
        exact hd4.kept (B := B) ((Below.refl _ _).setCell (p := ⟨B, k, none⟩) (Nat.le_refl _) _) hg2
      have hb5 := hb4.setCell (p := ⟨B, k, none⟩) hBw (.bool BT)
      have hown5_ := Lib.hid hown5
      have hd5_ := Lib.hid hd5
      have hb5_ := Lib.hid hb5
      clear hown5 hd5 hb5
      clear hd4 hk4 hk4b hb4 hown4 e1
      go_wp2_with fail
      go_roundw
      case rel => exact ⟨k + 1, by omega, by go_num, hd5_.out, hown5_.out, hb5_.out⟩
      case measure => simp [intOf]; omega
    · obtain rfl : k = l.length := by omega
      have HT := Lib.hid (show (nats l).take l.length = nats l by rw [List.take_of_length_le (by rw [nats_len]; omega)])
      rw [HT.out, Nat.sub_self, List.replicate_zero, List.append_nil] at hown
      have hown_ := Lib.hid hown
      have hb_ := Lib.hid hb
      clear hown hb
      clear hd
      go_wp2_with fail
      go_ret2
      exact ⟨_, rfl, hown_.out.base hBw, hb_.out⟩
end Go.Proofs.Ytkdkedgpchcfpaa
