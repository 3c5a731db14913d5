/- Layer 45: one bit by values; the document's Decode. -/
import Derived.Test.YtkdkedgpchcfpaaG11
import Derived.Deep.CutRange
namespace Go.Proofs.Ytkdkedgpchcfpaa
open Go.ChangeShapes Go.WideShapes Go.ChangeAt Go.RowKit Go.Deep
set_option linter.unusedVariables false
set_option maxRecDepth 100000
open Range

def stepD (d : Dec) (Z : Int) : Dec := if okB Z then behind d Z.toNat else d
def bitD (d : Dec) (Z : Int) : Bool := if okB Z then bitOf d Z.toNat else false
def errD (Z : Int) : Int := if okB Z then 0 else 2
theorem moves_len (n x : Nat) (s : List UInt8) : (moves n x s).2.length ≤ s.length := by
  induction n with
  | zero => exact Nat.le_refl _
  | succ n ih => rw [moves_succ]; unfold moveB; simp; omega
theorem behind_len (d : Dec) (p : Nat) : (behind d p).s.length ≤ d.s.length := moves_len _ _ _
theorem stepD_len (d : Dec) (Z : Int) : (stepD d Z).s.length ≤ d.s.length := by
  unfold stepD; split
  · exact behind_len _ _
  · exact Nat.le_refl _
theorem stepD_fine {d : Dec} (h : Fine d) (Z : Int) : Fine (stepD d Z) := by
  unfold stepD
  cases hz : okB Z with
  | true => have := okB_yes hz; exact fine_behind h (by omega)
  | false => exact h
theorem after_len (d : Dec) (l : List Nat) : (after d l).s.length ≤ d.s.length := by
  induction l generalizing d with
  | nil => exact Nat.le_refl _
  | cons p l ih => exact Nat.le_trans (ih _) (behind_len d p)
theorem fresh_len (s : List UInt8) : (fresh s).s.length ≤ s.length := moves_len _ _ _
theorem undo_len' (d : Dec) (l : List Nat) : (undo d l).length = l.length := by
  induction l generalizing d with
  | nil => rfl
  | cons q l ih => simp [undo, ih]
theorem gBitT (w : World) (g : Nat) (d : Dec) (Z : Int) (h : IsDec w g d) (hf : Fine d) : Calls Try.prog 22 #[.pointer (some ⟨g, 0, none⟩), .int .i64 Z] w fun e w' =>
    e = .returned (.tuple #[.bool (bitD d Z), .int .i64 (errD Z)]) ∧ IsDec w' g (stepD d Z) ∧ Keeps (fun k => k = g) w w' := by
  unfold bitD errD stepD
  cases hz : okB Z with
  | true =>
    obtain ⟨P, rfl⟩ : ∃ P : Nat, Z = P := ⟨Z.toNat, by have := okB_yes hz; omega⟩
    simp only [if_true, Int.toNat_natCast]
    exact gBit w g d P h hf hz
  | false =>
    simp only [Bool.false_eq_true, if_false]
    refine (gBitOut ⟨g, 0, none⟩ Z w hz).mono ?_
    rintro e w' ⟨rfl, rfl⟩
    exact ⟨rfl, h, Keeps.refl _ _⟩
theorem dBitT (d : Dec) (Z : Int) (hf : Fine d) (hl : d.s.length ≤ 1000000) (w : World) : Calls Try.prog 23 #[.agg #[.int .u64 d.a, .int .u64 d.b, .int .u64 d.x, .string (sB d.s)], .int .i64 Z] w fun e w' =>
    e = .returned (.tuple #[rV (stepD d Z), .bool (bitD d Z), .int .i64 (errD Z)]) ∧ Below w.heap.size w w' := by
  unfold bitD errD stepD
  cases hz : okB Z with
  | true =>
    obtain ⟨P, rfl⟩ : ∃ P : Nat, Z = P := ⟨Z.toNat, by have := okB_yes hz; omega⟩
    simp only [if_true, Int.toNat_natCast]
    exact dBit d P hf hz hl w
  | false =>
    simp only [Bool.false_eq_true, if_false]
    exact dBitOut d Z w hz
theorem dDecodeOut (s : ByteArray) (a : Option Addr) (c : Nat) (l : List Int) (w : World) (h : IsInts w a l) (ho : l.all okB = false) :
    Calls Try.prog 18 #[.string s, .slice a l.length c] w fun e w' => e = .returned (.tuple #[.slice none 0 0, .int .i64 2]) ∧ w' = w := by
  have C := Lib.hid (gFine a c l w h)
  rw [ho] at C
  clear h ho
  go_enter Try.func18, Try.ntmps18
  go_wp2_with fail
  refine C.out.mono ?_; rintro e w1 ⟨rfl, rfl⟩
  go_wp2_with fail
  go_ret2
  exact ⟨rfl, rfl⟩
set_option maxHeartbeats 6400000 in
theorem dDecode (s : List UInt8) (hs : s.length ≤ 1000000) (a : Option Addr) (c : Nat) (l : List Int) (hl : l.length ≤ 100000) (w : World) (h : IsInts w a l) (ho : l.all okB = true) :
    Calls Try.prog 18 #[.string (sB s), .slice a l.length c] w fun e w' => ∃ v, e = .returned (.tuple #[v, .int .i64 0]) ∧ OwnB w.heap.size w' v (undo (fresh s) (nats l)) ∧ Below w.heap.size w w' := by
  have C := Lib.hid (gFine a c l w h)
  rw [ho] at C
  have CN := Lib.hid (fun W => dNew s hs W)
  have HI := Lib.hid h
  have HO := Lib.hid ho
  have hfl := fresh_len s
  obtain ⟨D, hD⟩ : ∃ D, fresh s = D := ⟨_, rfl⟩
  have HF := Lib.hid (show Fine D by rw [← hD]; exact fine_fresh _)
  rw [hD] at CN hfl ⊢
  clear h ho hD
  go_enter Try.func18, Try.ntmps18
  go_wp2_with fail
  refine C.out.mono ?_; rintro e w1 ⟨rfl, hww⟩
  obtain rfl := hww.symm
  go_wp2_with fail
  refine (CN.out _).mono ?_; rintro e w2 ⟨rfl, hb2⟩
  have hz2 := hb2.size
  have HB2 := Lib.hid hb2
  clear hb2 C CN
  go_wp2_with fail
  obtain ⟨g, hg⟩ : ∃ g, w2.heap.size = g := ⟨_, rfl⟩
  obtain ⟨W, hW⟩ : ∃ W, w2.alloc (.cells #[.int .u64 D.a, .int .u64 D.b, .int .u64 D.x, .string (sB D.s)] 40) = W := ⟨_, rfl⟩
  have HR := Lib.hid (show IsR W g D by rw [← hW, ← hg]; exact heap_alloc_new _ _)
  have HB := Lib.hid (show Below w.heap.size w W by rw [← hW]; exact HB2.out.alloc hz2 _)
  have hgl : w.heap.size ≤ g := by omega
  have hgW : g + 1 ≤ W.heap.size := by rw [← hW]; simp; omega
  rw [hg, hW]
  clear hW hg HB2 hz2
  go_loopw [7, 8] (fun u i wr => ∃ k : Nat, k ≤ l.length ∧ i = .int .i64 k ∧ IsR wr g (after D ((nats l).take k)) ∧ OwnB (g + 1) wr u (undo D ((nats l).take k)) ∧ Below w.heap.size w wr ∧ g + 1 ≤ wr.heap.size) (fun _ i _ => l.length - (intOf i).toNat)
  case atStart => exact ⟨0, Nat.zero_le _, rfl, HR.out, OwnS.nil, HB.out, hgW⟩
  case round =>
    obtain ⟨k, hk, rfl, hr, hown, hb, hgs⟩ := hrel
    by_cases hlt : k < l.length
    · obtain ⟨x, rfl, hxb, hc⟩ := HI.out.at k hlt
      have cx := hc k hlt
      have hxk : (x.add k).block < w.heap.size := by rw [add_block]; exact hxb
      rw [← hb.cell hxk] at cx
      have hxk : (x.add k).block < wr.heap.size := by have := hb.size; omega
      have hok := all_at l HO.out k hlt
      have HT := Lib.hid (nats_take l k hlt)
      obtain ⟨Z, hZ⟩ : ∃ Z, l.getD k 0 = Z := ⟨_, rfl⟩
      rw [hZ] at cx hok HT
      obtain ⟨P, rfl⟩ : ∃ P : Nat, Z = P := ⟨Z.toNat, by have := okB_yes hok; omega⟩
      rw [Int.toNat_natCast] at HT
      have hal := after_len D ((nats l).take k)
      have hfa : Fine (after D ((nats l).take k)) := fine_after HF.out (fun p hp => nats_lt l HO.out p (List.mem_of_mem_take hp))
      have HA := Lib.hid (after_snoc D ((nats l).take k) P)
      have HDE := Lib.hid (decode_snoc D ((nats l).take k) P)
      have hdl : (undo D ((nats l).take k)).length ≤ 100000 := by rw [undo_len', List.length_take, nats_len]; omega
      obtain ⟨DK, hDK⟩ : ∃ DK, after D ((nats l).take k) = DK := ⟨_, rfl⟩
      rw [hDK] at hr HA HDE hal hfa
      have CB := Lib.hid (fun W => dBit DK P hfa hok (by omega) W)
      obtain ⟨BT, hBT⟩ : ∃ BT, bitOf DK P = BT := ⟨_, rfl⟩
      rw [hBT] at CB HDE
      obtain ⟨DN, hDN⟩ : ∃ DN, behind DK P = DN := ⟨_, rfl⟩
      rw [hDN] at CB HA
      obtain ⟨OL, hOL⟩ : ∃ OL, undo D ((nats l).take k) = OL := ⟨_, rfl⟩
      rw [hOL] at hown HDE hdl
      obtain ⟨lg, c0, c1, c2, c3, f0, f1, f2, f3⟩ := hr.cells
      have HR1 := Lib.hid hr
      have HW1 := Lib.hid hown
      have HB1 := Lib.hid hb
      have HL := Lib.hid (show OL.length ≤ 1099511627776 by omega)
      clear hr hown hb hZ hDK hBT hDN hOL hok hc hfa hal hdl
      go_wp2_with fail
      obtain ⟨SZ, hSZ⟩ : ∃ SZ, wr.heap.size = SZ := ⟨_, rfl⟩
      have HSZ := Lib.hid hSZ
      clear hSZ
      go_cut [9, 10, 11] from 17 to 37 (fun s9 s10 s11 wc => ∃ gb, s9 = .pointer (some ⟨gb, 0, none⟩) ∧ s10 = .bool BT ∧ s11 = .int .i64 0 ∧ Below SZ wr wc ∧ SZ ≤ gb ∧ IsR wc gb DN)
      case first =>
        go_region_with (go_at_call 23; refine (CB.out _).mono ?_; rintro e w2 ⟨rfl, hb2⟩; (first | (have ha2 := any_new hb2; obtain ⟨lga, ⟨a0, a1, a2, a3, b0, b1, b2, b3⟩, h0, h1, h2, h3⟩ := ha2.free; have HHB := Lib.hid (below_new hb2); clear hb2) | (have HHC := Lib.hid hb2; have hszc := hb2.size; clear hb2)))
        all_goals
          go_wp2_with fail
          go_meet
          case rel => first
            | exact ⟨_, rfl, rfl, rfl, by rw [← HSZ.out]; exact below_setR HHB.out (Nat.le_refl _) DN, Nat.le_of_eq HSZ.out.symm, ha2.set DN⟩
            | exact ⟨_, rfl, rfl, rfl, by rw [← HSZ.out]; exact (undrewB HHC.out).alloc (show wr.heap.size ≤ _ from hszc) _, by rw [← HSZ.out]; exact hszc, heap_alloc_new _ _⟩
      case rest =>
        obtain ⟨gb, rfl, rfl, rfl, hb3, hgb, hI⟩ := hcut
        have hsz3 : SZ ≤ wc.heap.size := by have := hb3.size; have := HSZ.out; omega
        have hgs2 : g + 1 ≤ SZ := by have := HSZ.out; omega
        have hrg : IsR wc g DK := (hb3.block g (by omega)).trans HR1.out
        obtain ⟨la, a0, a1, a2, a3, b0, b1, b2, b3⟩ := hI.cells
        obtain ⟨lg', d0, d1, d2, d3, e0, e1, e2, e3⟩ := hrg.cells
        have hb3' : Below wr.heap.size wr wc := by have := HSZ.out; subst this; exact hb3
        have HR4 := Lib.hid (hrg.any.set DN)
        have HB4 := Lib.hid (below_setR (g := g) (HB1.out.trans (hb3'.mono HB1.out.size)) hgl DN)
        have HW4 := Lib.hid (((((HW1.out.kept hb3').setLow (p := ⟨g, 0, none⟩) (by simp) (.int .u64 DN.a)).setLow (p := ⟨g, 1, none⟩) (by simp) (.int .u64 DN.b)).setLow (p := ⟨g, 2, none⟩) (by simp) (.int .u64 DN.x)).setLow (p := ⟨g, 3, none⟩) (by simp) (.string (sB DN.s)))
        have HG4 := Lib.hid (show g + 1 ≤ (setR wc g DN).heap.size by rw [setR_size]; omega)
        clear hb3 hb3' hI hrg c0 c1 c2 c3 f0 f1 f2 f3 hxk cx
        go_wp2_with (at_builtin; refine app_bool rfl _ _ rfl _ _ _ _ BT rfl HW4.out _ 1 (setR_size wc g DN) rfl HL.out HG4.out ?_; intro v5 w5 hown5 hb5 hg5)
        have hr5 : IsR w5 g DN := (hb5.block g (by omega)).trans HR4.out
        have hb6 := HB4.out.trans (hb5.mono (by omega))
        have hsz5 : g + 1 ≤ w5.heap.size := Nat.le_trans HG4.out hb5.size
        rw [← HDE.out, ← HT.out] at hown5
        rw [← HA.out, ← HT.out] at hr5
        have hown5_ := Lib.hid hown5
        have hr5_ := Lib.hid hr5
        have hb6_ := Lib.hid hb6
        clear hown5 hr5 hb6
        clear hb5 hg5
        go_wp2_with fail
        go_roundw
        case rel => exact ⟨k + 1, by omega, by go_num, hr5_.out, hown5_.out, hb6_.out, hsz5⟩
        case measure => simp [intOf]; omega
    · obtain rfl : k = l.length := by omega
      have HT := Lib.hid (show (nats l).take l.length = nats l by rw [List.take_of_length_le (by rw [nats_len]; omega)])
      rw [HT.out] at hown
      have hown_ := Lib.hid hown
      have hb_ := Lib.hid hb
      clear hown hb
      clear hr
      go_wp2_with fail
      go_ret2
      exact ⟨_, rfl, hown_.out.base (by omega), hb_.out⟩
theorem dDecodeT {w : World} {u : Value} (s : ByteArray) {l : List Int} (hs : s.size ≤ 1000000) (h2 : IsL w u l) (hl : l.length ≤ 100000) (L : List Bool) (E : Int) (hr : decS s.data.toList l = (L, E)) :
    Calls Try.prog 18 #[.string s, u] w fun e w' => ∃ v, e = .returned (.tuple #[v, .int .i64 E]) ∧ IsB w' v L ∧ Below w.heap.size w w' := by
  obtain ⟨b, cb, rfl, h2⟩ := h2
  unfold decS at hr
  cases hall : l.all okB with
  | false =>
    rw [hall, if_pos rfl] at hr
    obtain ⟨rfl, rfl⟩ := hr
    refine (dDecodeOut s b cb l w h2 hall).mono ?_
    rintro e w' ⟨rfl, rfl⟩
    exact ⟨_, rfl, IsB.nil _, Below.refl _ _⟩
  | true =>
    rw [hall, if_neg (by decide)] at hr
    obtain ⟨rfl, rfl⟩ := hr
    have hs2 : s.data.toList.length ≤ 1000000 := by
      have : s.data.toList.length = s.size := rfl
      omega
    have := dDecode s.data.toList hs2 b cb l hl w h2 hall
    rw [sB_of] at this
    refine this.mono ?_
    rintro e w' ⟨v, rfl, h3, h4⟩
    exact ⟨v, rfl, h3.isB, h4⟩
end Go.Proofs.Ytkdkedgpchcfpaa
