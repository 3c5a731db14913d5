import Derived.Test.YtopiiickeojpmaaJ4
import Derived.Test.YtopiiickeojpmaaJ07
import Derived.Test.YtopiiickeojpmaaJ12
import Derived.Test.YtopiiickeojpmaaJ01
import Derived.Test.YtopiiickeojpmaaBm
import Derived.IntWalk
import Derived.Laws.IdiomStrings
import Derived.Test.YtopiiickeojpmaaJ10
import Derived.Test.YtopiiickeojpmaaJ16
/- Layer 10: New. -/
namespace Go.Proofs.Ytopiiickeojpmaa
open Go.ChangeShapes Go.WideShapes Go.ChangeAt Go.RowKit
set_option linter.unusedVariables false
set_option linter.unusedSimpArgs false
set_option maxRecDepth 100000
open KraftMath CanonMath TurnMath Bits
theorem fNewArg (v : Value) (L : Int) (hL : L < 1 ∨ 15 < L) (w : World) : Calls Try.prog 53 #[v, .int .i64 L] w fun e w' => e = .returned (.tuple #[.pointer none, .int .i64 1]) ∧ w' = w := by
  by_cases h1 : L < 1
  · have hd : decide (L < 1) = true := by simpa using h1
    go_enter Try.func53, Try.ntmps53
    go_wp2_with fail
    go_ret2
    exact ⟨rfl, rfl⟩
  · have hd1 : decide (L < 1) = false := by simpa using h1
    have hd : decide (15 < L) = true := by simp; omega
    go_enter Try.func53, Try.ntmps53
    go_wp2_with fail
    go_ret2
    exact ⟨rfl, rfl⟩
theorem fNewBad (a : Option Addr) (c : Nat) (l : List Int) (L : Nat) (hL1 : 1 ≤ L) (hL : L ≤ 15) (hE : check l L ≠ 0) (w : World) (h : IsInts w a l) : Calls Try.prog 53 #[.slice a l.length c, .int .i64 L] w fun e w' => e = .returned (.tuple #[.pointer none, .int .i64 (check l L)]) ∧ Below w.heap.size w w' := by
  have C1 := Lib.hid (kCheck_any a c L l w h)
  obtain ⟨CE, hCE⟩ : ∃ CE, check l L = CE := ⟨_, rfl⟩
  rw [hCE] at hE C1 ⊢
  have hne : (CE != 0) = true := by rw [bne_iff_ne]; exact hE
  have hd1 : decide ((L : Int) < 1) = false := by simp; omega
  have hd2 : decide ((15 : Int) < (L : Int)) = false := by simp; omega
  clear hCE h
  go_enter Try.func53, Try.ntmps53
  go_wp2_with fail
  refine C1.out.mono ?_; rintro e w1 ⟨rfl, k, rfl⟩
  go_wp2_with fail
  go_ret2
  exact ⟨rfl, below_dn (Below.refl _ _) k⟩
set_option maxHeartbeats 3200000 in
theorem fNew (a : Option Addr) (c : Nat) (l : List Int) (L : Nat) (hL1 : 1 ≤ L) (hL : L ≤ 15) (hE : check l L = 0) (w : World) (h : IsInts w a l) : Calls Try.prog 53 #[.slice a l.length c, .int .i64 L] w fun e w' => ∃ gt ge, e = .returned (.tuple #[.pointer (some ⟨gt, 0, none⟩), .int .i64 0]) ∧ IsTab w' w.heap.size gt ge L (2 ^ L) (tabK l L l.length) ∧ w.heap.size ≤ gt ∧ Below w.heap.size w w' := by
  obtain ⟨h16, hlen, -, -⟩ := check_16 hE
  have C1 := Lib.hid (kCheck_any a c L l w h)
  rw [hE] at C1
  have C2 := Lib.hid (fun k => cCodes a c l (w.drewN k) (IsInts.drewN h k))
  rw [h16] at C2
  have HCL := Lib.hid (codes_len (l := l) h16)
  have HCA := Lib.hid (fun s hs => codes_at (l := l) h16 (s := s) hs)
  have HLI := Lib.hid (fun s hs => lenI (l := l) h16 (s := s) hs)
  have HLB := Lib.hid hlen
  have HCB := Lib.hid (fun s hs => ok_c (l := l) h16 (s := s) hs)
  have HT0 := Lib.hid (tabK_zero l L)
  have HTN := Lib.hid (fun k => tabK_len l L k)
  have HTF := Lib.hid (fun k i hk h0 hL hi => fillTo_tab (l := l) h16 (L := L) (k := k) (i := i) hk h0 hL hi)
  have HTS := Lib.hid (fun k hk h0 => tab_skip (l := l) h16 (L := L) (k := k) hk h0)
  have hN0 : 0 < 2 ^ L := Nat.pow_pos (by decide)
  have hN1 : 2 ^ L ≤ 2 ^ 15 := Nat.pow_le_pow_right (by decide) hL
  have hll : l.length ≤ 1024 := ((check_ok l L).1 hE).2.2.1
  have HW := Lib.hid (show wrap64 ((2 : Int) ^ L) = ((2 ^ L : Nat) : Int) by
    have e1 : (2 : Int) ^ L = ((2 ^ L : Nat) : Int) := by simp
    rw [e1]; unfold wrap64; generalize 2 ^ L = q at *; omega)
  have hd1 : decide ((L : Int) < 1) = false := by simp; omega
  have hd2 : decide ((15 : Int) < (L : Int)) = false := by simp; omega
  have HI := Lib.hid h
  clear h hE h16 hlen
  go_enter Try.func53, Try.ntmps53
  go_wp2_with fail
  refine C1.out.mono ?_; rintro e w1 ⟨rfl, k, rfl⟩
  go_wp2_with fail
  refine (C2.out k).mono ?_; rintro e w1 ⟨v1, rfl, hI1, hb1⟩
  obtain ⟨cc, cd, rfl, hI1⟩ := hI1
  rw [HCL.out]
  have HC := Lib.hid hI1
  have HB := Lib.hid (show Below w.heap.size w w1 from (below_dn (Below.refl w.heap.size w) k).trans hb1)
  clear hI1 hb1 C1 C2
  go_wp2_with (refine make_full (f := fE) info_entry (by decide) Try.underlying109 (0, 0) rfl flatE (by decide) rfl _ _ rfl .i64 .i64 _ _ (2 ^ L) rfl rfl HW.out HW.out (by omega) ?_; intro w3 hown3 hb3 hz3)
  obtain ⟨N, hN⟩ : ∃ N, 2 ^ L = N := ⟨_, rfl⟩
  rw [hN] at hown3 hN0 hN1 HTN HTF HT0 ⊢
  have HN := Lib.hid hN
  rw [← HT0.out] at hown3
  obtain ⟨gt, hgt⟩ : ∃ gt, w3.heap.size = gt := ⟨_, rfl⟩
  have HO := Lib.hid hown3; have HB3 := Lib.hid hb3
  clear hown3 hb3 hN HW HT0
  have HNI := Lib.hid (show (2 : Int) ^ L = (N : Int) by rw [← HN.out]; simp)
  go_wp2_with fail
  have hb3s := HB3.out.size
  obtain ⟨ge, hge⟩ : ∃ ge, w1.heap.size = ge := ⟨_, rfl⟩
  obtain ⟨W, hW⟩ : ∃ W, w3.alloc (.cells #[.slice (some ⟨ge, 0, none⟩) N N, .int .i64 L] 111) = W := ⟨_, rfl⟩
  have HT := Lib.hid (show IsTab W ge gt ge L N (tabK l L 0) by
    rw [← hW, ← hgt]
    refine ⟨heap_alloc_new _ _, ?_⟩
    have := HO.out
    rw [hge] at this
    exact OwnS.kept this ((Below.refl _ _).alloc (Nat.le_refl _) _))
  have HBW := Lib.hid (show Below ge w1 W by
    rw [← hW]
    have := HB3.out
    rw [hge] at this
    exact this.alloc (by omega) _)
  have hgegt : ge ≤ gt := by omega
  have hw1 : w.heap.size ≤ ge := by have := HB.out.size; omega
  have hgeW : Hid (w1.heap.size = ge) := Lib.hid hge
  rw [hgt, hge, hW]
  clear hW hgt hge HO HB3 hb3s hz3
  go_loopw [40] (fun iv wr => ∃ k : Nat, k ≤ l.length ∧ iv = .int .i64 k ∧ Hid (IsTab wr ge gt ge L N (tabK l L k)) ∧ Hid (Below ge w1 wr)) (fun iv _ => l.length - (intOf iv).toNat)
  case atStart => exact ⟨0, Nat.zero_le _, rfl, HT, HBW⟩
  case round =>
    obtain ⟨k, hk, rfl, ht, hb⟩ := hrel
    have hbw1 : Below w1.heap.size w1 wr := hb.out.mono (Nat.le_of_eq hgeW.out)
    by_cases hlt : k < l.length
    · have hgl := (HI.out.kept HB.out).kept hbw1
      have hgc := HC.out.kept hbw1
      obtain ⟨x, rfl, hxb, cx0⟩ := hgl.at k hlt
      have cx := cx0 k hlt
      rw [HLI.out k hlt] at cx
      obtain ⟨y, rfl, hyb, cy0⟩ := hgc.at k (by rw [HCL.out]; exact hlt)
      have cy := cy0 k (by rw [HCL.out]; exact hlt)
      rw [HCA.out k hlt] at cy
      have hLk := HLB.out k hlt
      have hC := HCB.out k hlt
      have HTFk := Lib.hid (fun i h0 hi => HTF.out k i hlt h0 hLk hi)
      have HTSk := Lib.hid (fun h0 => HTS.out k hlt h0)
      have hTN := HTN.out k
      obtain ⟨n, hn⟩ : ∃ n, len l k = n := ⟨_, rfl⟩
      obtain ⟨C, hCe⟩ : ∃ C, code l k = C := ⟨_, rfl⟩
      rw [hn] at cx hLk hC HTFk HTSk
      rw [hCe] at cy hC HTFk
      clear cx0 cy0 hgl hgc hn hCe hbw1
      by_cases hn0 : n = 0
      · have HT2 := Lib.hid (show IsTab wr ge gt ge L N (tabK l L (k + 1)) by rw [HTSk.out hn0]; exact ht.out)
        subst hn0
        go_wp2_with fail
        go_roundw
        case rel => exact ⟨k + 1, by omega, by go_num, HT2, hb⟩
        case measure => simp [intOf]; omega
      · have hC15 : C < 32768 := Nat.lt_of_lt_of_le hC (show 2 ^ n ≤ 2 ^ 15 from Nat.pow_le_pow_right (by decide) (by omega))
        have hnp : (0 : Int) < (n : Int) := by omega
        have CT := Lib.hid (fun W => bTurned (C : Int) n (by omega) W)
        rw [show ((C : Int) % 4294967296).toNat = C by omega] at CT
        have hT := turn_lt C n
        have CF := Lib.hid (fFill wr ge gt ge L N (turn C n) n k (tabK l L k) ht.out hTN (by omega) (by omega) hT)
        obtain ⟨T, hTe⟩ : ∃ T, turn C n = T := ⟨_, rfl⟩
        rw [hTe] at CT CF HTFk
        clear hT hTe hC
        go_wp2_with fail
        refine (CT.out _).mono ?_; rintro e w4 ⟨rfl, rfl⟩
        go_wp2_with fail
        refine CF.out.mono ?_; rintro e w5 ⟨rfl, ⟨i, hi, ht5⟩, hk5⟩
        have HT2 := Lib.hid (show IsTab w5 ge gt ge L N (tabK l L (k + 1)) by rw [← HTFk.out i hn0 hi]; exact ht5)
        have HB2 := Lib.hid (hb.out.trans (hk5.below (B := ge) (fun q hq => ⟨by have := hb.out.size; have := hgeW.out; omega, by show q ≠ ge; omega⟩)))
        clear ht5 hk5
        go_wp2_with fail
        go_roundw
        case rel => exact ⟨k + 1, by omega, by go_num, HT2, HB2⟩
        case measure => simp [intOf]; omega
    · obtain rfl : k = l.length := by omega
      have HTT := Lib.hid (show IsTab wr w.heap.size gt ge L N (tabK l L l.length) from ⟨ht.out.tb, OwnS.base ht.out.row hw1⟩)
      have HBB := Lib.hid (HB.out.trans (hb.out.mono hw1))
      go_wp2_with fail
      go_ret2
      exact ⟨gt, ge, rfl, by rw [HN.out]; exact HTT.out, by omega, HBB.out⟩
end Go.Proofs.Ytopiiickeojpmaa

/- Layers 1 and 2: the document's Bytes, of a row of bools. -/
namespace Go.Proofs.Ytopiiickeojpmaa
open Go.ChangeShapes Go.WideShapes Go.ChangeAt Go.RowKit
set_option linter.unusedVariables false
set_option maxRecDepth 100000
open Bits

def cells8 (l : List UInt8) : List Value := l.map fun b => .int .u8 (b.toNat : Int)
theorem cells8_snoc (l : List UInt8) (b : UInt8) : cells8 l ++ [.int .u8 (b.toNat : Int)] = cells8 (l ++ [b]) := by simp [cells8]
theorem cells8_set (l : List UInt8) (k : Nat) (b : UInt8) : (cells8 l).set k (.int .u8 (b.toNat : Int)) = cells8 (l.set k b) := by unfold cells8; rw [List.map_set]
theorem cells8_len (l : List UInt8) : (cells8 l).length = l.length := by simp [cells8]
theorem conv_own8 {P : Program} {w : World} {base n : Nat} {src dst e : TypeId} {v : Value} {l : List UInt8} (hs : P.underlying src = some (.slice e)) (he : P.underlying e = some (.int .u8)) (hd : P.underlying dst = some .string)
    (h : w.ownsRow base e 1 v n (cells8 l)) : (convert src dst v).run P w = .ok (.string ⟨l.toArray⟩) w := by
  have hl := h.1
  rw [cells8_len, Nat.mul_one] at hl
  rcases h.2 with ⟨rfl, h0⟩ | ⟨g, cap, cur, rfl, -, -, -, -, -, -⟩
  · have : l = [] := List.length_eq_zero_iff.1 (by omega)
    subst this
    rw [run_convert_bytes_string w src dst e none 0 0 hs he hd]
    first | rfl | (simp [Conv.bytesToString, Sem.run_pure, go_sem]; rfl) | simp [Conv.bytesToString, Sem.run_pure, go_sem]
  · subst hl
    exact run_convert_bytes_back (P := P) w src dst e ⟨g, 0, none⟩ cap l hs he hd (fun j hj => h.cells (g := g) rfl j _ (by simp [cells8, hj]))
theorem pack_split (l : List Bool) : ∃ bs r, l = spread bs ++ r ∧ r.length = l.length % 8 ∧ bs.length = l.length / 8 := by
  obtain ⟨k, hk, e, hm⟩ := spread_pack (l.take (8 * (l.length / 8)))
  have ht : (l.take (8 * (l.length / 8))).length = 8 * (l.length / 8) := by rw [List.length_take]; omega
  rw [ht] at hm
  have k0 : k = 0 := by omega
  subst k0
  simp only [List.replicate_zero, List.append_nil] at e
  refine ⟨pack (l.take (8 * (l.length / 8))), l.drop (8 * (l.length / 8)), by rw [e, List.take_append_drop], by rw [List.length_drop]; omega, by rw [pack_length, ht]; omega⟩
/-- The bytes, with a byte for the next bit. -/
def opened (l : List Bool) : List UInt8 := if l.length % 8 = 0 then pack l ++ [0] else pack l
theorem opened_form (l : List Bool) (bs : List UInt8) (r : List Bool) (h : l = spread bs ++ r) (hr : r.length = l.length % 8) : opened l = bs ++ [UInt8.ofNat (wordOf r)] := by
  unfold opened
  split
  · rename_i h0
    have : r = [] := List.length_eq_zero_iff.1 (by omega)
    subst this
    rw [h, List.append_nil]
    have := pack_spread bs []
    rw [List.append_nil, pack_nil, List.append_nil] at this
    rw [this]; rfl
  · rename_i h0
    have hne : r ≠ [] := by rintro rfl; simp at hr; omega
    rw [h, pack_spread, pack_few r hne (by omega)]
theorem opened_next (l : List Bool) (b : Bool) : ∃ W : Nat, W < 2 ^ (l.length % 8) ∧ (opened l).length = l.length / 8 + 1 ∧ ((opened l).getD (l.length / 8) 0).toNat = W ∧
    pack (l ++ [b]) = if b then (opened l).set (l.length / 8) (UInt8.ofNat (W + 2 ^ (l.length % 8))) else opened l := by
  obtain ⟨bs, r, h, hr, hb⟩ := pack_split l
  have ho := opened_form l bs r h hr
  have hw := wordOf_lt r
  rw [hr] at hw
  have h8 : 2 ^ (l.length % 8) ≤ 2 ^ 7 := Nat.pow_le_pow_right (by decide) (by omega)
  refine ⟨wordOf r, hw, by rw [ho]; simp [hb], ?_, ?_⟩
  · rw [ho, ← hb]
    simp [List.getD_eq_getElem?_getD]
    omega
  · have e : pack (l ++ [b]) = bs ++ [UInt8.ofNat (wordOf (r ++ [b]))] := by
      conv => lhs; rw [h]
      rw [List.append_assoc, pack_spread, pack_few (r ++ [b]) (by simp) (by simp; omega)]
    rw [e, ho, wordOf_append, hr]
    cases b
    · simp [wordOf]
    · simp only [wordOf, if_true, Nat.mul_zero, Nat.add_zero, Nat.mul_one]
      rw [← hb]
      simp
theorem or_u8 (x y : Nat) (hx : x < 2 ^ 8) (hy : y < 2 ^ 8) : bits .or .u8 (x : Int) (y : Int) = ((x ||| y : Nat) : Int) :=
  (bits_nat .u8 8 (by decide) (fun n h1 h2 => by first | exact IntWalk.u8_in n (by omega) | (unfold IntKind.wrap; simp; omega)) x y hx hy).2
theorem or_bit (W J : Nat) (hJ : J < 8) (hW : W < 2 ^ J) : bits .or .u8 (W : Int) (IntKind.u8.wrap (2 ^ J)) = (((UInt8.ofNat (W + 2 ^ J)).toNat : Nat) : Int) := by
  have hp : 2 ^ J ≤ 2 ^ 7 := Nat.pow_le_pow_right (by decide) (by omega)
  have e1 : (2 : Int) ^ J = ((2 ^ J : Nat) : Int) := by simp
  have e2 : IntKind.u8.wrap ((2 ^ J : Nat) : Int) = ((2 ^ J : Nat) : Int) := by first | exact IntWalk.u8_in _ (by omega) | (unfold IntKind.wrap; simp; omega)
  rw [e1, e2, or_u8 W (2 ^ J) (by omega) (by omega)]
  have h := Nat.two_pow_add_eq_or_of_lt hW 1
  rw [Nat.mul_one] at h
  rw [show W ||| 2 ^ J = W + 2 ^ J by rw [Nat.or_comm, ← h]; omega]
  simp; omega
end Go.Proofs.Ytopiiickeojpmaa

/- Layer 1, the document's: Put, Align, Bytes. -/
namespace Go.Proofs.Ytopiiickeojpmaa
open Go.ChangeShapes Go.WideShapes Go.ChangeAt Go.RowKit
set_option linter.unusedVariables false
set_option maxRecDepth 100000
open Bits
def bitAt (x i : Nat) : Bool := x / 2 ^ i % 2 == 1
theorem bitsOf_snoc (x i : Nat) : bitsOf x i ++ [bitAt x i] = bitsOf x (i + 1) := by rw [bitsOf_add]; simp [bitsOf, bitAt]
theorem bit_and (x i : Nat) (hx : x < 2 ^ 64) : bits .and .u64 ((x : Int) / 2 ^ i) 1 = ((x / 2 ^ i % 2 : Nat) : Int) := by
  have e3 : (x : Int) / 2 ^ i = ((x / 2 ^ i : Nat) : Int) := by simp
  have := and_u64 (x / 2 ^ i) 1 (Nat.lt_of_le_of_lt (Nat.div_le_self _ _) hx) (by decide)
  rw [Nat.and_one_is_mod] at this
  rw [e3]; exact this
theorem dBit (x i : Nat) (hx : x < 2 ^ 64) (hi : i ≤ 60) (w : World) : Calls Try.prog 48 #[.int .u64 x, .int .i64 i] w fun e w' => e = .returned (.bool (bitAt x i)) ∧ w' = w := by
  have HB := Lib.hid (bit_and x i hx)
  obtain ⟨V, hV⟩ : ∃ V, x / 2 ^ i % 2 = V := ⟨_, rfl⟩
  have hb : bitAt x i = (V == 1) := by unfold bitAt; rw [hV]
  rw [hb]
  have hV2 : V = 0 ∨ V = 1 := by omega
  have hb2 := HB.out
  rw [hV] at hb2
  clear HB hV hb hx
  rcases hV2 with rfl | rfl
  · have hb3 : bits .and .u64 ((x : Int) / 2 ^ i) 1 = 0 := hb2
    clear hb2
    go_enter Try.func48, Try.ntmps48
    go_wp2
    go_ret
    exact ⟨rfl, rfl⟩
  · have hb3 : bits .and .u64 ((x : Int) / 2 ^ i) 1 = 1 := hb2
    clear hb2
    go_enter Try.func48, Try.ntmps48
    go_wp2
    go_ret
    exact ⟨rfl, rfl⟩

theorem info_u8 : (Try.prog.info? 5).map (fun i => (i.zero, i.size, i.bytes)) = some (some (.int .u8 0), 1, 1) := by kernel_rfl
theorem u8_new1 (w : World) (x : Int) (t g : Nat) (hg : g = w.heap.size) : ∀ j u, [Value.int .u8 x][j]? = some u → (w.alloc (.cells #[.int .u8 x] t)).cell? ((⟨g, 0, none⟩ : Addr).add j) = some u := cell_new1 w _ t g hg
theorem u8_one (x : Int) : ∀ u ∈ [Value.int .u8 x], u.oneCell' = true := by intro u hu; simp at hu; subst hu; rfl
set_option maxHeartbeats 1600000 in
theorem dPut (B : Nat) (v : Value) (x n : Nat) (bs : List Bool) (w : World) (hown : OwnB B w v bs) (hb0 : B ≤ w.heap.size) (hl : bs.length ≤ 1000000) (hn : n ≤ 56) (hx : x < 2 ^ n) :
    Calls Try.prog 33 #[v, .int .u64 x, .int .i64 n] w fun e w' => ∃ v', e = .returned (.tuple #[v', .int .i64 0]) ∧ OwnB B w' v' (bs ++ bitsOf x n) ∧ Row1 w v w' v' := by
  have hx64 : x < 2 ^ 64 := Nat.lt_of_lt_of_le hx (Nat.pow_le_pow_right (by decide) (by omega))
  have hz : (x : Int) / 2 ^ n = 0 := by
    have : (x : Int) / 2 ^ n = ((x / 2 ^ n : Nat) : Int) := by simp
    rw [this, Nat.div_eq_of_lt hx]; rfl
  have C := Lib.hid (fun i (hi : i ≤ 60) w => dBit x i hx64 hi w)
  clear hx hx64
  have hown_ := Lib.hid hown
  clear hown
  go_enter Try.func33, Try.ntmps33
  go_wp2
  clear hz
  go_loopw [0, 8] (fun u i wr => ∃ k : Nat, k ≤ n ∧ i = .int .i64 k ∧ OwnB B wr u (bs ++ bitsOf x k) ∧ Row1 w v wr u) (fun _ i _ => n - (intOf i).toNat)
  case atStart => exact ⟨0, Nat.zero_le _, rfl, by simpa [bitsOf] using hown_.out, Row1.refl _ _⟩
  case round =>
    obtain ⟨k, hk, rfl, hown, hr⟩ := hrel
    have hbs := Nat.le_trans hb0 hr.1.size
    by_cases hlt : k < n
    · have HS := Lib.hid (show bs ++ bitsOf x k ++ [bitAt x k] = bs ++ bitsOf x (k + 1) by rw [List.append_assoc, bitsOf_snoc])
      have CC := Lib.hid (fun w => C.out k (by omega) w)
      have HL := Lib.hid (show (bs ++ bitsOf x k).length ≤ 1099511627776 by rw [List.length_append, bitsOf_length]; omega)
      have HB := Lib.hid hbs
      obtain ⟨BT, hBT⟩ : ∃ BT, bitAt x k = BT := ⟨_, rfl⟩
      rw [hBT] at HS CC
      clear hBT
      have hown_ := Lib.hid hown
      have hr_ := Lib.hid hr
      clear hown hr
      go_wp2_with fail
      refine (CC.out _).mono ?_; rintro e w1 ⟨rfl, rfl⟩
      go_wp2_with (at_builtin; refine app_bool1 rfl _ _ rfl _ _ _ _ BT rfl hown_.out _ 1 rfl rfl HL.out HB.out ?_; intro v2 w2 hown2 hr2)
      rw [HS.out] at hown2
      have HR := Lib.hid (hr_.out.trans hr2)
      have hown2_ := Lib.hid hown2
      clear hown2
      clear hr2
      go_wp2
      go_roundw
      case rel => exact ⟨k + 1, by omega, by go_num, hown2_.out, HR.out⟩
      case measure => simp [intOf]; omega
    · obtain rfl : k = n := by omega
      have hown_ := Lib.hid hown
      have hr_ := Lib.hid hr
      clear hown hr
      go_wp2
      go_ret2
      exact ⟨_, rfl, hown_.out, hr_.out⟩
theorem dPut_out (v : Value) (x n : Int) (h : n < 0 ∨ 56 < n) (w : World) :
    Calls Try.prog 33 #[v, .int .u64 x, .int .i64 n] w fun e w' => e = .returned (.tuple #[v, .int .i64 2]) ∧ ∃ k, w' = w.drewN k := by
  by_cases h1 : n < 0
  · go_enter Try.func33, Try.ntmps33
    go_wp2
    go_ret2
    exact ⟨rfl, 0, rfl⟩
  · have h2 : 56 < n := by omega
    have e1 : decide (n < 0) = false := by simp; omega
    go_enter Try.func33, Try.ntmps33
    go_wp2
    go_ret2
    exact ⟨rfl, 0, rfl⟩
theorem dPut_great (v : Value) (x n : Nat) (hn : n ≤ 56) (hx : 2 ^ n ≤ x) (w : World) :
    Calls Try.prog 33 #[v, .int .u64 x, .int .i64 n] w fun e w' => e = .returned (.tuple #[v, .int .i64 2]) ∧ ∃ k, w' = w.drewN k := by
  have hz : ((x : Int) / 2 ^ n != 0) = true := by
    have : (x : Int) / 2 ^ n = ((x / 2 ^ n : Nat) : Int) := by simp
    have h1 : 1 ≤ x / 2 ^ n := (Nat.le_div_iff_mul_le (Nat.pow_pos (by decide))).2 (by omega)
    rw [this, bne_iff_ne]; omega
  clear hx
  go_enter Try.func33, Try.ntmps33
  go_wp2
  go_ret2
  exact ⟨rfl, 0, rfl⟩
theorem own_len8 {w : World} {base n : Nat} {e : TypeId} {v : Value} {l : List UInt8} (h : w.ownsRow base e 1 v n (cells8 l)) : n = l.length := by have := h.1; rw [cells8_len] at this; omega
theorem cell8 {w : World} {base : Nat} {e : TypeId} {g n cap : Nat} {l : List UInt8} (h : w.ownsRow base e 1 (.slice (some ⟨g, 0, none⟩) n cap) n (cells8 l)) (k : Nat) (hk : k < l.length) (W : Nat) (hW : (l.getD k 0).toNat = W) : w.cell? ⟨g, k, none⟩ = some (.int .u8 (W : Int)) := by
  have hn := own_len8 h
  rw [h.cellAt k (by omega)]
  unfold cells8
  subst hW
  simp [List.getD_eq_getElem?_getD, hk]
theorem or_bit2 (W J : Nat) (hJ : J < 8) (hW : W < 2 ^ J) (z : Int) (hz : z = 2 ^ J % 256) : bits .or .u8 (W : Int) z = (((UInt8.ofNat (W + 2 ^ J)).toNat : Nat) : Int) := by
  subst hz
  rw [← or_bit W J hJ hW]
  have hp : 2 ^ J ≤ 2 ^ 7 := Nat.pow_le_pow_right (by decide) (by omega)
  have e1 : (2 : Int) ^ J = ((2 ^ J : Nat) : Int) := by simp
  have e2 : IntKind.u8.wrap ((2 ^ J : Nat) : Int) = ((2 ^ J : Nat) : Int) := by first | exact IntWalk.u8_in _ (by omega) | (unfold IntKind.wrap; simp; omega)
  rw [e1, e2]
  congr 1 <;> omega
set_option maxHeartbeats 3200000 in
theorem dBytes (a : Option Addr) (c : Nat) (l : List Bool) (w : World) (h : IsBoo w a l) (hl : l.length ≤ 100000) :
    Calls Try.prog 15 #[.slice a l.length c] w fun e w' => e = .returned (.string ⟨(pack l).toArray⟩) ∧ Below w.heap.size w w' := by
  obtain ⟨i0, hi, hz0, hz1, hz2⟩ := info_get info_u8
  have HI := Lib.hid h
  clear h
  go_enter Try.func15, Try.ntmps15
  go_wp2
  go_loopw [3, 4] (fun u i wr => ∃ k : Nat, k ≤ l.length ∧ i = .int .i64 k ∧ wr.ownsRow w.heap.size 5 1 u (pack (l.take k)).length (cells8 (pack (l.take k))) ∧ Below w.heap.size w wr) (fun _ i _ => l.length - (intOf i).toNat)
  case atStart => exact ⟨0, Nat.zero_le _, rfl, World.ownsRow_nil _ _ _ _, Below.refl _ _⟩
  case round =>
    obtain ⟨k, hk, rfl, hown, hb⟩ := hrel
    have hbs := hb.size
    by_cases hlt : k < l.length
    · obtain ⟨x, rfl, hxb, cx0⟩ := HI.out.at k hlt
      have htl : (l.take k).length = k := by rw [List.length_take]; omega
      obtain ⟨W, hWlt, hOl, hW, hpk⟩ := opened_next (l.take k) (l.getD k false)
      rw [htl] at hWlt hOl hW hpk
      have hpl := pack_length (l.take k)
      rw [htl] at hpl
      have hop : opened (l.take k) = if k % 8 = 0 then pack (l.take k) ++ [0] else pack (l.take k) := by unfold opened; rw [htl]
      obtain ⟨B, hBB⟩ : ∃ B, l.getD k false = B := ⟨_, rfl⟩
      rw [hBB] at cx0 hpk
      have HT := Lib.hid (takeB l k hlt)
      rw [hBB] at HT
      obtain ⟨O, hO⟩ : ∃ O, opened (l.take k) = O := ⟨_, rfl⟩
      rw [hO] at hOl hW hpk hop
      obtain ⟨J, hJ⟩ : ∃ J, k % 8 = J := ⟨_, rfl⟩
      rw [hJ] at hWlt hpk hop
      have HPK := Lib.hid (show pack (l.take (k + 1)) = if B then O.set (k / 8) (UInt8.ofNat (W + 2 ^ J)) else O by rw [HT.out]; exact hpk)
      have hJ8 : J < 8 := by omega
      have hJi : (k : Int) % 8 = (J : Int) := by omega
      clear hpk hBB hO htl
      by_cases hJ0 : J = 0
      · subst hJ0
        rw [if_pos rfl] at hop
        have HOP := Lib.hid hop
        have HPL := Lib.hid hpl
        have hpb : (pack (l.take k)).length ≤ 100000 := by omega
        clear hop hpl hJ
        go_wp2_with (at_builtin; refine wpList_append_at _ rfl (.tmp 14) (.tmp 15) 47 rfl w.heap.size 5 i0 (.int .u8 0) 1 Try.underlying47 hi hz0 hz1 hz2 rfl _ _ _ rfl (hown.alloc _) ⟨wr.heap.size, 0, none⟩ 1 1 [Value.int .u8 0] rfl rfl ?d1 ?d2 ?d3 ?d4 ?d5 ?d6 ?_)
        case d1 => exact u8_new1 _ _ _ _ rfl
        case d2 => exact u8_one _
        case d3 => unfold maxLen; omega
        case d4 => omega
        case d5 => simp; omega
        case d6 => decide
        intro g cap w1 hown1 hgrow hk1
        have hb1 : Below w.heap.size w w1 := (hb.alloc (by omega) _).grown hgrow (by simp; omega) (fun k hk => (hown.lt k hk).1)
        have e8 := cells8_snoc (pack (l.take k)) 0
        rw [← HOP.out] at e8
        have hown1 : w1.ownsRow w.heap.size 5 1 (.slice (some ⟨g, 0, none⟩) ((pack (l.take k)).length + 1) cap) ((pack (l.take k)).length + 1) (cells8 O) := by rw [← e8]; exact hown1
        obtain ⟨nn, hnn0⟩ : ∃ nn, (pack (l.take k)).length + 1 = nn := ⟨_, rfl⟩
        rw [hnn0] at hown1 ⊢
        have hnn2 : nn = k / 8 + 1 := by have := own_len8 hown1; omega
        clear hgrow hk1 hown hb e8 hnn0
        have hnn := own_len8 hown1
        have cx : w1.cell? (x.add k) = some (.bool B) := by rw [hb1.cell (by rw [add_block]; exact hxb)]; exact cx0
        rcases hB : B with _ | _
        · rw [hB] at cx
          have HO := Lib.hid hown1
          have HP := Lib.hid (show pack (l.take (k + 1)) = O from HPK.out.trans (by rw [hB]; rfl))
          clear hown1 cx0
          go_wp2_with fail
          go_roundw
          case rel => exact ⟨k + 1, by omega, by go_num, by rw [HP.out]; have e := own_len8 HO.out; rw [← e]; exact HO.out, hb1⟩
          case measure => simp [intOf]; omega
        · rw [hB] at cx
          have cb := cell8 hown1 (k / 8) (by rw [hOl]; omega) W hW
          have fb := hown1.frozenAt (k / 8)
          have HO := Lib.hid hown1
          have HP := Lib.hid (show pack (l.take (k + 1)) = O.set (k / 8) (UInt8.ofNat (W + 2 ^ 0)) from HPK.out.trans (by rw [hB]; rfl))
          have hor : bits .or .u8 (W : Int) (1) = (((UInt8.ofNat (W + 2 ^ 0)).toNat : Nat) : Int) := or_bit2 W 0 hJ8 hWlt _ (by first | rfl | (simp; done))
          obtain ⟨Z, hZ⟩ : ∃ Z, UInt8.ofNat (W + 2 ^ 0) = Z := ⟨_, rfl⟩
          rw [hZ] at HP hor
          clear hown1 cx0 hZ hWlt hW
          go_wp2_with fail
          go_roundw
          case rel => exact ⟨k + 1, by omega, by go_num, by
            have e := (HO.out.stored (k / 8) (.int .u8 (Z.toNat : Int))).1
            rw [cells8_set, ← HP.out] at e
            have e2 := own_len8 e
            rw [← e2]; exact e, hb1.setCell (by have := (HO.out.lt _ rfl).1; simpa using this) _⟩
          case measure => simp [intOf]; omega
      · rw [if_neg hJ0] at hop
        have hne : ((J : Int) == 0) = false := by rw [beq_eq_false_iff_ne]; omega
        obtain ⟨nn, hnn0⟩ : ∃ nn, (pack (l.take k)).length = nn := ⟨_, rfl⟩
        rw [← hop] at hown hnn0
        rw [hnn0] at hown
        rcases hown.2 with ⟨-, h0⟩ | ⟨g, cap, cur, rfl, -⟩
        · exfalso; omega
        have hown1 := hown
        have hb1 := hb
        have hnn2 : nn = k / 8 + 1 := by have := own_len8 hown1; omega
        clear hown hb hop hpl hJ hnn0
        have hnn := own_len8 hown1
        have cx : wr.cell? (x.add k) = some (.bool B) := by rw [hb1.cell (by rw [add_block]; exact hxb)]; exact cx0
        rcases hB : B with _ | _
        · rw [hB] at cx
          have HO := Lib.hid hown1
          have HP := Lib.hid (show pack (l.take (k + 1)) = O from HPK.out.trans (by rw [hB]; rfl))
          clear hown1 cx0
          go_wp2_with fail
          go_roundw
          case rel => exact ⟨k + 1, by omega, by go_num, by rw [HP.out]; have e := own_len8 HO.out; rw [← e]; exact HO.out, hb1⟩
          case measure => simp [intOf]; omega
        · rw [hB] at cx
          have cb := cell8 hown1 (k / 8) (by rw [hOl]; omega) W hW
          have fb := hown1.frozenAt (k / 8)
          have HO := Lib.hid hown1
          have HP := Lib.hid (show pack (l.take (k + 1)) = O.set (k / 8) (UInt8.ofNat (W + 2 ^ J)) from HPK.out.trans (by rw [hB]; rfl))
          have hor : bits .or .u8 (W : Int) (2 ^ J % 256) = (((UInt8.ofNat (W + 2 ^ J)).toNat : Nat) : Int) := or_bit2 W J hJ8 hWlt _ (by first | rfl | (simp; done))
          obtain ⟨Z, hZ⟩ : ∃ Z, UInt8.ofNat (W + 2 ^ J) = Z := ⟨_, rfl⟩
          rw [hZ] at HP hor
          clear hown1 cx0 hZ hWlt hW
          go_wp2_with fail
          go_roundw
          case rel => exact ⟨k + 1, by omega, by go_num, by
            have e := (HO.out.stored (k / 8) (.int .u8 (Z.toNat : Int))).1
            rw [cells8_set, ← HP.out] at e
            have e2 := own_len8 e
            rw [← e2]; exact e, hb1.setCell (by have := (HO.out.lt _ rfl).1; simpa using this) _⟩
          case measure => simp [intOf]; omega
    · have hkl : l.take k = l := List.take_of_length_le (by omega)
      rw [hkl] at hown
      have hcv := conv_own8 (P := Try.prog) (src := 47) (dst := 9) Try.underlying47 Try.underlying5 Try.underlying9 hown
      clear hkl
      go_wp2
      go_ret
      exact ⟨rfl, hb⟩
end Go.Proofs.Ytopiiickeojpmaa
