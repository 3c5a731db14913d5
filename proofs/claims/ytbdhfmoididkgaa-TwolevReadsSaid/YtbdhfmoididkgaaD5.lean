/- Layers 1 and 2: what layer 10 needs of them. -/
import Derived.Test.YtbdhfmoididkgaaD1
import Derived.Test.YtbdhfmoididkgaaBs
namespace Go.Proofs.Ytbdhfmoididkgaa
open Go.ChangeShapes Go.WideShapes Go.ChangeAt Go.RowKit
set_option linter.unusedVariables false
set_option maxRecDepth 100000
open Bits
theorem spread_next (s : List UInt8) (i k : Nat) (hi : i < s.length) (hk : k < 8) :
    (spread s).take (8 * i + k) ++ [bitAt (s.getD i 0).toNat k] = (spread s).take (8 * i + (k + 1)) := by
  have hl : 8 * i + k < (spread s).length := by rw [spread_length]; omega
  rw [show 8 * i + (k + 1) = 8 * i + k + 1 from by omega, List.take_succ_eq_append_getElem hl]
  congr 2
  have h1 : (spread s).drop (8 * i) = spread (s.drop i) := by rw [spread_drop]
  have h2 : s.drop i = s.getD i 0 :: s.drop (i + 1) := by rw [List.drop_eq_getElem_cons hi]; simp [List.getD_eq_getElem?_getD, hi]
  rw [h2] at h1
  have h3 : (spread s)[8 * i + k]'hl = ((spread s).drop (8 * i))[k]'(by rw [List.length_drop]; omega) := by rw [List.getElem_drop]
  rw [h3]
  have h4 : ((spread s).drop (8 * i))[k]? = (bitsOf (s.getD i 0).toNat 8)[k]? := by
    rw [h1]; show (bitsOf (s.getD i 0).toNat 8 ++ spread (s.drop (i + 1)))[k]? = _
    rw [List.getElem?_append_left (by rw [bitsOf_length]; omega)]
  have h5 : (bitsOf (s.getD i 0).toNat 8)[k]? = some (bitAt (s.getD i 0).toNat k) := by
    obtain ⟨m, hm⟩ : ∃ m, 8 = k + 1 + m := ⟨8 - (k + 1), by omega⟩
    rw [hm, bitsOf_add, ← bitsOf_snoc, List.getElem?_append_left (by simp [bitsOf_length]), List.getElem?_append_right (by simp [bitsOf_length])]
    simp [bitsOf_length]
  rw [h5, List.getElem?_eq_some_iff] at h4
  obtain ⟨_, h4⟩ := h4
  exact h4.symm
theorem byte_of (s : ByteArray) (i : Nat) (hi : i < s.size) : s.data.toList.getD i 0 = s[i] := by
  have h' : i < s.data.size := hi
  simp only [List.getD_eq_getElem?_getD, Array.getElem?_toList, Array.getElem?_eq_getElem h', Option.getD_some]; rfl
set_option maxHeartbeats 1600000 in
theorem dBits (s : ByteArray) (hs : s.size ≤ 10000) (w : World) :
    Calls Try.prog 20 #[.string s] w fun e w' => ∃ v, e = .returned v ∧ OwnB w.heap.size w' v (spread s.data.toList) ∧ Below w.heap.size w w' := by
  have hsl : s.data.toList.length = s.size := by simp
  obtain ⟨L, hL⟩ : ∃ L, s.data.toList = L := ⟨_, rfl⟩
  have hg := Lib.hid (fun i hi => byte_of s i hi)
  rw [hL] at hsl hg ⊢
  clear hL
  have hbt := Lib.hid (fun x i hx hi w => dBit x i hx hi w)
  go_enter Try.func20, Try.ntmps20
  go_wp2
  go_loopw [3, 4] (fun u i wr => ∃ k : Nat, k ≤ s.size ∧ i = .int .i64 k ∧ OwnB w.heap.size wr u ((spread L).take (8 * k)) ∧ Below w.heap.size w wr) (fun _ i _ => s.size - (intOf i).toNat)
  case atStart => exact ⟨0, Nat.zero_le _, rfl, by simpa using OwnS.nil, Below.refl _ _⟩
  case round =>
    obtain ⟨i, hi, rfl, hown, hb⟩ := hrel
    by_cases hit : i < s.size
    · have hbyte := hg.out i hit
      have hb256 : (L.getD i 0).toNat < 256 := (L.getD i 0).toNat_lt
      have hnx := Lib.hid (fun k hk => spread_next L i k (by omega) hk)
      obtain ⟨Z, hZ⟩ : ∃ Z, L.getD i 0 = Z := ⟨_, rfl⟩
      rw [hZ] at hbyte hb256 hnx
      clear hZ
      have hown_ := Lib.hid hown
      have hb_ := Lib.hid hb
      clear hown hb
      go_wp2_with fail
      obtain ⟨wo, rfl⟩ : ∃ wo : World, wo = wr := ⟨_, rfl⟩
      go_loopw [3, 5] (fun u k wr => ∃ j : Nat, j ≤ 8 ∧ k = .int .i64 j ∧ OwnB w.heap.size wr u ((spread L).take (8 * i + j)) ∧ Below w.heap.size w wr) (fun _ k _ => 8 - (intOf k).toNat)
      case atStart => exact ⟨0, by omega, rfl, hown_.out, hb_.out⟩
      case round =>
        clear hown_ hb_
        obtain ⟨j, hj, rfl, hown, hb⟩ := hrel
        have hbs := hb.size
        by_cases hjt : j < 8
        · have HN := Lib.hid (hnx.out j hjt)
          have CB := Lib.hid (fun w => hbt.out Z.toNat j (by omega) (by omega) w)
          obtain ⟨BT, hBT⟩ : ∃ BT, bitAt Z.toNat j = BT := ⟨_, rfl⟩
          rw [hBT] at HN CB
          clear hBT
          have HLn := Lib.hid (show ((spread L).take (8 * i + j)).length ≤ 1099511627776 by rw [List.length_take, spread_length]; omega)
          have HBs := Lib.hid hbs
          have hown_ := Lib.hid hown
          have hb_ := Lib.hid hb
          clear hown hb
          go_wp2_with fail
          rw [← hbyte, wrap_u64_nat _ (by omega)]
          refine (CB.out _).mono ?_; rintro e w1 ⟨rfl, rfl⟩
          go_wp2_with (at_builtin; refine app_bool rfl _ _ rfl _ _ _ _ BT rfl hown_.out _ 1 rfl rfl HLn.out HBs.out ?_; intro v2 w2 hown2 hb2 hg2)
          rw [HN.out] at hown2
          have hb3 := hb_.out.trans hb2
          have hown2_ := Lib.hid hown2
          have hb3_ := Lib.hid hb3
          clear hown2 hb3
          clear hb2 hg2
          go_wp2_with fail
          go_roundw
          case rel => exact ⟨j + 1, by omega, by go_num, hown2_.out, hb3_.out⟩
          case measure => simp [intOf]; omega
        · obtain rfl : j = 8 := by omega
          have hown_ := Lib.hid hown
          have hb_ := Lib.hid hb
          clear hown hb
          go_wp2_with fail
          go_roundw
          case rel => exact ⟨i + 1, by omega, by go_num, hown_.out, hb_.out⟩
          case measure => simp [intOf]; omega
    · obtain rfl : i = s.size := by omega
      rw [List.take_of_length_le (by rw [spread_length]; omega)] at hown
      have hown_ := Lib.hid hown
      have hb_ := Lib.hid hb
      clear hown hb
      go_wp2_with fail
      go_ret
      exact ⟨_, rfl, hown_.out, hb_.out⟩
theorem OwnB.boo {B : Nat} {w : World} {v : Value} {l : List Bool} (h : OwnB B w v l) : ∃ a c, v = .slice a l.length c ∧ l.length ≤ c ∧ IsBoo w a l := by
  obtain ⟨a, c, hv, hb⟩ := h.isB
  subst hv
  refine ⟨a, c, rfl, ?_, hb⟩
  rcases h.2 with ⟨e, h0⟩ | ⟨g, cap, cur, e, -, -, hc, -⟩
  · simp only [Value.slice.injEq] at e; omega
  · simp only [Value.slice.injEq] at e; omega
theorem add_add (x : Addr) (t i : Nat) : (x.add t).add i = x.add (t + i) := by
  obtain ⟨b, o, e⟩ := x
  by_cases hi : i = 0 <;> by_cases ht : t = 0 <;> simp [Addr.add, hi, ht, Nat.add_assoc]
theorem IsBoo.drop {w : World} {a : Option Addr} {l : List Bool} (h : IsBoo w a l) (t : Nat) : IsBoo w (a.map (·.add t)) (l.drop t) := by
  by_cases hz : l.drop t = []
  · exact .inl hz
  rcases h with rfl | ⟨x, rfl, hc⟩
  · simp at hz
  · refine .inr ⟨_, rfl, fun i hi => ?_⟩
    rw [List.length_drop] at hi
    rw [add_add x t i, hc (t + i) (by omega)]
    simp [List.getD_eq_getElem?_getD]
theorem IsBoo.alloc {w : World} {a : Option Addr} {l : List Bool} (h : IsBoo w a l) (o : Obj) : IsBoo (w.alloc o) a l := h.kept ((Below.refl _ _).alloc (Nat.le_refl _) o)
theorem dNew2 (s : ByteArray) (hs : s.size ≤ 10000) (w : World) :
    Calls Try.prog 9 #[.string s] w fun e w' => ∃ v, e = .returned (.agg #[v, .int .i64 0]) ∧ OwnB w.heap.size w' v (spread s.data.toList) ∧ Below w.heap.size w w' := by
  have C := Lib.hid (fun w => dBits s hs w)
  go_enter Try.func9, Try.ntmps9
  go_wp2_with fail
  refine (C.out _).mono ?_; rintro e w1 ⟨v, rfl, hown, hb⟩
  obtain ⟨a, c, hv⟩ := hown.slice
  subst hv
  have hg := (Keeps.of_below (S := fun _ => False) hb).heap (heap_alloc_new w _) (fun h => h)
  have c0 := cell_in hg 0
  have c1 := cell_in hg 1
  have f0 := free_in hg 0
  have f1 := free_in hg 1
  simp at c0 c1
  have HO := Lib.hid hown
  have HB := Lib.hid hb
  have HG := Lib.hid hg
  clear hown hb hg
  go_wp2_with fail
  have hh := block_set (block_set HG.out 0 (.slice a (spread s.data.toList).length c)) 1 (.int .i64 0)
  have d0 := cell_in hh 0
  have d1 := cell_in hh 1
  rw [show ((#[Value.slice none 0 0, Value.int .i64 0].setIfInBounds 0 (.slice a (spread s.data.toList).length c)).setIfInBounds 1 (.int .i64 0))[0]? = some (.slice a (spread s.data.toList).length c) from rfl] at d0
  rw [show ((#[Value.slice none 0 0, Value.int .i64 0].setIfInBounds 0 (.slice a (spread s.data.toList).length c)).setIfInBounds 1 (.int .i64 0))[1]? = some (.int .i64 0) from rfl] at d1
  clear hh
  exact bodyPost_ret (v := .agg #[_, _]) (by simp [results, Try.results9, go_sem, d0, d1]) rfl ⟨_, rfl, (((HO.out.setLow (p := ⟨w.heap.size, 0, none⟩) (by simp) _).setLow (p := ⟨w.heap.size, 1, none⟩) (by simp) _).base (by simp)), ((((Below.refl _ _).alloc (Nat.le_refl _) _).trans (HB.out.mono (by simp))).setCell (by simp) _).setCell (by simp) _⟩
def takeS (l : List Bool) (t : Nat) (n : Int) : Nat × Nat × Int :=
  if n < 0 ∨ 56 < n then (t, 0, 2) else if l.length < t + n.toNat then (t, 0, 3) else (t + n.toNat, peek (l.drop t) n.toNat, 0)
theorem IsReader.kept {w w' : World} {g a : Nat} {s : List UInt8} (h : IsReader w g s a) (hb : Below w.heap.size w w') : IsReader w' g s a := by
  obtain ⟨p, L, C, hg, h1, h2, h3, h4, h5, h6⟩ := h
  refine ⟨p, L, C, (Keeps.of_below (S := fun _ => False) hb).heap hg (fun h => h), h1, h2, h3, h4, h5, fun h0 => ?_⟩
  obtain ⟨b, o, e, hne, hlt, hc⟩ := h6 h0
  exact ⟨b, o, e, hne, Nat.lt_of_lt_of_le hlt hb.size, fun j hj => (hb.cell (p := ⟨b, o + j, none⟩) hlt).trans (hc j hj)⟩
theorem IsReader.alloc {w : World} {g a : Nat} {s : List UInt8} (h : IsReader w g s a) (o : Obj) : IsReader (w.alloc o) g s a := h.kept ((Below.refl _ _).alloc (Nat.le_refl _) o)
theorem IsReader.lt {w : World} {g a : Nat} {s : List UInt8} (h : IsReader w g s a) : g < w.heap.size := by obtain ⟨p, L, C, hg, -⟩ := h; exact block_lt hg
theorem IsReader.le {w : World} {g a : Nat} {s : List UInt8} (h : IsReader w g s a) : a ≤ (spread s).length := by obtain ⟨p, L, C, hg, h1, -⟩ := h; rw [spread_length]; exact h1
theorem rSkipU (w : World) (g t : Nat) (s : List UInt8) (n : Int) (h : IsReader w g s t) (t' W : Nat) (E : Int) (hS : takeS (spread s) t n = (t', W, E)) :
    Calls Try.prog 27 #[.pointer (some ⟨g, 0, none⟩), .int .i64 n] w fun e w' => e = .returned (.int .i64 E) ∧ IsReader w' g s t' ∧ Keeps (fun k => k = g) w w' := by
  unfold takeS at hS
  by_cases h1 : n < 0 ∨ 56 < n
  · rw [if_pos h1] at hS
    obtain ⟨rfl, rfl, rfl⟩ := by simpa using hS
    refine (rSkipOut w _ n 2 ((rMayOut _ n h1 w).mono fun e w' ⟨h1, h2⟩ => ⟨h1, 0, h2⟩) (by decide)).mono ?_
    rintro e w' ⟨rfl, k, rfl⟩
    exact ⟨rfl, h, (Keeps.refl _ _).drewN _⟩
  · rw [if_neg h1] at hS
    obtain ⟨n, rfl⟩ : ∃ m : Nat, n = m := ⟨n.toNat, by omega⟩
    rw [Int.toNat_natCast] at hS
    have hn : n ≤ 56 := by omega
    by_cases h2 : (spread s).length < t + n
    · rw [if_pos h2] at hS
      obtain ⟨rfl, rfl, rfl⟩ := by simpa using hS
      refine (rSkipOut w _ n 3 (rMayShort w g _ n s h hn (by rw [← spread_length]; exact h2)) (by decide)).mono ?_
      rintro e w' ⟨rfl, k, rfl⟩
      exact ⟨rfl, h, (Keeps.refl _ _).drewN _⟩
    · rw [if_neg h2] at hS
      obtain ⟨rfl, rfl, rfl⟩ := by simpa using hS
      refine (rSkipIn w g t n s h hn (by rw [← spread_length]; omega)).mono ?_
      rintro e w' ⟨rfl, hr, hk, -⟩
      exact ⟨rfl, hr, hk⟩
def peekS (l : List Bool) (t : Nat) (n : Int) : Nat := if n < 0 ∨ 56 < n then 0 else peek (l.drop t) n.toNat
theorem rPeekU (w : World) (g t : Nat) (s : List UInt8) (n : Int) (h : IsReader w g s t) (W : Nat) (hS : peekS (spread s) t n = W) :
    Calls Try.prog 25 #[.pointer (some ⟨g, 0, none⟩), .int .i64 n] w fun e w' => e = .returned (.int .u64 W) ∧ Below w.heap.size w w' := by
  unfold peekS at hS
  by_cases h1 : n < 0 ∨ 56 < n
  · rw [if_pos h1] at hS
    subst hS
    exact (rPeekOut _ n (by omega) w).mono (by rintro e w' ⟨rfl, rfl⟩; exact ⟨rfl, Below.refl _ _⟩)
  · rw [if_neg h1] at hS
    obtain ⟨n, rfl⟩ : ∃ m : Nat, n = m := ⟨n.toNat, by omega⟩
    rw [Int.toNat_natCast] at hS
    subst hS
    exact (rPeek w g t n s h (by omega)).mono (by rintro e w' ⟨rfl, k, rfl⟩; exact ⟨rfl, below_dn (Below.refl _ _) _⟩)
end Go.Proofs.Ytbdhfmoididkgaa
