/- Layer 2, the document's: Bits, Word, New, Peek, Take, Align. -/
import Derived.Test.YtplopddlpoffoaaD1
import Derived.Test.YtplopddlpoffoaaBt
namespace Go.Proofs.Ytplopddlpoffoaa
open Go.ChangeShapes Go.WideShapes Go.ChangeAt Go.RowKit
set_option linter.unusedVariables false
set_option maxRecDepth 100000
open Bits
theorem spread_next (s : List UInt8) (i k : Nat) (hi : i < s.length) (hk : k < 8) :
    (spread s).take (8 * i + k) ++ [bitAt (s.getD i 0).toNat k] = (spread s).take (8 * i + (k + 1)) := by
  have hl : 8 * i + k < (spread s).length := by rw [spread_length]; omega
  rw [show 8 * i + (k + 1) = 8 * i + k + 1 from by omega, List.take_succ_eq_append_getElem hl]
  congr 2
  have h1 : (spread s).drop (8 * i) = spread (s.drop i) := by rw [spread_drop]
  have h2 : s.drop i = s.getD i 0 :: s.drop (i + 1) := by rw [List.drop_eq_getElem_cons hi]; simp [List.getD_eq_getElem?_getD, hi]
  rw [h2] at h1
  have h3 : (spread s)[8 * i + k]'hl = ((spread s).drop (8 * i))[k]'(by rw [List.length_drop]; omega) := by rw [List.getElem_drop]
  rw [h3]
  have h4 : ((spread s).drop (8 * i))[k]? = (bitsOf (s.getD i 0).toNat 8)[k]? := by
    rw [h1]; show (bitsOf (s.getD i 0).toNat 8 ++ spread (s.drop (i + 1)))[k]? = _
    rw [List.getElem?_append_left (by rw [bitsOf_length]; omega)]
  have h5 : (bitsOf (s.getD i 0).toNat 8)[k]? = some (bitAt (s.getD i 0).toNat k) := by
    obtain ⟨m, hm⟩ : ∃ m, 8 = k + 1 + m := ⟨8 - (k + 1), by omega⟩
    rw [hm, bitsOf_add, ← bitsOf_snoc, List.getElem?_append_left (by simp [bitsOf_length]), List.getElem?_append_right (by simp [bitsOf_length])]
    simp [bitsOf_length]
  rw [h5, List.getElem?_eq_some_iff] at h4
  obtain ⟨_, h4⟩ := h4
  exact h4.symm
theorem word_next (l : List Bool) (i : Nat) (hi : i < l.length) (h64 : i < 60) : wordOf (l.take (i + 1)) = if l.getD i false then wordOf (l.take i) + 2 ^ i else wordOf (l.take i) := by
  rw [takeB l i hi, wordOf_append, List.length_take, Nat.min_eq_left (by omega)]
  cases l.getD i false <;> simp [wordOf]
theorem or_next (W i : Nat) (hW : W < 2 ^ i) (hi : i < 60) (z : Int) (hz : z = IntKind.u64.wrap (2 ^ i)) : bits .or .u64 (W : Int) z = ((W + 2 ^ i : Nat) : Int) := by
  have hp : 2 ^ i ≤ 2 ^ 60 := Nat.pow_le_pow_right (by decide) (by omega)
  have e1 : (2 : Int) ^ i = ((2 ^ i : Nat) : Int) := by simp
  rw [hz, e1, wrap_u64_nat _ (by omega), or_u64 _ _ (by omega) (by omega)]
  congr 1
  have := Nat.two_pow_add_eq_or_of_lt hW 1
  rw [Nat.mul_one] at this
  rw [Nat.or_comm, ← this]; omega
set_option maxHeartbeats 1600000 in
theorem dWord (a : Option Addr) (c : Nat) (l : List Bool) (n : Nat) (hn : n ≤ 56) (w : World) (h : IsBoo w a l) (hl : l.length ≤ 1000000) :
    Calls Try.prog 62 #[.slice a l.length c, .int .i64 n] w fun e w' => e = .returned (.int .u64 (wordOf (l.take n) : Nat)) ∧ ∃ k, w' = w.drewN k := by
  have HI := Lib.hid h
  clear h
  go_enter Try.func62, Try.ntmps62
  go_wp2
  go_loopw [5, 6] (fun u i wr => ∃ k : Nat, k ≤ n ∧ k ≤ l.length ∧ i = .int .i64 k ∧ u = .int .u64 (wordOf (l.take k) : Nat) ∧ ∃ q, wr = w.drewN q) (fun _ i _ => l.length - (intOf i).toNat)
  case atStart => exact ⟨0, Nat.zero_le _, Nat.zero_le _, rfl, by simp [wordOf], 0, rfl⟩
  case round =>
    obtain ⟨k, hkn, hkl, rfl, rfl, q, rfl⟩ := hrel
    by_cases hlt : k < n ∧ k < l.length
    · obtain ⟨h1, h2⟩ := hlt
      obtain ⟨x, rfl, hxb, cx⟩ := HI.out.at k h2
      have HW := Lib.hid (word_next l k h2 (by omega))
      have hWl := wordOf_lt (l.take k)
      rw [List.length_take, Nat.min_eq_left (by omega)] at hWl
      obtain ⟨W, hW⟩ : ∃ W, wordOf (l.take k) = W := ⟨_, rfl⟩
      rw [hW] at hWl HW
      rw [hW]
      obtain ⟨B, hB⟩ : ∃ B, l.getD k false = B := ⟨_, rfl⟩
      rw [hB] at cx HW
      have HO := Lib.hid (or_next W k hWl (by omega) _ rfl)
      clear hW hB hWl
      rcases B with _ | _
      · go_wp2
        go_roundw
        case rel => exact ⟨k + 1, by omega, by omega, by go_num, by rw [HW.out]; rfl, _, rfl⟩
        case measure => simp [intOf]; omega
      · go_wp2
        go_roundw
        case rel => exact ⟨k + 1, by omega, by omega, by go_num, by rw [HW.out]; simp only [if_true]; rw [← HO.out], _, rfl⟩
        case measure => simp [intOf]; omega
    · have HT := Lib.hid (show l.take k = l.take n by
        by_cases e : k = n
        · rw [e]
        · rw [List.take_of_length_le (by omega), List.take_of_length_le (by omega)])
      by_cases h1 : k < n
      · have h2 : k = l.length := by omega
        have h2' : ¬ k < l.length := by omega
        clear hlt h2
        go_wp2
        go_ret
        exact ⟨by rw [HT.out]; rfl, _, rfl⟩
      · clear hlt
        go_wp2
        go_ret
        exact ⟨by rw [HT.out]; rfl, _, rfl⟩
theorem byte_of (s : ByteArray) (i : Nat) (hi : i < s.size) : s.data.toList.getD i 0 = s[i] := by
  have h' : i < s.data.size := hi
  simp only [List.getD_eq_getElem?_getD, Array.getElem?_toList, Array.getElem?_eq_getElem h', Option.getD_some]; rfl
set_option maxHeartbeats 1600000 in
theorem dBits (s : ByteArray) (hs : s.size ≤ 10000) (w : World) :
    Calls Try.prog 56 #[.string s] w fun e w' => ∃ v, e = .returned v ∧ OwnB w.heap.size w' v (spread s.data.toList) ∧ Below w.heap.size w w' := by
  have hsl : s.data.toList.length = s.size := by simp
  obtain ⟨L, hL⟩ : ∃ L, s.data.toList = L := ⟨_, rfl⟩
  have hg := Lib.hid (fun i hi => byte_of s i hi)
  rw [hL] at hsl hg ⊢
  clear hL
  have hbt := Lib.hid (fun x i hx hi w => dBit x i hx hi w)
  go_enter Try.func56, Try.ntmps56
  go_wp2
  go_loopw [3, 4] (fun u i wr => ∃ k : Nat, k ≤ s.size ∧ i = .int .i64 k ∧ OwnB w.heap.size wr u ((spread L).take (8 * k)) ∧ Below w.heap.size w wr) (fun _ i _ => s.size - (intOf i).toNat)
  case atStart => exact ⟨0, Nat.zero_le _, rfl, by simpa using OwnS.nil, Below.refl _ _⟩
  case round =>
    obtain ⟨i, hi, rfl, hown, hb⟩ := hrel
    by_cases hit : i < s.size
    · have hbyte := hg.out i hit
      have hb256 : (L.getD i 0).toNat < 256 := (L.getD i 0).toNat_lt
      have hnx := Lib.hid (fun k hk => spread_next L i k (by omega) hk)
      obtain ⟨Z, hZ⟩ : ∃ Z, L.getD i 0 = Z := ⟨_, rfl⟩
      rw [hZ] at hbyte hb256 hnx
      clear hZ
      have hown_ := Lib.hid hown
      have hb_ := Lib.hid hb
      clear hown hb
      go_wp2_with fail
      obtain ⟨wo, rfl⟩ : ∃ wo : World, wo = wr := ⟨_, rfl⟩
      go_loopw [3, 5] (fun u k wr => ∃ j : Nat, j ≤ 8 ∧ k = .int .i64 j ∧ OwnB w.heap.size wr u ((spread L).take (8 * i + j)) ∧ Below w.heap.size w wr) (fun _ k _ => 8 - (intOf k).toNat)
      case atStart => exact ⟨0, by omega, rfl, hown_.out, hb_.out⟩
      case round =>
        clear hown_ hb_
        obtain ⟨j, hj, rfl, hown, hb⟩ := hrel
        have hbs := hb.size
        by_cases hjt : j < 8
        · have HN := Lib.hid (hnx.out j hjt)
          have CB := Lib.hid (fun w => hbt.out Z.toNat j (by omega) (by omega) w)
          obtain ⟨BT, hBT⟩ : ∃ BT, bitAt Z.toNat j = BT := ⟨_, rfl⟩
          rw [hBT] at HN CB
          clear hBT
          have HLn := Lib.hid (show ((spread L).take (8 * i + j)).length ≤ 1099511627776 by rw [List.length_take, spread_length]; omega)
          have HBs := Lib.hid hbs
          have hown_ := Lib.hid hown
          have hb_ := Lib.hid hb
          clear hown hb
          go_wp2_with fail
          rw [← hbyte, wrap_u64_nat _ (by omega)]
          refine (CB.out _).mono ?_; rintro e w1 ⟨rfl, rfl⟩
          go_wp2_with (at_builtin; refine app_bool rfl _ _ rfl _ _ _ _ BT rfl hown_.out _ 1 rfl rfl HLn.out HBs.out ?_; intro v2 w2 hown2 hb2 hg2)
          rw [HN.out] at hown2
          have hb3 := hb_.out.trans hb2
          have hown2_ := Lib.hid hown2
          have hb3_ := Lib.hid hb3
          clear hown2 hb3
          clear hb2 hg2
          go_wp2_with fail
          go_roundw
          case rel => exact ⟨j + 1, by omega, by go_num, hown2_.out, hb3_.out⟩
          case measure => simp [intOf]; omega
        · obtain rfl : j = 8 := by omega
          have hown_ := Lib.hid hown
          have hb_ := Lib.hid hb
          clear hown hb
          go_wp2_with fail
          go_roundw
          case rel => exact ⟨i + 1, by omega, by go_num, hown_.out, hb_.out⟩
          case measure => simp [intOf]; omega
    · obtain rfl : i = s.size := by omega
      rw [List.take_of_length_le (by rw [spread_length]; omega)] at hown
      have hown_ := Lib.hid hown
      have hb_ := Lib.hid hb
      clear hown hb
      go_wp2_with fail
      go_ret
      exact ⟨_, rfl, hown_.out, hb_.out⟩
theorem OwnB.boo {B : Nat} {w : World} {v : Value} {l : List Bool} (h : OwnB B w v l) : ∃ a c, v = .slice a l.length c ∧ l.length ≤ c ∧ IsBoo w a l := by
  obtain ⟨a, c, hv, hb⟩ := h.isB
  subst hv
  refine ⟨a, c, rfl, ?_, hb⟩
  rcases h.2 with ⟨e, h0⟩ | ⟨g, cap, cur, e, -, -, hc, -⟩
  · simp only [Value.slice.injEq] at e; omega
  · simp only [Value.slice.injEq] at e; omega
theorem add_add (x : Addr) (t i : Nat) : (x.add t).add i = x.add (t + i) := by
  obtain ⟨b, o, e⟩ := x
  by_cases hi : i = 0 <;> by_cases ht : t = 0 <;> simp [Addr.add, hi, ht, Nat.add_assoc]
theorem IsBoo.drop {w : World} {a : Option Addr} {l : List Bool} (h : IsBoo w a l) (t : Nat) : IsBoo w (a.map (·.add t)) (l.drop t) := by
  by_cases hz : l.drop t = []
  · exact .inl hz
  rcases h with rfl | ⟨x, rfl, hc⟩
  · simp at hz
  · refine .inr ⟨_, rfl, fun i hi => ?_⟩
    rw [List.length_drop] at hi
    rw [add_add x t i, hc (t + i) (by omega)]
    simp [List.getD_eq_getElem?_getD]
theorem IsBoo.alloc {w : World} {a : Option Addr} {l : List Bool} (h : IsBoo w a l) (o : Obj) : IsBoo (w.alloc o) a l := h.kept ((Below.refl _ _).alloc (Nat.le_refl _) o)
theorem dNew2 (s : ByteArray) (hs : s.size ≤ 10000) (w : World) :
    Calls Try.prog 37 #[.string s] w fun e w' => ∃ v, e = .returned (.agg #[v, .int .i64 0]) ∧ OwnB w.heap.size w' v (spread s.data.toList) ∧ Below w.heap.size w w' := by
  have C := Lib.hid (fun w => dBits s hs w)
  go_enter Try.func37, Try.ntmps37
  go_wp2_with fail
  refine (C.out _).mono ?_; rintro e w1 ⟨v, rfl, hown, hb⟩
  obtain ⟨a, c, hv⟩ := hown.slice
  subst hv
  have hg := (Keeps.of_below (S := fun _ => False) hb).heap (heap_alloc_new w _) (fun h => h)
  have c0 := cell_in hg 0
  have c1 := cell_in hg 1
  have f0 := free_in hg 0
  have f1 := free_in hg 1
  simp at c0 c1
  have HO := Lib.hid hown
  have HB := Lib.hid hb
  have HG := Lib.hid hg
  clear hown hb hg
  go_wp2_with fail
  have hh := block_set (block_set HG.out 0 (.slice a (spread s.data.toList).length c)) 1 (.int .i64 0)
  have d0 := cell_in hh 0
  have d1 := cell_in hh 1
  rw [show ((#[Value.slice none 0 0, Value.int .i64 0].setIfInBounds 0 (.slice a (spread s.data.toList).length c)).setIfInBounds 1 (.int .i64 0))[0]? = some (.slice a (spread s.data.toList).length c) from rfl] at d0
  rw [show ((#[Value.slice none 0 0, Value.int .i64 0].setIfInBounds 0 (.slice a (spread s.data.toList).length c)).setIfInBounds 1 (.int .i64 0))[1]? = some (.int .i64 0) from rfl] at d1
  clear hh
  exact bodyPost_ret (v := .agg #[_, _]) (by simp [results, Try.results37, go_sem, d0, d1]) rfl ⟨_, rfl, (((HO.out.setLow (p := ⟨w.heap.size, 0, none⟩) (by simp) _).setLow (p := ⟨w.heap.size, 1, none⟩) (by simp) _).base (by simp)), ((((Below.refl _ _).alloc (Nat.le_refl _) _).trans (HB.out.mono (by simp))).setCell (by simp) _).setCell (by simp) _⟩
set_option maxHeartbeats 1600000 in
theorem dPeek2 (a : Option Addr) (L c : Nat) (l : List Bool) (t n : Nat) (hL : L = l.length) (hc : L ≤ c) (ht : t ≤ l.length) (hn : n ≤ 56) (w : World) (h : IsBoo w a l) (hl : l.length ≤ 1000000) (hcm : c ≤ maxLen) :
    Calls Try.prog 55 #[.agg #[.slice a L c, .int .i64 t], .int .i64 n] w fun e w' => e = .returned (.int .u64 (peek (l.drop t) n : Nat)) ∧ Below w.heap.size w w' := by
  subst hL
  unfold maxLen at hcm
  have HP := Lib.hid (show wordOf ((l.drop t).take n) = peek (l.drop t) n from rfl)
  have HD := Lib.hid (List.length_drop (l := l) (i := t))
  have HB := Lib.hid (h.drop t)
  by_cases hct : c = t
  · have hz : l.drop t = [] := by rw [List.drop_eq_nil_iff]; omega
    have CW := Lib.hid (fun W => dWord a 0 (l.drop t) n hn W (.inl hz) (by rw [hz]; simp))
    rw [show (l.drop t).length = 0 by rw [hz]; rfl, HP.out] at CW
    subst hct
    clear h hz HP HD HB
    go_enter Try.func55, Try.ntmps55
    go_wp2_with fail
    refine (CW.out _).mono ?_; rintro e w1 ⟨rfl, k, rfl⟩
    go_wp2_with fail
    go_ret
    exact ⟨rfl, below_dn ((Below.refl _ _).alloc (Nat.le_refl _) _) _⟩
  · have CW := Lib.hid (fun o => dWord (a.map (·.add t)) (c - t) (l.drop t) n hn (w.alloc o) (HB.out.alloc o) (by rw [List.length_drop]; omega))
    rw [HD.out, HP.out] at CW
    clear h HP HD HB
    go_enter Try.func55, Try.ntmps55
    go_wp2_with fail
    refine (CW.out _).mono ?_; rintro e w1 ⟨rfl, k, rfl⟩
    go_wp2_with fail
    go_ret
    exact ⟨rfl, below_dn ((Below.refl _ _).alloc (Nat.le_refl _) _) _⟩
theorem dTakeOut (a : Option Addr) (L c : Nat) (t : Nat) (n : Int) (hn : n < 0 ∨ 56 < n) (w : World) :
    Calls Try.prog 36 #[.agg #[.slice a L c, .int .i64 t], .int .i64 n] w fun e w' => e = .returned (.tuple #[.agg #[.slice a L c, .int .i64 t], .int .u64 0, .int .i64 2]) ∧ Below w.heap.size w w' := by
  by_cases h1 : n < 0
  · clear hn
    go_enter Try.func36, Try.ntmps36
    go_wp2_with fail
    exact bodyPost_ret (v := .tuple #[.agg #[_, _], _, _]) (by simp [results, Try.results36, go_sem]) rfl ⟨rfl, by go_grown⟩
  · have h2 : 56 < n := by omega
    clear hn
    go_enter Try.func36, Try.ntmps36
    go_wp2_with fail
    exact bodyPost_ret (v := .tuple #[.agg #[_, _], _, _]) (by simp [results, Try.results36, go_sem]) rfl ⟨rfl, by go_grown⟩
theorem dTakeShort (a : Option Addr) (L c : Nat) (t : Nat) (n : Nat) (hn : n ≤ 56) (ht : t ≤ L) (hL : L ≤ 1000000) (hs : L < t + n) (w : World) :
    Calls Try.prog 36 #[.agg #[.slice a L c, .int .i64 t], .int .i64 n] w fun e w' => e = .returned (.tuple #[.agg #[.slice a L c, .int .i64 t], .int .u64 0, .int .i64 3]) ∧ Below w.heap.size w w' := by
  have h1 : (L : Int) - t < n := by omega
  go_enter Try.func36, Try.ntmps36
  go_wp2_with fail
  exact bodyPost_ret (v := .tuple #[.agg #[_, _], _, _]) (by simp [results, Try.results36, go_sem]) rfl ⟨rfl, by go_grown⟩
set_option maxHeartbeats 1600000 in
theorem dTakeIn (a : Option Addr) (L c : Nat) (l : List Bool) (t n : Nat) (hL : L = l.length) (hc : L ≤ c) (ht : t + n ≤ l.length) (hn : n ≤ 56) (w : World) (h : IsBoo w a l) (hl : l.length ≤ 1000000) (hcm : c ≤ maxLen) :
    Calls Try.prog 36 #[.agg #[.slice a L c, .int .i64 t], .int .i64 n] w fun e w' => e = .returned (.tuple #[.agg #[.slice a L c, .int .i64 ((t + n : Nat) : Int)], .int .u64 (peek (l.drop t) n : Nat), .int .i64 0]) ∧ Below w.heap.size w w' := by
  have HI := Lib.hid h
  have CP := Lib.hid (fun W (h : IsBoo W a l) => dPeek2 a L c l t n hL hc (by omega) hn W h hl hcm)
  have h1 : decide ((L : Int) - t < n) = false := by simp; omega
  have hb1 : L ≤ 1000000 := by omega
  have hb2 : t ≤ L := by omega
  obtain ⟨P, hP⟩ : ∃ P, peek (l.drop t) n = P := ⟨_, rfl⟩
  rw [hP] at CP ⊢
  have HTN := Lib.hid (show (t : Int) + n = ((t + n : Nat) : Int) by omega)
  clear h hL hP
  go_enter Try.func36, Try.ntmps36
  go_wp2_with fail
  refine (CP.out _ ((HI.out.alloc _).alloc _)).mono ?_; rintro e w1 ⟨rfl, hb⟩
  have g0 := (Keeps.of_below (S := fun _ => False) hb).heap (heap_two_first _ _ _) (fun h => h)
  have g1 := (Keeps.of_below (S := fun _ => False) hb).heap (heap_two_last _ _ _) (fun h => h)
  have hlt0 := block_lt g1
  have c0 := cell_in g0 0
  have c1 := cell_in g0 1
  have f0 := free_in g0 0
  have f1 := free_in g0 1
  have d0 := cell_in g1 0
  have d1 := cell_in g1 1
  have k0 := free_in g1 0
  have k1 := free_in g1 1
  simp only [List.getElem?_toArray, List.getElem?_cons_zero, List.getElem?_cons_succ] at c0 c1 d0 d1
  have HB := Lib.hid (((Below.refl _ w).alloc (Nat.le_refl _) _).alloc (by simp) _ |>.trans (hb.mono (by simp; omega)))
  have HG0 := Lib.hid g0
  have HG1 := Lib.hid g1
  clear hb g0 g1
  go_wp2_with fail
  have hh := block_set (block_set (w := w1.setCell ⟨w.heap.size, 1, none⟩ (.int .i64 ((t : Int) + n))) ((Below.heap_setCell _ _ _ _ (by simp)).trans HG1.out) 0 (.slice a L c)) 1 (.int .i64 ((t : Int) + n))
  have e0 := cell_in hh 0
  have e1 := cell_in hh 1
  rw [show ((#[Value.slice none 0 0, Value.int .i64 0].setIfInBounds 0 (.slice a L c)).setIfInBounds 1 (.int .i64 ((t : Int) + n)))[0]? = some (.slice a L c) from rfl] at e0
  rw [show ((#[Value.slice none 0 0, Value.int .i64 0].setIfInBounds 0 (.slice a L c)).setIfInBounds 1 (.int .i64 ((t : Int) + n)))[1]? = some (.int .i64 ((t : Int) + n)) from rfl] at e1
  clear hh
  exact bodyPost_ret (v := .tuple #[.agg #[.slice a L c, .int .i64 ((t : Int) + n)], .int .u64 P, .int .i64 0]) (by simp [results, Try.results36, go_sem, e0, e1]) rfl ⟨by rw [HTN.out], ((HB.out.setCell (by simp) _).setCell (by simp) _).setCell (by simp) _⟩
end Go.Proofs.Ytplopddlpoffoaa
