import Derived.Test.YtipcdkemokkdfaaGreatK01
import Derived.Test.YtipcdkemokkdfaaGreatK15
import Derived.IntWalk
import Derived.Test.YtipcdkemokkdfaaGreatK14
/- Layer 6: contracts. -/
namespace Go.Proofs.YtipcdkemokkdfaaGreat
open Go.ChangeShapes Go.WideShapes Go.ChangeAt Go.RowKit
set_option linter.unusedVariables false
set_option maxRecDepth 100000
open KraftMath

/-- A slice of numbers that can be read. -/
theorem take_succ_getD (l : List Int) (k : Nat) (h : k < l.length) : l.take (k + 1) = l.take k ++ [l.getD k 0] := by
  rw [List.take_succ_eq_append_getElem h]; simp [List.getD_eq_getElem?_getD, h]
theorem used_succ (l : List Int) (k : Nat) (h : k < l.length) : used (l.take (k + 1)) = used (l.take k) + if 0 < l.getD k 0 then 1 else 0 := by
  rw [take_succ_getD l k h, used_append]; simp [used]
theorem ksum_succ' (m : Nat) (l : List Int) (k : Nat) (h : k < l.length) : ksum m (l.take (k + 1)) = ksum m (l.take k) + KraftMath.part m (l.getD k 0) := by
  rw [take_succ_getD l k h, ksum_append]; simp [ksum]
theorem used_take_le (l : List Int) (k : Nat) : used (l.take k) ≤ k := Nat.le_trans (used_le _) (List.length_take_le ..)
theorem may_yes (n : Int) (h : 1 ≤ n) (h' : n ≤ 16) (w : World) : Calls Tryz.prog 82 #[.int .i64 n] w fun e w' => e = .returned (.bool true) ∧ w' = w := by
  go_enter Tryz.func82, Tryz.ntmps82
  go_wp2
  go_ret
  exact ⟨rfl, rfl⟩
theorem may_no (n : Int) (h : n < 1 ∨ 16 < n) (w : World) : Calls Tryz.prog 82 #[.int .i64 n] w fun e w' => e = .returned (.bool false) ∧ w' = w := by
  rcases h with h | h
  · go_enter Tryz.func82, Tryz.ntmps82
    go_wp2
    go_ret
    exact ⟨rfl, rfl⟩
  · have h1 : 1 ≤ n := by omega
    have h2 : decide (n ≤ 16) = false := by rw [decide_eq_false_iff_not]; omega
    go_enter Tryz.func82, Tryz.ntmps82
    go_wp2
    go_ret
    exact ⟨rfl, rfl⟩
set_option maxHeartbeats 800000 in
theorem kUsed (a : Option Addr) (cap : Nat) (zs : List Int) (w : World) (h : IsInts w a zs) : Calls Tryz.prog 83 #[.slice a zs.length cap] w fun e w' => e = .returned (.int .i64 (used zs)) ∧ w' = w := by
  obtain ⟨hl, h⟩ := h
  have HF : Hid (used (zs.take zs.length) = used zs) := by show _ = _; rw [List.take_length]
  have HU := Lib.hid (used_succ zs); have HT := Lib.hid (used_take_le zs)
  rcases h with rfl | ⟨x, rfl, hc⟩
  · go_enter Tryz.func83, Tryz.ntmps83
    go_wp2
    refine wp_loop_rounds 1 ?_
    rw [rounds_succ]
    go_wp2
    go_ret
    exact ⟨rfl, rfl⟩
  have HC := Lib.hid hc; clear hc
  go_enter Tryz.func83, Tryz.ntmps83
  go_wp2
  go_loop [3, 8] (fun n i => ∃ k : Nat, k ≤ zs.length ∧ i = .int .i64 k ∧ n = .int .i64 (used (zs.take k))) (fun _ i => zs.length - (intOf i).toNat)
  case atStart => exact ⟨0, Nat.zero_le _, rfl, rfl⟩
  case round =>
    obtain ⟨k, hk, rfl, rfl⟩ := hrel
    by_cases hlt : k < zs.length
    · have hcell := HC.out k hlt
      have hs := HU.out k hlt
      have ht := HT.out k
      obtain ⟨z, hz⟩ : ∃ z, zs.getD k 0 = z := ⟨_, rfl⟩
      obtain ⟨U, hU⟩ : ∃ U, used (zs.take k) = U := ⟨_, rfl⟩
      rw [hz] at hcell hs
      rw [hU] at hs ht ⊢
      by_cases hz0 : 0 < z
      · rw [if_pos hz0] at hs
        have HS := Lib.hid hs; clear hs hz hU
        go_wp2
        go_round
        case rel => exact ⟨k + 1, by omega, by go_num, by rw [HS.out]; go_num⟩
        case measure => simp [intOf]; omega
      · rw [if_neg hz0] at hs
        have HS := Lib.hid hs; clear hs hz hU
        go_wp2
        go_round
        case rel => exact ⟨k + 1, by omega, by go_num, by rw [HS.out]; rfl⟩
        case measure => simp [intOf]; omega
    · obtain rfl : k = zs.length := by omega
      go_wp2
      go_ret
      exact ⟨rfl, rfl⟩
theorem add_part (U m : Nat) (z : Int) (h1 : 1 ≤ z) (h2 : z ≤ m) (hm : m ≤ 16) (hU : U ≤ 2305843009213693952) : wrap64 ((U : Int) + wrap64 (2 ^ ((m : Int) - z).toNat)) = ((U + KraftMath.part m z : Nat) : Int) := by
  have e : ((m : Int) - z).toNat = m - z.toNat := by omega
  have hp := part_le m z hm
  have hpart : KraftMath.part m z = 2 ^ (m - z.toNat) := by unfold KraftMath.part; rw [if_pos ⟨h1, h2⟩]
  have e2 : (2 : Int) ^ (m - z.toNat) = ((KraftMath.part m z : Nat) : Int) := by rw [hpart]; simp
  rw [e, e2]
  unfold wrap64
  omega
set_option maxHeartbeats 800000 in
theorem kSum (a : Option Addr) (cap m : Nat) (zs : List Int) (w : World) (h : IsInts w a zs) (h1 : 1 ≤ m) (h16 : m ≤ 16) : Calls Tryz.prog 102 #[.slice a zs.length cap, .int .i64 m] w fun e w' => e = .returned (.int .i64 (ksum m zs)) ∧ w' = w := by
  obtain ⟨hl, h⟩ := h
  have HU := Lib.hid (ksum_succ' m zs)
  have HT := Lib.hid (fun k => Nat.le_trans (ksum_le m (zs.take k) h16) (Nat.mul_le_mul_left 32768 (List.length_take_le k zs)))
  rcases h with rfl | ⟨x, rfl, hc⟩
  · go_enter Tryz.func102, Tryz.ntmps102
    go_wp2_with fail
    refine (may_yes m (by omega) (by omega) _).mono ?_; rintro e w1 ⟨rfl, rfl⟩
    go_wp2_with fail
    refine wp_loop_rounds 1 ?_
    rw [rounds_succ]
    go_wp2
    go_ret
    exact ⟨rfl, rfl⟩
  have HC := Lib.hid hc; clear hc
  go_enter Tryz.func102, Tryz.ntmps102
  go_wp2_with fail
  refine (may_yes m (by omega) (by omega) _).mono ?_; rintro e w1 ⟨rfl, rfl⟩
  go_wp2_with fail
  go_loop [5, 13] (fun n i => ∃ k : Nat, k ≤ zs.length ∧ i = .int .i64 k ∧ n = .int .i64 (ksum m (zs.take k))) (fun _ i => zs.length - (intOf i).toNat)
  case atStart => exact ⟨0, Nat.zero_le _, rfl, rfl⟩
  case round =>
    obtain ⟨k, hk, rfl, rfl⟩ := hrel
    by_cases hlt : k < zs.length
    · have hcell := HC.out k hlt
      have hs := HU.out k hlt
      have ht := HT.out k
      obtain ⟨z, hz⟩ : ∃ z, zs.getD k 0 = z := ⟨_, rfl⟩
      obtain ⟨U, hU⟩ : ∃ U, ksum m (zs.take k) = U := ⟨_, rfl⟩
      rw [hz] at hcell hs
      rw [hU] at hs ht ⊢
      by_cases hz0 : 1 ≤ z
      · by_cases hz1 : z ≤ m
        · have HS := Lib.hid hs; clear hs hz hU
          go_wp2
          go_round
          case rel => exact ⟨k + 1, by omega, by go_num, by rw [add_part U m z hz0 hz1 h16 (by omega), HS.out]⟩
          case measure => simp [intOf]; omega
        · have e : KraftMath.part m z = 0 := by unfold KraftMath.part; rw [if_neg (by omega)]
          rw [e] at hs
          have HS := Lib.hid hs; clear hs hz hU e
          go_wp2
          go_round
          case rel => exact ⟨k + 1, by omega, by go_num, by rw [HS.out]; rfl⟩
          case measure => simp [intOf]; omega
      · have e : KraftMath.part m z = 0 := by unfold KraftMath.part; rw [if_neg (by omega)]
        rw [e] at hs
        have HS := Lib.hid hs; clear hs hz hU e
        go_wp2
        go_round
        case rel => exact ⟨k + 1, by omega, by go_num, by rw [HS.out]; rfl⟩
        case measure => simp [intOf]; omega
    · obtain rfl : k = zs.length := by omega
      go_wp2
      go_ret
      exact ⟨rfl, rfl⟩
end Go.Proofs.YtipcdkemokkdfaaGreat

/- Layer 7: byFreq. -/
namespace Go.Proofs.YtipcdkemokkdfaaGreat
open Go.ChangeShapes Go.WideShapes Go.ChangeAt Go.RowKit
set_option linter.unusedVariables false
set_option linter.unusedSimpArgs false
set_option maxRecDepth 100000
set_option maxHeartbeats 800000 in
theorem lCmp (x y : Int) (w : World) : Calls Tryz.prog 89 #[.int .i64 x, .int .i64 y] w fun e w' => e = .returned (.int .i64 (St.cmpV x y)) ∧ w' = w := by
  have CN := Lib.hid (show ∀ x : Int, ∀ W, Calls Tryz.prog 104 #[.int .i64 x] W fun e w' => e = .returned (.bool false) ∧ w' = W from fun x W => by
    have h1 : (x == x) = true := by simp
    have h2 : (x != x) = false := by simp
    go_enter Tryz.func104, Tryz.ntmps104
    go_wp2_with fail
    go_ret
    exact ⟨rfl, rfl⟩)
  unfold St.cmpV
  by_cases h1 : x < y
  · rw [if_pos h1]
    go_enter Tryz.func89, Tryz.ntmps89
    go_wp2_with fail
    refine (CN.out _ _).mono ?_; rintro e w1 ⟨rfl, rfl⟩
    go_wp2_with fail
    refine (CN.out _ _).mono ?_; rintro e w1 ⟨rfl, rfl⟩
    go_wp2_with fail
    go_ret
    exact ⟨rfl, rfl⟩
  · rw [if_neg h1]
    by_cases h2 : y < x
    · rw [if_pos h2]
      go_enter Tryz.func89, Tryz.ntmps89
      go_wp2_with fail
      refine (CN.out _ _).mono ?_; rintro e w1 ⟨rfl, rfl⟩
      go_wp2_with fail
      refine (CN.out _ _).mono ?_; rintro e w1 ⟨rfl, rfl⟩
      go_wp2_with fail
      go_ret
      exact ⟨rfl, rfl⟩
    · rw [if_neg h2]
      go_enter Tryz.func89, Tryz.ntmps89
      go_wp2_with fail
      refine (CN.out _ _).mono ?_; rintro e w1 ⟨rfl, rfl⟩
      go_wp2_with fail
      refine (CN.out _ _).mono ?_; rintro e w1 ⟨rfl, rfl⟩
      go_wp2_with fail
      go_ret
      exact ⟨rfl, rfl⟩
def frL (l : List Int) (x : Int) : Int := l.getD x.toNat 0
set_option maxHeartbeats 1600000 in
theorem pClo (a : Option Addr) (c bx x y : Nat) (l : List Int) (w : World) (hb : w.cell? ⟨bx, 0, none⟩ = some (.slice a l.length c)) (h : IsInts w a l) (hx : x < l.length) (hy : y < l.length) :
    Calls Tryz.prog 88 #[.int .i64 x, .int .i64 y, .pointer (some ⟨bx, 0, none⟩)] w fun e w' => e = .returned (.int .i64 (St.cmpV (l.getD x 0) (l.getD y 0))) ∧ w' = w.drew := by
  have lb := cell_block hb
  obtain ⟨q, rfl, hqb, hc⟩ := h.at x hx
  have c1 := hc x hx
  have c2 := hc y hy
  have hl := h.1
  obtain ⟨n, hn⟩ : ∃ n, l.length = n := ⟨_, rfl⟩
  rw [hn] at hb hx hy hl
  obtain ⟨u, hu⟩ : ∃ u, l.getD x 0 = u := ⟨_, rfl⟩
  obtain ⟨v, hv⟩ : ∃ v, l.getD y 0 = v := ⟨_, rfl⟩
  rw [hu] at c1 ⊢
  rw [hv] at c2 ⊢
  have hxi : (x : Int) < n := by omega
  have hyi : (y : Int) < n := by omega
  have CC := Lib.hid (fun W => lCmp u v W)
  have HS0 := Lib.hid (show w.drew.cell? ⟨bx, 0, none⟩ = some (.slice (some q) n c) ∧ w.drew.cell? (q.add x) = some (.int .i64 u) ∧ w.drew.cell? (q.add y) = some (.int .i64 v) from ⟨hb, c1, c2⟩)
  clear hc h hu hv hn hqb
  go_enter Tryz.func88, Tryz.ntmps88
  go_wp2_with fail
  go_region_held3 (fun V => V.cell? ⟨bx, 0, none⟩ = some (.slice (some q) n c) ∧ V.cell? (q.add x) = some (.int .i64 u) ∧ V.cell? (q.add y) = some (.int .i64 v)) (first | exact HS0.out) (first | (go_at_call 89; (with_reducible refine (CC.out _).mono ?_; rintro e wx ⟨rfl, rfl⟩)) | fail)
  simp only [Exit.then]
  rename_i hK hHeld
  refine hK _ _ ?_
  clear hK hHeld
  go_wp2_with fail
  go_ret
  exact ⟨rfl, rfl⟩
/-- The symbols that occur. -/
def symsL (l : List Int) (i : Nat) : List Int := ((List.range i).filter (fun k => decide (0 < l.getD k 0))).map (fun (k : Nat) => (k : Int))
theorem symsL_succ (l : List Int) (i : Nat) : symsL l (i + 1) = if 0 < l.getD i 0 then symsL l i ++ [(i : Int)] else symsL l i := by
  unfold symsL
  rw [List.range_succ, List.filter_append, List.map_append]
  by_cases h : 0 < l.getD i 0
  · have e : [i].filter (fun k => decide (0 < l.getD k 0)) = [i] := List.filter_cons_of_pos (p := fun k => decide (0 < l.getD k 0)) (decide_eq_true h)
    rw [if_pos h, e]; rfl
  · have e : [i].filter (fun k => decide (0 < l.getD k 0)) = [] := List.filter_cons_of_neg (p := fun k => decide (0 < l.getD k 0)) (by rw [decide_eq_true_eq]; exact h)
    rw [if_neg h, e, List.map_nil, List.append_nil]
theorem symsL_mem (l : List Int) (i : Nat) (u : Int) : u ∈ symsL l i ↔ ∃ k : Nat, u = k ∧ k < i ∧ 0 < l.getD k 0 := by
  unfold symsL
  simp only [List.mem_map, List.mem_filter, List.mem_range, decide_eq_true_eq]
  constructor
  · rintro ⟨k, ⟨h1, h2⟩, rfl⟩; exact ⟨k, rfl, h1, h2⟩
  · rintro ⟨k, rfl, h1, h2⟩; exact ⟨k, ⟨h1, h2⟩, rfl⟩
theorem symsL_asc (l : List Int) : ∀ i, (symsL l i).Pairwise (· < ·)
  | 0 => by simp [symsL]
  | i + 1 => by
    rw [symsL_succ]
    have ih := symsL_asc l i
    split
    · refine List.pairwise_append.2 ⟨ih, by simp, fun x hx y hy => ?_⟩
      obtain ⟨k, rfl, h1, h2⟩ := (symsL_mem l i x).1 hx
      have : y = (i : Int) := by simpa using hy
      omega
    · exact ih
theorem symsL_le (l : List Int) : ∀ i, (symsL l i).length ≤ i
  | 0 => by simp [symsL]
  | i + 1 => by rw [symsL_succ]; have := symsL_le l i; split <;> simp <;> omega
open KraftMath in
theorem symsL_used (l : List Int) : ∀ i, i ≤ l.length → (symsL l i).length = used (l.take i)
  | 0, _ => by simp [symsL, used]
  | i + 1, h => by
    rw [symsL_succ, used_succ l i (by omega), ← symsL_used l i (by omega)]
    split <;> simp
def srtS (l : List Int) : List Int := St.sortF (frL l) (symsL l l.length)
set_option maxHeartbeats 1600000 in
theorem sSortAll (bx B g n cap : Nat) (fr : Int → Int) (D : Int → Prop) (o : List Int) (w0 w : World) (CC : CmpC w0 g bx fr D) (hK : Keeps (fun j => j = g) w0 w) (hO : OwnI B w (.slice (some ⟨g, 0, none⟩) n cap) o) (ho : o.Pairwise (· < ·)) (hD : ∀ u ∈ o, D u) (hn : n ≤ 1000000) :
    Calls Tryz.prog 87 #[.slice (some ⟨g, 0, none⟩) n cap, FV bx] w fun e w' => e = .returned (.tuple #[]) ∧ OwnI B w' (.slice (some ⟨g, 0, none⟩) n cap) (St.sortF fr o) ∧ Keeps (fun j => j = g) w w' := by
  have C := Lib.hid (sStableAll bx B g n cap fr D o w0 w CC hK hO ho hD hn)
  clear CC hK hO ho hD
  go_enter Tryz.func87, Tryz.ntmps87
  go_wp2_with fail
  refine C.out.mono ?_; rintro e w2 ⟨rfl, h1, h2⟩
  have H1 := Lib.hid h1; have H2 := Lib.hid h2
  clear h1 h2
  go_wp2_with fail
  go_end0
  exact ⟨rfl, H1.out, H2.out⟩
set_option maxHeartbeats 3200000 in
theorem pByFreqAll (a : Option Addr) (c n : Nat) (l : List Int) (w : World) (hl : l.length = n) (h : IsInts w a l) (hn : n ≤ 2000) (hpos : 0 < (symsL l n).length) :
    Calls Tryz.prog 68 #[.slice a n c] w fun e w' => ∃ u, e = .returned u ∧ OwnI w.heap.size w' u (srtS l) ∧ Below w.heap.size w w' := by
  have HI := Lib.hid h
  have HL := Lib.hid hl
  have CS := Lib.hid (fun bx B g n cap fr D o w0 W h1 h2 h3 h4 h5 h6 => sSortAll bx B g n cap fr D o w0 W h1 h2 h3 h4 h5 h6)
  have HPO := Lib.hid hpos
  clear h hl hpos
  go_enter Tryz.func68, Tryz.ntmps68
  have HB0 := Lib.hid ((Below.refl w.heap.size w).alloc (Nat.le_refl _) (.cells #[.slice a n c] 65))
  have HX0 := Lib.hid (heap_alloc_new w (.cells #[.slice a n c] 65))
  have lx0 : w.heap.size < (w.alloc (.cells #[.slice a n c] 65)).heap.size := by simp
  go_wp2_with fail
  go_loopw [3, 8] (fun sv iv wr => ∃ i : Nat, i ≤ n ∧ iv = .int .i64 i ∧ Hid (OwnI w.heap.size wr sv (symsL l i)) ∧ Hid (Below w.heap.size w wr) ∧ Hid (wr.heap[w.heap.size]? = some (.cells #[.slice a n c] 65 (0, 0))) ∧ Hid (sv.ownBlock ≠ some w.heap.size)) (fun _ iv _ => n - (intOf iv).toNat)
  case atStart => exact ⟨0, Nat.zero_le _, rfl, Lib.hid OwnS.nil, HB0, HX0, Lib.hid (by simp [Value.ownBlock])⟩
  case round =>
    clear HB0 HX0
    obtain ⟨i, hi, rfl, HS, HB, HX, HV⟩ := hrel
    by_cases hlt : i < n
    · have hii : (i : Int) < n := by omega
      obtain ⟨x, rfl, hxb, hc⟩ := (HI.out.kept HB.out).at i (by rw [HL.out]; exact hlt)
      have cx := hc i (by rw [HL.out]; exact hlt)
      have HSS := Lib.hid (symsL_succ l i)
      obtain ⟨v, hv⟩ : ∃ v, l.getD i 0 = v := ⟨_, rfl⟩
      rw [hv] at cx HSS
      by_cases hv0 : 0 < v
      · have HLn := Lib.hid (show (symsL l i).length ≤ 1099511627776 by have := symsL_le l i; omega)
        have HBs := Lib.hid HB.out.size
        have e1 : (symsL l (i + 1)) = symsL l i ++ [(i : Int)] := by rw [HSS.out, if_pos hv0]
        have HE1 := Lib.hid e1
        clear hc hv e1
        go_wp2_with (at_builtin; refine app_int rfl (.tmp 15) (.tmp 17) rfl w.heap.size _ _ _ (i : Int) rfl HS.out wr.heap.size 1 rfl rfl HLn.out HBs.out ?_; intro v' w' ho hb hg)
        have HS2 := Lib.hid (show OwnI w.heap.size w' v' (symsL l (i + 1)) by rw [HE1.out]; exact ho)
        have HB2 := Lib.hid (HB.out.trans hb)
        have HX2 := Lib.hid ((hg.block _ (block_lt HX.out) (fun e => HV.out e.symm)).trans HX.out)
        have HV2 := Lib.hid (show v'.ownBlock ≠ some w.heap.size from own_ne ho HX2.out (by decide))
        clear ho hb hg HS HB HX HV
        go_wp2_with fail
        go_roundw
        case rel => exact ⟨i + 1, by omega, by go_num, HS2, HB2, HX2, HV2⟩
        case measure => simp [intOf] <;> omega
      · have HS2 := Lib.hid (show OwnI w.heap.size wr _ (symsL l (i + 1)) by rw [HSS.out, if_neg hv0]; exact HS.out)
        clear hc hv
        go_wp2_with fail
        go_roundw
        case rel => exact ⟨i + 1, by omega, by go_num, HS2, HB, HX, HV⟩
        case measure => simp [intOf] <;> omega
    · obtain rfl : i = n := by omega
      obtain ⟨g, cap, rfl, hgB, hgl⟩ := HS.out.form HPO.out (by decide)
      have hne : g ≠ w.heap.size := fun e => HV.out (by rw [← e]; rfl)
      obtain ⟨m, hm⟩ : ∃ m, (symsL l i).length = m := ⟨_, rfl⟩
      rw [hm] at HS ⊢
      have hm2 : m ≤ i := by rw [← hm]; exact symsL_le l i
      have CC : CmpC wr g w.heap.size (frL l) (fun u => ∃ k : Nat, u = k ∧ k < i) := by
        intro W hK x y hx hy
        obtain ⟨kx, rfl, hkx⟩ := hx
        obtain ⟨ky, rfl, hky⟩ := hy
        have hb : Below w.heap.size w W := HB.out.trans (hK.below (fun k hk => ⟨by have := HB.out.size; omega, by omega⟩))
        exact pClo a c w.heap.size kx ky l W (by
          rw [hK.cell (p := ⟨w.heap.size, 0, none⟩) (block_lt HX.out) (fun e => hne e.symm), HL.out]
          exact cell_lit HX.out 0 _ rfl) (HI.out.kept hb) (by rw [HL.out]; exact hkx) (by rw [HL.out]; exact hky)
      have HCC := Lib.hid (CS.out w.heap.size w.heap.size g m cap (frL l) _ (symsL l i) wr wr CC (Keeps.refl _ _) HS.out (symsL_asc l i) (fun u hu => by
        obtain ⟨k, h1, h2, -⟩ := (symsL_mem l i u).1 hu
        exact ⟨k, h1, h2⟩) (by omega))
      have HBw := Lib.hid (fun W (hK : Keeps (fun j => j = g) wr W) => (show Below w.heap.size w W from HB.out.trans (hK.below (fun k hk => ⟨by have := HB.out.size; omega, by omega⟩))))
      clear CC hm
      go_wp2_with fail
      refine HCC.out.mono ?_; rintro e w2 ⟨rfl, ho, hk⟩
      have HO := Lib.hid ho
      have HK := Lib.hid (HBw.out _ hk)
      clear ho hk
      go_wp2_with fail
      go_ret
      refine ⟨_, rfl, ?_, HK.out⟩
      unfold srtS
      rw [HL.out]
      exact HO.out
end Go.Proofs.YtipcdkemokkdfaaGreat

/- Rows of places of two cells. -/
namespace Go.Proofs.YtipcdkemokkdfaaGreat
open Go.ChangeShapes Go.WideShapes Go.ChangeAt Go.RowKit
set_option linter.unusedVariables false
set_option maxRecDepth 100000
theorem flat_set2 {α : Type} {f : α → List Value} (hf : Flat f 2) (x : α) (a b : Value) (hx : f x = [a, b]) : ∀ (l : List α) (i : Nat), i < l.length → (l.set i x).flatMap f = ((l.flatMap f).set (i * 2) a).set (i * 2 + 1) b
  | [], _, h => by simp at h
  | y :: l, 0, _ => by
    obtain ⟨y1, y2, hy⟩ : ∃ y1 y2, f y = [y1, y2] := by
      have := (hf y).1
      match hq : f y, this with
      | [y1, y2], _ => exact ⟨y1, y2, rfl⟩
    simp [List.flatMap_cons, hx, hy]
  | y :: l, i + 1, h => by
    obtain ⟨y1, y2, hy⟩ : ∃ y1 y2, f y = [y1, y2] := by
      have := (hf y).1
      match hq : f y, this with
      | [y1, y2], _ => exact ⟨y1, y2, rfl⟩
    have ih := flat_set2 hf x a b hx l i (by simpa using h)
    rw [List.set_cons_succ, List.flatMap_cons, List.flatMap_cons, ih, hy]
    rw [show (i + 1) * 2 = i * 2 + 1 + 1 by omega]
    simp
theorem OwnS.set2 {α : Type} {f : α → List Value} {E B g n cap : Nat} {w : World} {l : List α} (hf : Flat f 2) (h : OwnS f E 2 B w (.slice (some ⟨g, 0, none⟩) n cap) l) (i : Nat) (x : α) (a b : Value) (hx : f x = [a, b]) (hi : i < l.length) :
    OwnS f E 2 B ((w.setCell ⟨g, i * 2, none⟩ a).setCell ⟨g, i * 2 + 1, none⟩ b) (.slice (some ⟨g, 0, none⟩) n cap) (l.set i x) := by
  have hn : n = l.length := by
    rcases h.2 with ⟨h0, -⟩ | ⟨g', cap', cur', h0, -⟩ <;> simp at h0; omega
  subst hn
  have h1 := (World.ownsRow.stored h (i * 2) a).1
  have h2 := (World.ownsRow.stored h1 (i * 2 + 1) b).1
  unfold OwnS
  rw [List.length_set, flat_set2 hf x a b hx l i hi]
  exact h2
end Go.Proofs.YtipcdkemokkdfaaGreat

/- Layer 7: the mathematics of merged packages: rows of coins, what the first ones of a row hold, and that they weigh least. -/
namespace Go.Proofs.YtipcdkemokkdfaaGreat.Pm
set_option linter.unusedVariables false
set_option maxRecDepth 100000

abbrev Coin := Int × Bool
def pairsF : List Coin → List Coin
  | x :: y :: r => (x.1 + y.1, false) :: pairsF r
  | _ => []
def mrg : Nat → List Coin → List Coin → List Coin
  | f + 1, x :: a, y :: b => if y.1 < x.1 then y :: mrg f (x :: a) b else x :: mrg f a (y :: b)
  | _, a, b => a ++ b
def mergeF (a b : List Coin) : List Coin := mrg (a.length + b.length) a b
def rowF (S : List Coin) : Nat → List Coin
  | 0 => S
  | i + 1 => mergeF S (pairsF (rowF S i))
def cntS : List Coin → Nat
  | [] => 0
  | c :: l => (if c.2 = true then 1 else 0) + cntS l
def sumW : List Coin → Int
  | [] => 0
  | c :: l => c.1 + sumW l
def symC (ws : List Int) : List Coin := ws.map (fun x => (x, true))
/-- Ascending. -/
def Asc : List Coin → Prop
  | [] => True
  | x :: l => (∀ y ∈ l, x.1 ≤ y.1) ∧ Asc l

theorem mrg_zero (a b : List Coin) : mrg 0 a b = a ++ b := by cases a <;> cases b <;> rfl
theorem pairsF_len : ∀ l : List Coin, (pairsF l).length = l.length / 2
  | [] => rfl
  | [x] => by simp [pairsF]
  | x :: y :: r => by simp only [pairsF, List.length_cons, pairsF_len r]; omega
theorem mrg_len : ∀ f (a b : List Coin), (mrg f a b).length = a.length + b.length
  | 0, a, b => by rw [mrg_zero, List.length_append]
  | f + 1, [], b => by simp [mrg]
  | f + 1, x :: a, [] => by simp [mrg]
  | f + 1, x :: a, y :: b => by
    simp only [mrg]
    split
    · simp only [List.length_cons, mrg_len f (x :: a) b]; omega
    · simp only [List.length_cons, mrg_len f a (y :: b)]; omega
theorem mergeF_len (a b : List Coin) : (mergeF a b).length = a.length + b.length := mrg_len _ a b
theorem mrg_mem : ∀ f (a b : List Coin) c, c ∈ mrg f a b ↔ c ∈ a ∨ c ∈ b
  | 0, a, b, c => by rw [mrg_zero, List.mem_append]
  | f + 1, [], b, c => by simp [mrg]
  | f + 1, x :: a, [], c => by simp [mrg]
  | f + 1, x :: a, y :: b, c => by
    simp only [mrg]
    split
    · simp only [List.mem_cons, mrg_mem f (x :: a) b]
      constructor
      · rintro (h | h | h) <;> simp [h]
      · rintro ((h | h) | h | h) <;> simp [h]
    · simp only [List.mem_cons, mrg_mem f a (y :: b)]
      constructor
      · rintro (h | h | h | h) <;> simp [h]
      · rintro ((h | h) | h | h) <;> simp [h]
theorem mrg_asc : ∀ f (a b : List Coin), a.length + b.length ≤ f → Asc a → Asc b → Asc (mrg f a b)
  | 0, a, b, h, ha, hb => by
    have : a = [] := List.length_eq_zero_iff.1 (by omega)
    subst this
    have : b = [] := List.length_eq_zero_iff.1 (by simpa using h)
    subst this; simp [mrg, Asc]
  | f + 1, [], b, h, ha, hb => by simpa [mrg] using hb
  | f + 1, x :: a, [], h, ha, hb => by simpa [mrg] using ha
  | f + 1, x :: a, y :: b, h, ha, hb => by
    simp only [mrg]
    simp only [List.length_cons] at h
    split
    · rename_i hlt
      refine ⟨fun z hz => ?_, mrg_asc f (x :: a) b (by simp only [List.length_cons]; omega) ha hb.2⟩
      rcases (mrg_mem _ _ _ _).1 hz with hz | hz
      · rcases List.mem_cons.1 hz with rfl | hz
        · omega
        · have := ha.1 z hz; omega
      · exact hb.1 z hz
    · rename_i hlt
      refine ⟨fun z hz => ?_, mrg_asc f a (y :: b) (by simp only [List.length_cons]; omega) ha.2 hb⟩
      rcases (mrg_mem _ _ _ _).1 hz with hz | hz
      · exact ha.1 z hz
      · rcases List.mem_cons.1 hz with rfl | hz
        · omega
        · have := hb.1 z hz; omega
theorem pairs_asc : ∀ l : List Coin, Asc l → Asc (pairsF l)
  | [], _ => by simp [pairsF, Asc]
  | [x], _ => by simp [pairsF, Asc]
  | x :: y :: r, h => by
    simp only [pairsF]
    refine ⟨?_, pairs_asc r h.2.2⟩
    -- each pair of r is of two of r
    have key : ∀ l : List Coin, (∀ z ∈ l, x.1 ≤ z.1 ∧ y.1 ≤ z.1) → ∀ z ∈ pairsF l, x.1 + y.1 ≤ z.1 := by
      intro l
      induction l using pairsF.induct with
      | case1 a b r ih =>
        intro hl z hz
        simp only [pairsF, List.mem_cons] at hz
        rcases hz with rfl | hz
        · have h1 := hl a (by simp)
          have h2 := hl b (by simp)
          simp only; omega
        · exact ih (fun z hz => hl z (by simp [hz])) z hz
      | case2 l hl => intro _ z hz; unfold pairsF at hz; split at hz <;> simp_all
    exact key r (fun z hz => ⟨h.1 z (by simp [hz]), h.2.1 z hz⟩)
theorem row_asc (S : List Coin) (h : Asc S) : ∀ i, Asc (rowF S i)
  | 0 => h
  | i + 1 => mrg_asc _ _ _ (Nat.le_refl _) h (pairs_asc _ (row_asc S h i))
/-- What is above 0. -/
def Pos (l : List Coin) : Prop := ∀ c ∈ l, 0 < c.1
theorem pairs_pos : ∀ l : List Coin, Pos l → Pos (pairsF l)
  | [], _ => by simp [pairsF, Pos]
  | [x], _ => by simp [pairsF, Pos]
  | x :: y :: r, h => by
    intro c hc
    simp only [pairsF, List.mem_cons] at hc
    rcases hc with rfl | hc
    · have h1 := h x (by simp)
      have h2 := h y (by simp)
      simp only; omega
    · exact pairs_pos r (fun z hz => h z (by simp [hz])) c hc
theorem row_pos (S : List Coin) (h : Pos S) : ∀ i, Pos (rowF S i)
  | 0 => h
  | i + 1 => fun c hc => by
    rcases (mrg_mem _ _ _ _).1 hc with hc | hc
    · exact h c hc
    · exact pairs_pos _ (row_pos S h i) c hc
theorem cntS_append (a b : List Coin) : cntS (a ++ b) = cntS a + cntS b := by
  induction a with
  | nil => simp [cntS]
  | cons x a ih => simp only [List.cons_append, cntS, ih]; omega
theorem cntS_all : ∀ l : List Coin, (∀ c ∈ l, c.2 = true) → cntS l = l.length
  | [], _ => rfl
  | c :: l, h => by simp only [cntS, List.length_cons, h c (by simp), if_true, cntS_all l (fun c hc => h c (by simp [hc]))]; omega
theorem cntS_none : ∀ l : List Coin, (∀ c ∈ l, c.2 = false) → cntS l = 0
  | [], _ => rfl
  | c :: l, h => by
    simp only [cntS, h c (by simp), cntS_none l (fun c hc => h c (by simp [hc]))]; rfl
theorem pairs_sym : ∀ l : List Coin, ∀ c ∈ pairsF l, c.2 = false
  | [], _ => by simp [pairsF]
  | [x], _ => by simp [pairsF]
  | x :: y :: r, c => by
    intro hc
    simp only [pairsF, List.mem_cons] at hc
    rcases hc with rfl | hc
    · rfl
    · exact pairs_sym r c hc
theorem symC_sym (ws : List Int) : ∀ c ∈ symC ws, c.2 = true := by
  intro c hc; unfold symC at hc; obtain ⟨x, -, rfl⟩ := List.mem_map.1 hc; rfl
theorem pairs_take : ∀ (l : List Coin) (u : Nat), 2 * u ≤ l.length → sumW ((pairsF l).take u) = sumW (l.take (2 * u))
  | l, 0, _ => by simp [sumW]
  | [], u + 1, h => by simp at h
  | [x], u + 1, h => by simp at h; omega
  | x :: y :: r, u + 1, h => by
    have e : 2 * (u + 1) = 2 * u + 1 + 1 := by omega
    simp only [List.length_cons] at h
    rw [e]
    simp only [pairsF, List.take_succ_cons, sumW, pairs_take r u (by omega)]; omega

/-- The first t of two rows as one. -/
theorem mrg_split : ∀ f (a b : List Coin), a.length + b.length ≤ f → (∀ c ∈ a, c.2 = true) → (∀ c ∈ b, c.2 = false) → Asc a → Asc b → ∀ t, t ≤ a.length + b.length →
    ∃ s p, s + p = t ∧ s ≤ a.length ∧ p ≤ b.length ∧ cntS ((mrg f a b).take t) = s ∧ sumW ((mrg f a b).take t) = sumW (a.take s) + sumW (b.take p) ∧
      (∀ x ∈ a.take s, ∀ y ∈ b.drop p, x.1 ≤ y.1) ∧ (∀ y ∈ b.take p, ∀ x ∈ a.drop s, y.1 < x.1) ∧ (∀ x ∈ a.take s, x ∈ (mrg f a b).take t)
  | f, a, b, hf, ha, hb, hA, hB, 0, ht => ⟨0, 0, rfl, Nat.zero_le _, Nat.zero_le _, by simp [cntS], by simp [sumW], by simp, by simp, by simp⟩
  | 0, a, b, hf, ha, hb, hA, hB, t + 1, ht => by omega
  | f + 1, [], b, hf, ha, hb, hA, hB, t + 1, ht => by
    refine ⟨0, t + 1, by omega, Nat.zero_le _, by simpa using ht, ?_, by simp [mrg, sumW], by simp, by simp, by simp⟩
    simp only [mrg, List.nil_append]
    exact cntS_none _ (fun c hc => hb c (List.mem_of_mem_take hc))
  | f + 1, x :: a, [], hf, ha, hb, hA, hB, t + 1, ht => by
    refine ⟨t + 1, 0, by omega, by simpa using ht, Nat.zero_le _, ?_, by simp [mrg, sumW], by simp, by simp, by simp [mrg]⟩
    simp only [mrg, List.append_nil]
    rw [cntS_all _ (fun c hc => ha c (List.mem_of_mem_take hc)), List.length_take_of_le (by simpa using ht)]
  | f + 1, x :: a, y :: b, hf, ha, hb, hA, hB, t + 1, ht => by
    simp only [mrg]
    simp only [List.length_cons] at hf ht
    split
    · rename_i hlt
      obtain ⟨s, p, h1, h2, h3, h4, h5, h6, h7, h8⟩ := mrg_split f (x :: a) b (by simp only [List.length_cons]; omega) ha (fun c hc => hb c (by simp [hc])) hA hB.2 t (by simp only [List.length_cons]; omega)
      refine ⟨s, p + 1, by omega, h2, by simp only [List.length_cons]; omega, ?_, ?_, ?_, ?_, fun z hz => by rw [List.take_succ_cons]; exact List.mem_cons_of_mem _ (h8 z hz)⟩
      · simp only [List.take_succ_cons, cntS, h4, hb y (by simp)]; simp
      · simp only [List.take_succ_cons, sumW, h5]; omega
      · simpa using h6
      · intro z hz w hw
        simp only [List.take_succ_cons, List.mem_cons] at hz
        rcases hz with rfl | hz
        · have hw' := List.mem_of_mem_drop hw
          rcases List.mem_cons.1 hw' with rfl | hw'
          · exact hlt
          · have := hA.1 w hw'; omega
        · exact h7 z hz w hw
    · rename_i hlt
      obtain ⟨s, p, h1, h2, h3, h4, h5, h6, h7, h8⟩ := mrg_split f a (y :: b) (by simp only [List.length_cons]; omega) (fun c hc => ha c (by simp [hc])) hb hA.2 hB t (by simp only [List.length_cons]; omega)
      refine ⟨s + 1, p, by omega, by simp only [List.length_cons]; omega, h3, ?_, ?_, ?_, ?_, fun z hz => by
        rw [List.take_succ_cons] at hz ⊢
        rcases List.mem_cons.1 hz with rfl | hz
        · exact List.mem_cons_self
        · exact List.mem_cons_of_mem _ (h8 z hz)⟩
      · simp only [List.take_succ_cons, cntS, h4, ha x (by simp), if_true]; omega
      · simp only [List.take_succ_cons, sumW, h5]; omega
      · intro z hz w hw
        simp only [List.take_succ_cons, List.mem_cons] at hz
        rcases hz with rfl | hz
        · have hw' := List.mem_of_mem_drop hw
          rcases List.mem_cons.1 hw' with rfl | hw'
          · omega
          · have := hB.1 w hw'; omega
        · exact h6 z hz w hw
      · simpa using h7
theorem take_shift : ∀ (x : Coin) (a : List Coin), Asc (x :: a) → ∀ s, s < (x :: a).length → x.1 + sumW ((x :: a).take s) ≤ sumW ((x :: a).take (s + 1))
  | x, a, h, 0, hs => by simp [sumW]
  | x, [], h, s + 1, hs => by simp at hs
  | x, y :: a, h, s + 1, hs => by
    have := take_shift y a h.2 s (by simpa using hs)
    have hxy := h.1 y (by simp)
    simp only [List.take_succ_cons, sumW] at this ⊢
    omega
/-- They weigh no more than any others. -/
theorem mrg_least : ∀ f (a b : List Coin), a.length + b.length ≤ f → Asc a → Asc b → ∀ s p, s ≤ a.length → p ≤ b.length → sumW ((mrg f a b).take (s + p)) ≤ sumW (a.take s) + sumW (b.take p)
  | 0, a, b, hf, hA, hB, s, p, hs, hp => by
    obtain rfl : s = 0 := by omega
    obtain rfl : p = 0 := by omega
    simp [sumW]
  | f + 1, [], b, hf, hA, hB, s, p, hs, hp => by
    simp only [List.length_nil] at hs
    obtain rfl : s = 0 := by omega
    simp [mrg, sumW]
  | f + 1, x :: a, [], hf, hA, hB, s, p, hs, hp => by
    simp only [List.length_nil] at hp
    obtain rfl : p = 0 := by omega
    simp [mrg, sumW]
  | f + 1, x :: a, y :: b, hf, hA, hB, s, p, hs, hp => by
    simp only [mrg]
    simp only [List.length_cons] at hf
    split
    · rename_i hlt
      cases p with
      | succ p =>
        have := mrg_least f (x :: a) b (by simp only [List.length_cons]; omega) hA hB.2 s p hs (by simpa using hp)
        rw [show s + (p + 1) = s + p + 1 by omega]
        simp only [List.take_succ_cons, sumW] at this ⊢
        omega
      | zero =>
        cases s with
        | zero => simp [sumW]
        | succ s =>
          have := mrg_least f (x :: a) b (by simp only [List.length_cons]; omega) hA hB.2 s 0 (by omega) (Nat.zero_le _)
          have h2 := take_shift x a hA s (by omega)
          rw [Nat.add_zero] at this ⊢
          rw [List.take_zero] at this ⊢
          rw [List.take_succ_cons]
          simp only [sumW] at this h2 ⊢
          omega
    · rename_i hlt
      cases s with
      | succ s =>
        have := mrg_least f a (y :: b) (by simp only [List.length_cons]; omega) hA.2 hB s p (by simpa using hs) hp
        rw [show s + 1 + p = s + p + 1 by omega]
        simp only [List.take_succ_cons, sumW] at this ⊢
        omega
      | zero =>
        cases p with
        | zero => simp [sumW]
        | succ p =>
          have := mrg_least f a (y :: b) (by simp only [List.length_cons]; omega) hA.2 hB 0 p (Nat.zero_le _) (by omega)
          have h2 := take_shift y b hB p (by omega)
          rw [show 0 + (p + 1) = 0 + p + 1 by omega]
          simp only [List.take_zero, sumW] at this
          rw [List.take_succ_cons]
          simp only [sumW, List.take_zero]
          omega
end Go.Proofs.YtipcdkemokkdfaaGreat.Pm

/- Layer 7: what is taken of each row; that it is nested, whole, and least. -/
namespace Go.Proofs.YtipcdkemokkdfaaGreat.Pm
set_option linter.unusedVariables false
set_option maxRecDepth 100000

theorem symC_len (ws : List Int) : (symC ws).length = ws.length := by simp [symC]
theorem row_len (S : List Coin) (i : Nat) : (rowF S (i + 1)).length = S.length + (rowF S i).length / 2 := by
  show (mergeF S (pairsF (rowF S i))).length = _
  rw [mergeF_len, pairsF_len]
/-- What the first t coins of a row are. -/
theorem row_split (S : List Coin) (hs : ∀ c ∈ S, c.2 = true) (hA : Asc S) (i t : Nat) (ht : t ≤ (rowF S (i + 1)).length) :
    ∃ s p, s + p = t ∧ s ≤ S.length ∧ 2 * p ≤ (rowF S i).length ∧ cntS ((rowF S (i + 1)).take t) = s ∧ sumW ((rowF S (i + 1)).take t) = sumW (S.take s) + sumW ((rowF S i).take (2 * p)) ∧
      (∀ y ∈ (pairsF (rowF S i)).take p, ∀ x ∈ S.drop s, y.1 < x.1) ∧ (∀ x ∈ S.take s, x ∈ (rowF S (i + 1)).take t) := by
  have hl : (rowF S (i + 1)).length = S.length + (pairsF (rowF S i)).length := mergeF_len _ _
  obtain ⟨s, p, h1, h2, h3, h4, h5, h6, h7, h8⟩ := mrg_split _ S (pairsF (rowF S i)) (Nat.le_refl _) hs (pairs_sym _) hA (pairs_asc _ (row_asc S hA i)) t (by omega)
  rw [pairsF_len] at h3
  refine ⟨s, p, h1, h2, by omega, h4, ?_, h7, h8⟩
  rw [← pairs_take _ p (by omega)]
  exact h5
theorem mem_pair : ∀ (l : List Coin), Pos l → ∀ p, 2 * p ≤ l.length → ∀ c ∈ l.take (2 * p), ∃ y ∈ (pairsF l).take p, c.1 < y.1
  | l, h, 0, hp, c, hc => by simp at hc
  | [], h, p + 1, hp, c, hc => by simp at hc
  | [x], h, p + 1, hp, c, hc => by simp at hp; omega
  | x :: y :: r, h, p + 1, hp, c, hc => by
    rw [show 2 * (p + 1) = 2 * p + 1 + 1 by omega] at hc
    simp only [List.take_succ_cons, List.mem_cons] at hc
    have hx := h x (by simp)
    have hy := h y (by simp)
    simp only [List.length_cons] at hp
    rcases hc with rfl | rfl | hc
    · exact ⟨(c.1 + y.1, false), by simp [pairsF], by simp only; omega⟩
    · exact ⟨(x.1 + c.1, false), by simp [pairsF], by simp only; omega⟩
    · obtain ⟨z, hz, hlt⟩ := mem_pair r (fun z hz => h z (by simp [hz])) p (by omega) c hc
      exact ⟨z, by simp only [pairsF, List.take_succ_cons]; exact List.mem_cons_of_mem _ hz, hlt⟩
theorem cnt_le (S : List Coin) (hs : ∀ c ∈ S, c.2 = true) (hA : Asc S) (i t : Nat) (ht : t ≤ (rowF S i).length) : cntS ((rowF S i).take t) ≤ S.length ∧ cntS ((rowF S i).take t) ≤ t ∧ ∀ x ∈ S.take (cntS ((rowF S i).take t)), x ∈ (rowF S i).take t := by
  cases i with
  | zero =>
    have e : cntS ((rowF S 0).take t) = t := by
      show cntS (S.take t) = t
      rw [cntS_all _ (fun c hc => hs c (List.mem_of_mem_take hc)), List.length_take_of_le (show t ≤ S.length from ht)]
    rw [e]
    exact ⟨ht, Nat.le_refl _, fun x hx => hx⟩
  | succ i =>
    obtain ⟨s, p, h1, h2, h3, h4, h5, h7, h8⟩ := row_split S hs hA i t ht
    rw [h4]; exact ⟨h2, by omega, h8⟩
/-- The row ahead gives no more symbols. -/
theorem nest (S : List Coin) (hs : ∀ c ∈ S, c.2 = true) (hA : Asc S) (hP : Pos S) (i t : Nat) (ht : t ≤ (rowF S (i + 1)).length) :
    ∀ s, s = cntS ((rowF S (i + 1)).take t) → 2 * (t - s) ≤ (rowF S i).length ∧ cntS ((rowF S i).take (2 * (t - s))) ≤ s := by
  intro s hsd
  obtain ⟨s', p, h1, h2, h3, h4, h5, h7, h8⟩ := row_split S hs hA i t ht
  rw [h4] at hsd; subst hsd
  have ep : t - s = p := by omega
  rw [ep]
  refine ⟨h3, ?_⟩
  apply Classical.byContradiction
  intro hn
  obtain ⟨g1, g2, g3⟩ := cnt_le S hs hA i (2 * p) h3
  have hlt : s < S.length := by omega
  have hm : S[s] ∈ (rowF S i).take (2 * p) := g3 _ (by
    rw [List.mem_take_iff_getElem]
    exact ⟨s, by omega, rfl⟩)
  obtain ⟨y, hy, hxy⟩ := mem_pair _ (row_pos S hP i) p h3 _ hm
  have := h7 y hy S[s] (by
    rw [List.mem_drop_iff_getElem]
    exact ⟨0, by simpa using hlt, by simp⟩)
  omega
theorem row_most (S : List Coin) (h2 : 2 ≤ S.length) : ∀ i, (rowF S i).length ≤ 2 * S.length - 1
  | 0 => by show S.length ≤ _; omega
  | i + 1 => by rw [row_len]; have := row_most S h2 i; omega
/-- All symbols are among the first ones. -/
theorem top_all (S : List Coin) (hs : ∀ c ∈ S, c.2 = true) (hA : Asc S) (hP : Pos S) (h2 : 2 ≤ S.length) : ∀ i, 2 * S.length - 2 ≤ (rowF S i).length → cntS ((rowF S i).take (2 * S.length - 2)) = S.length
  | 0, h => by
    have e : (rowF S 0).length = S.length := rfl
    show cntS (S.take _) = _
    rw [cntS_all _ (fun c hc => hs c (List.mem_of_mem_take hc)), List.length_take_of_le (by rw [← e]; exact h)]
    omega
  | i + 1, h => by
    obtain ⟨n1, n2⟩ := nest S hs hA hP i _ h _ rfl
    obtain ⟨g1, g2, g3⟩ := cnt_le S hs hA (i + 1) _ h
    have hm := row_most S h2 i
    have hl := row_len S i
    obtain ⟨s, hsd⟩ : ∃ s, cntS ((rowF S (i + 1)).take (2 * S.length - 2)) = s := ⟨_, rfl⟩
    rw [hsd] at n1 n2 g1 g2 ⊢
    by_cases hlow : s = S.length
    · exact hlow
    · have : s + 1 = S.length := by omega
      have e : 2 * (2 * S.length - 2 - s) = 2 * S.length - 2 := by omega
      rw [e] at n1 n2
      have ih := top_all S hs hA hP h2 i n1
      rw [ih] at n2
      omega
theorem row_short (S : List Coin) (h1 : 2 ≤ S.length) : ∀ i, 2 ^ i * (2 * S.length - 1 - (rowF S i).length) < S.length
  | 0 => by show 2 ^ 0 * (2 * S.length - 1 - S.length) < _; omega
  | i + 1 => by
    have ih := row_short S h1 i
    have hl := row_len S i
    have hm := row_most S h1 i
    have h : 2 * (2 * S.length - 1 - (rowF S (i + 1)).length) ≤ 2 * S.length - 1 - (rowF S i).length := by omega
    calc 2 ^ (i + 1) * (2 * S.length - 1 - (rowF S (i + 1)).length) = 2 ^ i * (2 * (2 * S.length - 1 - (rowF S (i + 1)).length)) := by rw [Nat.pow_succ, Nat.mul_assoc]
      _ ≤ 2 ^ i * (2 * S.length - 1 - (rowF S i).length) := Nat.mul_le_mul_left _ h
      _ < _ := ih
theorem row_enough (S : List Coin) (h1 : 2 ≤ S.length) (i : Nat) (h : S.length ≤ 2 ^ (i + 1)) : 2 * S.length - 2 ≤ (rowF S i).length := by
  have hs := row_short S h1 i
  apply Classical.byContradiction
  intro hn
  have : 2 ≤ 2 * S.length - 1 - (rowF S i).length := by omega
  have h2 : 2 ^ i * 2 ≤ 2 ^ i * (2 * S.length - 1 - (rowF S i).length) := Nat.mul_le_mul_left _ this
  rw [Nat.pow_succ] at h
  omega

/-- How many symbols are taken of each row, from the last one on. -/
def takes (S : List Coin) : Nat → Nat → List Nat
  | 0, t => [cntS ((rowF S 0).take t)]
  | i + 1, t => cntS ((rowF S (i + 1)).take t) :: takes S i (2 * (t - cntS ((rowF S (i + 1)).take t)))
def lenAt : List Nat → Nat → Nat
  | [], _ => 0
  | s :: r, j => (if j < s then 1 else 0) + lenAt r j
def units : List Nat → Nat
  | [] => 0
  | s :: r => 2 ^ r.length * s + units r
def Desc : List Nat → Prop
  | [] => True
  | s :: r => (∀ x ∈ r, x ≤ s) ∧ Desc r
def wsum (S : List Coin) : List Nat → Int
  | [] => 0
  | s :: r => sumW (S.take s) + wsum S r
theorem takes_len (S : List Coin) : ∀ i t, (takes S i t).length = i + 1
  | 0, t => rfl
  | i + 1, t => by simp only [takes, List.length_cons, takes_len S i]
theorem takes_facts (S : List Coin) (hs : ∀ c ∈ S, c.2 = true) (hA : Asc S) (hP : Pos S) : ∀ i t, t ≤ (rowF S i).length →
    units (takes S i t) = 2 ^ i * t ∧ Desc (takes S i t) ∧ wsum S (takes S i t) = sumW ((rowF S i).take t) ∧ ∀ x ∈ takes S i t, x ≤ cntS ((rowF S i).take t)
  | 0, t, h => by
    have e : cntS ((rowF S 0).take t) = t := by
      show cntS (S.take t) = t
      rw [cntS_all _ (fun c hc => hs c (List.mem_of_mem_take hc)), List.length_take_of_le (show t ≤ S.length from h)]
    simp only [takes, e]
    refine ⟨by simp [units], ⟨by simp, trivial⟩, by simp [wsum, rowF], by simp⟩
  | i + 1, t, h => by
    obtain ⟨n1, n2⟩ := nest S hs hA hP i t h _ rfl
    obtain ⟨s', p, h1, h2, h3, h4, h5, h7, h8⟩ := row_split S hs hA i t h
    simp only [takes]
    rw [h4] at n1 n2 ⊢
    obtain ⟨i1, i2, i3, i4⟩ := takes_facts S hs hA hP i (2 * (t - s')) n1
    have ep : t - s' = p := by omega
    rw [ep] at i1 i2 i3 i4 n2 ⊢
    refine ⟨?_, ⟨fun x hx => Nat.le_trans (i4 x hx) n2, i2⟩, ?_, ?_⟩
    · simp only [units, takes_len, i1]
      rw [← h1, Nat.pow_succ, Nat.mul_add, Nat.mul_assoc, Nat.mul_assoc]
    · simp only [wsum, i3, h5]
    · intro x hx
      rcases List.mem_cons.1 hx with rfl | hx
      · exact Nat.le_refl _
      · exact Nat.le_trans (i4 x hx) n2
/-- Sum of 2^(m - length). -/
def kr (m : Nat) (f : Nat → Nat) : Nat → Nat
  | 0 => 0
  | n + 1 => kr m f n + 2 ^ (m - f n)
theorem lenAt_le : ∀ (ks : List Nat) j, lenAt ks j ≤ ks.length
  | [], j => Nat.le_refl _
  | s :: r, j => by simp only [lenAt, List.length_cons]; have := lenAt_le r j; split <;> omega
theorem lenAt_zero : ∀ (ks : List Nat) j, (∀ x ∈ ks, x ≤ j) → lenAt ks j = 0
  | [], j, h => rfl
  | s :: r, j, h => by
    simp only [lenAt]
    rw [if_neg (by have := h s (by simp); omega), lenAt_zero r j (fun x hx => h x (by simp [hx]))]
theorem kr_cons (s : Nat) (r : List Nat) (hd : ∀ x ∈ r, x ≤ s) : ∀ n, (n ≤ s → kr (r.length + 1) (lenAt (s :: r)) n = kr r.length (lenAt r) n) ∧ (s ≤ n → kr (r.length + 1) (lenAt (s :: r)) n = kr r.length (lenAt r) s + (n - s) * 2 ^ (r.length + 1))
  | 0 => by
    refine ⟨fun _ => rfl, fun h => ?_⟩
    obtain rfl : s = 0 := by omega
    simp [kr]
  | n + 1 => by
    obtain ⟨h1, h2⟩ := kr_cons s r hd n
    constructor
    · intro h
      have e : lenAt (s :: r) n = 1 + lenAt r n := by simp only [lenAt]; rw [if_pos (by omega)]
      have := lenAt_le r n
      simp only [kr]
      rw [h1 (by omega), e, show r.length + 1 - (1 + lenAt r n) = r.length - lenAt r n by omega]
    · intro h
      by_cases he : s = n + 1
      · subst he
        have e : lenAt ((n + 1) :: r) n = 1 + lenAt r n := by simp only [lenAt]; rw [if_pos (by omega)]
        have := lenAt_le r n
        simp only [kr]
        rw [h1 (by omega), e, show r.length + 1 - (1 + lenAt r n) = r.length - lenAt r n by omega]
        simp
      · have e0 : lenAt (s :: r) n = 0 := lenAt_zero _ _ (fun x hx => by
          rcases List.mem_cons.1 hx with rfl | hx
          · omega
          · have := hd x hx; omega)
        simp only [kr, h2 (by omega), e0, Nat.sub_zero]
        rw [show n + 1 - s = n - s + 1 by omega, Nat.add_mul, Nat.one_mul, Nat.add_assoc]
theorem kr_units : ∀ (ks : List Nat), Desc ks → ∀ n, (∀ x ∈ ks, x ≤ n) → kr ks.length (lenAt ks) n + units ks = 2 ^ ks.length * n
  | [], _, n, _ => by
    have : ∀ n, kr 0 (lenAt []) n = n := by
      intro n
      induction n with
      | zero => rfl
      | succ n ih => simp [kr, ih]
    simp [this, units]
  | s :: r, hd, n, hn => by
    have ih := kr_units r hd.2 s hd.1
    have hsn := hn s (by simp)
    simp only [List.length_cons, (kr_cons s r hd.1 n).2 hsn, units]
    obtain ⟨d, rfl⟩ : ∃ d, n = s + d := ⟨n - s, by omega⟩
    rw [Nat.add_sub_cancel_left]
    have e : 2 ^ (r.length + 1) * (s + d) = 2 ^ r.length * s + 2 ^ r.length * s + d * 2 ^ (r.length + 1) := by
      rw [Nat.mul_add, Nat.mul_comm d, Nat.pow_succ, Nat.mul_assoc, Nat.mul_comm 2 s, Nat.mul_two, Nat.mul_add]
    rw [e]; omega
end Go.Proofs.YtipcdkemokkdfaaGreat.Pm
