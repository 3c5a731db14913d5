/- Layer 7: byFreq. -/
import Derived.Test.YtofmjcelmbkebaaAH9
import Derived.Test.YtofmjcelmbkebaaKr
namespace Go.Proofs.Ytofmjcelmbkebaa
open Go.ChangeShapes Go.WideShapes Go.ChangeAt Go.RowKit
set_option linter.unusedVariables false
set_option linter.unusedSimpArgs false
set_option maxRecDepth 100000
set_option maxHeartbeats 800000 in
theorem lCmp (x y : Int) (w : World) : Calls Try.prog 36 #[.int .i64 x, .int .i64 y] w fun e w' => e = .returned (.int .i64 (St.cmpV x y)) ∧ w' = w := by
  have CN := Lib.hid (show ∀ x : Int, ∀ W, Calls Try.prog 52 #[.int .i64 x] W fun e w' => e = .returned (.bool false) ∧ w' = W from fun x W => by
    have h1 : (x == x) = true := by simp
    have h2 : (x != x) = false := by simp
    go_enter Try.func52, Try.ntmps52
    go_wp2_with fail
    go_ret
    exact ⟨rfl, rfl⟩)
  unfold St.cmpV
  by_cases h1 : x < y
  · rw [if_pos h1]
    go_enter Try.func36, Try.ntmps36
    go_wp2_with fail
    refine (CN.out _ _).mono ?_; rintro e w1 ⟨rfl, rfl⟩
    go_wp2_with fail
    refine (CN.out _ _).mono ?_; rintro e w1 ⟨rfl, rfl⟩
    go_wp2_with fail
    go_ret
    exact ⟨rfl, rfl⟩
  · rw [if_neg h1]
    by_cases h2 : y < x
    · rw [if_pos h2]
      go_enter Try.func36, Try.ntmps36
      go_wp2_with fail
      refine (CN.out _ _).mono ?_; rintro e w1 ⟨rfl, rfl⟩
      go_wp2_with fail
      refine (CN.out _ _).mono ?_; rintro e w1 ⟨rfl, rfl⟩
      go_wp2_with fail
      go_ret
      exact ⟨rfl, rfl⟩
    · rw [if_neg h2]
      go_enter Try.func36, Try.ntmps36
      go_wp2_with fail
      refine (CN.out _ _).mono ?_; rintro e w1 ⟨rfl, rfl⟩
      go_wp2_with fail
      refine (CN.out _ _).mono ?_; rintro e w1 ⟨rfl, rfl⟩
      go_wp2_with fail
      go_ret
      exact ⟨rfl, rfl⟩
def frL (l : List Int) (x : Int) : Int := l.getD x.toNat 0
set_option maxHeartbeats 1600000 in
theorem pClo (a : Option Addr) (c bx x y : Nat) (l : List Int) (w : World) (hb : w.cell? ⟨bx, 0, none⟩ = some (.slice a l.length c)) (h : IsInts w a l) (hx : x < l.length) (hy : y < l.length) :
    Calls Try.prog 35 #[.int .i64 x, .int .i64 y, .pointer (some ⟨bx, 0, none⟩)] w fun e w' => e = .returned (.int .i64 (St.cmpV (l.getD x 0) (l.getD y 0))) ∧ w' = w.drew := by
  have lb := cell_block hb
  obtain ⟨q, rfl, hqb, hc⟩ := h.at x hx
  have c1 := hc x hx
  have c2 := hc y hy
  have hl := h.1
  obtain ⟨n, hn⟩ : ∃ n, l.length = n := ⟨_, rfl⟩
  rw [hn] at hb hx hy hl
  obtain ⟨u, hu⟩ : ∃ u, l.getD x 0 = u := ⟨_, rfl⟩
  obtain ⟨v, hv⟩ : ∃ v, l.getD y 0 = v := ⟨_, rfl⟩
  rw [hu] at c1 ⊢
  rw [hv] at c2 ⊢
  have hxi : (x : Int) < n := by omega
  have hyi : (y : Int) < n := by omega
  have CC := Lib.hid (fun W => lCmp u v W)
  have HS0 := Lib.hid (show w.drew.cell? ⟨bx, 0, none⟩ = some (.slice (some q) n c) ∧ w.drew.cell? (q.add x) = some (.int .i64 u) ∧ w.drew.cell? (q.add y) = some (.int .i64 v) from ⟨hb, c1, c2⟩)
  clear hc h hu hv hn hqb
  go_enter Try.func35, Try.ntmps35
  go_wp2_with fail
  go_region_held3 (fun V => V.cell? ⟨bx, 0, none⟩ = some (.slice (some q) n c) ∧ V.cell? (q.add x) = some (.int .i64 u) ∧ V.cell? (q.add y) = some (.int .i64 v)) (first | exact HS0.out) (first | (go_at_call 36; (with_reducible refine (CC.out _).mono ?_; rintro e wx ⟨rfl, rfl⟩)) | fail)
  simp only [Exit.then]
  rename_i hK hHeld
  refine hK _ _ ?_
  clear hK hHeld
  go_wp2_with fail
  go_ret
  exact ⟨rfl, rfl⟩
/-- The symbols that occur. -/
def symsL (l : List Int) (i : Nat) : List Int := ((List.range i).filter (fun k => decide (0 < l.getD k 0))).map (fun (k : Nat) => (k : Int))
theorem symsL_succ (l : List Int) (i : Nat) : symsL l (i + 1) = if 0 < l.getD i 0 then symsL l i ++ [(i : Int)] else symsL l i := by
  unfold symsL
  rw [List.range_succ, List.filter_append, List.map_append]
  by_cases h : 0 < l.getD i 0
  · have e : [i].filter (fun k => decide (0 < l.getD k 0)) = [i] := List.filter_cons_of_pos (p := fun k => decide (0 < l.getD k 0)) (decide_eq_true h)
    rw [if_pos h, e]; rfl
  · have e : [i].filter (fun k => decide (0 < l.getD k 0)) = [] := List.filter_cons_of_neg (p := fun k => decide (0 < l.getD k 0)) (by rw [decide_eq_true_eq]; exact h)
    rw [if_neg h, e, List.map_nil, List.append_nil]
theorem symsL_mem (l : List Int) (i : Nat) (u : Int) : u ∈ symsL l i ↔ ∃ k : Nat, u = k ∧ k < i ∧ 0 < l.getD k 0 := by
  unfold symsL
  simp only [List.mem_map, List.mem_filter, List.mem_range, decide_eq_true_eq]
  constructor
  · rintro ⟨k, ⟨h1, h2⟩, rfl⟩; exact ⟨k, rfl, h1, h2⟩
  · rintro ⟨k, rfl, h1, h2⟩; exact ⟨k, ⟨h1, h2⟩, rfl⟩
theorem symsL_asc (l : List Int) : ∀ i, (symsL l i).Pairwise (· < ·)
  | 0 => by simp [symsL]
  | i + 1 => by
    rw [symsL_succ]
    have ih := symsL_asc l i
    split
    · refine List.pairwise_append.2 ⟨ih, by simp, fun x hx y hy => ?_⟩
      obtain ⟨k, rfl, h1, h2⟩ := (symsL_mem l i x).1 hx
      have : y = (i : Int) := by simpa using hy
      omega
    · exact ih
theorem symsL_le (l : List Int) : ∀ i, (symsL l i).length ≤ i
  | 0 => by simp [symsL]
  | i + 1 => by rw [symsL_succ]; have := symsL_le l i; split <;> simp <;> omega
open KraftMath in
theorem symsL_used (l : List Int) : ∀ i, i ≤ l.length → (symsL l i).length = used (l.take i)
  | 0, _ => by simp [symsL, used]
  | i + 1, h => by
    rw [symsL_succ, used_succ l i (by omega), ← symsL_used l i (by omega)]
    split <;> simp
def srtS (l : List Int) : List Int := St.sortF (frL l) (symsL l l.length)
set_option maxHeartbeats 1600000 in
theorem sSortAll (bx B g n cap : Nat) (fr : Int → Int) (D : Int → Prop) (o : List Int) (w0 w : World) (CC : CmpC w0 g bx fr D) (hK : Keeps (fun j => j = g) w0 w) (hO : OwnI B w (.slice (some ⟨g, 0, none⟩) n cap) o) (ho : o.Pairwise (· < ·)) (hD : ∀ u ∈ o, D u) (hn : n ≤ 1000000) :
    Calls Try.prog 34 #[.slice (some ⟨g, 0, none⟩) n cap, FV bx] w fun e w' => e = .returned (.tuple #[]) ∧ OwnI B w' (.slice (some ⟨g, 0, none⟩) n cap) (St.sortF fr o) ∧ Keeps (fun j => j = g) w w' := by
  have C := Lib.hid (sStableAll bx B g n cap fr D o w0 w CC hK hO ho hD hn)
  clear CC hK hO ho hD
  go_enter Try.func34, Try.ntmps34
  go_wp2_with fail
  refine C.out.mono ?_; rintro e w2 ⟨rfl, h1, h2⟩
  have H1 := Lib.hid h1; have H2 := Lib.hid h2
  clear h1 h2
  go_wp2_with fail
  go_end0
  exact ⟨rfl, H1.out, H2.out⟩
set_option maxHeartbeats 3200000 in
theorem pByFreqAll (a : Option Addr) (c n : Nat) (l : List Int) (w : World) (hl : l.length = n) (h : IsInts w a l) (hn : n ≤ 2000) (hpos : 0 < (symsL l n).length) :
    Calls Try.prog 21 #[.slice a n c] w fun e w' => ∃ u, e = .returned u ∧ OwnI w.heap.size w' u (srtS l) ∧ Below w.heap.size w w' := by
  have HI := Lib.hid h
  have HL := Lib.hid hl
  have CS := Lib.hid (fun bx B g n cap fr D o w0 W h1 h2 h3 h4 h5 h6 => sSortAll bx B g n cap fr D o w0 W h1 h2 h3 h4 h5 h6)
  have HPO := Lib.hid hpos
  clear h hl hpos
  go_enter Try.func21, Try.ntmps21
  have HB0 := Lib.hid ((Below.refl w.heap.size w).alloc (Nat.le_refl _) (.cells #[.slice a n c] 22))
  have HX0 := Lib.hid (heap_alloc_new w (.cells #[.slice a n c] 22))
  have lx0 : w.heap.size < (w.alloc (.cells #[.slice a n c] 22)).heap.size := by simp
  go_wp2_with fail
  go_loopw [3, 8] (fun sv iv wr => ∃ i : Nat, i ≤ n ∧ iv = .int .i64 i ∧ Hid (OwnI w.heap.size wr sv (symsL l i)) ∧ Hid (Below w.heap.size w wr) ∧ Hid (wr.heap[w.heap.size]? = some (.cells #[.slice a n c] 22 (0, 0))) ∧ Hid (sv.ownBlock ≠ some w.heap.size)) (fun _ iv _ => n - (intOf iv).toNat)
  case atStart => exact ⟨0, Nat.zero_le _, rfl, Lib.hid OwnS.nil, HB0, HX0, Lib.hid (by simp [Value.ownBlock])⟩
  case round =>
    clear HB0 HX0
    obtain ⟨i, hi, rfl, HS, HB, HX, HV⟩ := hrel
    by_cases hlt : i < n
    · have hii : (i : Int) < n := by omega
      obtain ⟨x, rfl, hxb, hc⟩ := (HI.out.kept HB.out).at i (by rw [HL.out]; exact hlt)
      have cx := hc i (by rw [HL.out]; exact hlt)
      have HSS := Lib.hid (symsL_succ l i)
      obtain ⟨v, hv⟩ : ∃ v, l.getD i 0 = v := ⟨_, rfl⟩
      rw [hv] at cx HSS
      by_cases hv0 : 0 < v
      · have HLn := Lib.hid (show (symsL l i).length ≤ 1099511627776 by have := symsL_le l i; omega)
        have HBs := Lib.hid HB.out.size
        have e1 : (symsL l (i + 1)) = symsL l i ++ [(i : Int)] := by rw [HSS.out, if_pos hv0]
        have HE1 := Lib.hid e1
        clear hc hv e1
        go_wp2_with (at_builtin; refine app_int rfl (.tmp 15) (.tmp 17) rfl w.heap.size _ _ _ (i : Int) rfl HS.out wr.heap.size 1 rfl rfl HLn.out HBs.out ?_; intro v' w' ho hb hg)
        have HS2 := Lib.hid (show OwnI w.heap.size w' v' (symsL l (i + 1)) by rw [HE1.out]; exact ho)
        have HB2 := Lib.hid (HB.out.trans hb)
        have HX2 := Lib.hid ((hg.block _ (block_lt HX.out) (fun e => HV.out e.symm)).trans HX.out)
        have HV2 := Lib.hid (show v'.ownBlock ≠ some w.heap.size from own_ne ho HX2.out (by decide))
        clear ho hb hg HS HB HX HV
        go_wp2_with fail
        go_roundw
        case rel => exact ⟨i + 1, by omega, by go_num, HS2, HB2, HX2, HV2⟩
        case measure => simp [intOf] <;> omega
      · have HS2 := Lib.hid (show OwnI w.heap.size wr _ (symsL l (i + 1)) by rw [HSS.out, if_neg hv0]; exact HS.out)
        clear hc hv
        go_wp2_with fail
        go_roundw
        case rel => exact ⟨i + 1, by omega, by go_num, HS2, HB, HX, HV⟩
        case measure => simp [intOf] <;> omega
    · obtain rfl : i = n := by omega
      obtain ⟨g, cap, rfl, hgB, hgl⟩ := HS.out.form HPO.out (by decide)
      have hne : g ≠ w.heap.size := fun e => HV.out (by rw [← e]; rfl)
      obtain ⟨m, hm⟩ : ∃ m, (symsL l i).length = m := ⟨_, rfl⟩
      rw [hm] at HS ⊢
      have hm2 : m ≤ i := by rw [← hm]; exact symsL_le l i
      have CC : CmpC wr g w.heap.size (frL l) (fun u => ∃ k : Nat, u = k ∧ k < i) := by
        intro W hK x y hx hy
        obtain ⟨kx, rfl, hkx⟩ := hx
        obtain ⟨ky, rfl, hky⟩ := hy
        have hb : Below w.heap.size w W := HB.out.trans (hK.below (fun k hk => ⟨by have := HB.out.size; omega, by omega⟩))
        exact pClo a c w.heap.size kx ky l W (by
          rw [hK.cell (p := ⟨w.heap.size, 0, none⟩) (block_lt HX.out) (fun e => hne e.symm), HL.out]
          exact cell_lit HX.out 0 _ rfl) (HI.out.kept hb) (by rw [HL.out]; exact hkx) (by rw [HL.out]; exact hky)
      have HCC := Lib.hid (CS.out w.heap.size w.heap.size g m cap (frL l) _ (symsL l i) wr wr CC (Keeps.refl _ _) HS.out (symsL_asc l i) (fun u hu => by
        obtain ⟨k, h1, h2, -⟩ := (symsL_mem l i u).1 hu
        exact ⟨k, h1, h2⟩) (by omega))
      have HBw := Lib.hid (fun W (hK : Keeps (fun j => j = g) wr W) => (show Below w.heap.size w W from HB.out.trans (hK.below (fun k hk => ⟨by have := HB.out.size; omega, by omega⟩))))
      clear CC hm
      go_wp2_with fail
      refine HCC.out.mono ?_; rintro e w2 ⟨rfl, ho, hk⟩
      have HO := Lib.hid ho
      have HK := Lib.hid (HBw.out _ hk)
      clear ho hk
      go_wp2_with fail
      go_ret
      refine ⟨_, rfl, ?_, HK.out⟩
      unfold srtS
      rw [HL.out]
      exact HO.out
end Go.Proofs.Ytofmjcelmbkebaa
