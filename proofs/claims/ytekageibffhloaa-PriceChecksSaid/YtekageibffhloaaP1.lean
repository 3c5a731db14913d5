/- Layer 23: prices. -/
import Derived.Test.YtekageibffhloaaK3
namespace Go.Proofs.Ytekageibffhloaa
open Go.ChangeShapes Go.WideShapes Go.ChangeAt Go.RowKit
set_option linter.unusedVariables false
set_option maxRecDepth 100000
def okP (l : List Int) : Bool := l.all fun x => decide (1 ≤ x) && decide (x ≤ 1048576)
theorem okP_cons (x : Int) (l : List Int) : okP (x :: l) = ((decide (1 ≤ x) && decide (x ≤ 1048576)) && okP l) := by simp [okP]
theorem okP_rep (n : Nat) (x : Int) (h : 1 ≤ x ∧ x ≤ 1048576) : okP (List.replicate n x) = true := by
  unfold okP; rw [List.all_eq_true]; intro y hy; rw [(List.mem_replicate.1 hy).2]; simp; omega
def checkP (l m : List Int) : Int := if l.length ≠ 401 ∨ m.length ≠ 52 then 4 else if okP l && okP m then 0 else 2
theorem pMay (v : Value) (l : List Int) (w : World) (h : IsL w v l) (B : Bool) (hB : okP l = B) :
    Calls Try.prog 67 #[v] w fun e w' => e = .returned (.bool B) ∧ w' = w := by
  obtain ⟨a, c, rfl, h⟩ := h
  have hl := h.1
  have h_ := Lib.hid h
  clear h
  go_enter Try.func67, Try.ntmps67
  go_wp2
  go_loop [7] (fun i => ∃ k : Nat, k ≤ l.length ∧ i = .int .i64 k ∧ Hid (okP (l.drop k) = B)) (fun i => l.length - (intOf i).toNat)
  case atStart => exact ⟨0, Nat.zero_le _, rfl, Lib.hid hB⟩
  case round =>
    obtain ⟨k, hk, rfl, ht⟩ := hrel
    clear hB
    by_cases hlt : k < l.length
    · obtain ⟨x, rfl, -, hx⟩ := h_.out.at k hlt
      have cx := hx k hlt
      have hs := ht.out
      rw [drop_getD l k hlt, okP_cons] at hs
      obtain ⟨X, hX⟩ : ∃ X, l.getD k 0 = X := ⟨_, rfl⟩
      rw [hX] at cx hs
      clear hX ht hx
      by_cases h0 : X < 1
      · have HF := Lib.hid (show false = B by rw [← hs]; simp; omega)
        clear hs
        go_wp2
        go_ret
        exact ⟨ret_b HF.out, rfl⟩
      · by_cases h1 : 1048576 < X
        · have HF := Lib.hid (show false = B by rw [← hs]; simp; omega)
          clear hs
          go_wp2
          go_ret
          exact ⟨ret_b HF.out, rfl⟩
        · have HF := Lib.hid (show okP (l.drop (k + 1)) = B by
            have e : (decide (1 ≤ X) && decide (X ≤ 1048576)) = true := by simp; omega
            rwa [e, Bool.true_and] at hs)
          clear hs
          go_wp2
          go_round
          case rel => exact ⟨k + 1, by omega, by go_num, HF⟩
          case measure => simp [intOf]; omega
    · have HF := Lib.hid (show true = B by have h := ht.out; rw [List.drop_of_length_le (by omega)] at h; exact h)
      go_wp2
      go_ret
      exact ⟨ret_b HF.out, rfl⟩
theorem dMay (v : Value) (l : List Int) (w : World) (h : IsL w v l) (B : Bool) (hB : okP l = B) :
    Calls Try.prog 68 #[v] w fun e w' => e = .returned (.bool B) ∧ Below w.heap.size w w' := by
  obtain ⟨a, c, rfl, h⟩ := h
  have hl := h.1
  have h_ := Lib.hid h
  clear h
  go_enter Try.func68, Try.ntmps68
  go_wp2
  go_loopw [3] (fun i wr => ∃ k : Nat, k ≤ l.length ∧ i = .int .i64 k ∧ Hid (okP (l.drop k) = B) ∧ Below w.heap.size w wr) (fun i _ => l.length - (intOf i).toNat)
  case atStart => exact ⟨0, Nat.zero_le _, rfl, Lib.hid hB, Below.refl _ _⟩
  case round =>
    obtain ⟨k, hk, rfl, ht, hb⟩ := hrel
    clear hB
    by_cases hlt : k < l.length
    · obtain ⟨x, rfl, hxb, hx⟩ := h_.out.at k hlt
      have cx : wr.cell? (x.add k) = _ := (hb.cell (by rw [add_block]; exact hxb)).trans (hx k hlt)
      have hs := ht.out
      rw [drop_getD l k hlt, okP_cons] at hs
      obtain ⟨X, hX⟩ : ∃ X, l.getD k 0 = X := ⟨_, rfl⟩
      rw [hX] at cx hs
      clear hX ht hx
      by_cases h0 : X < 1
      · have HF := Lib.hid (show false = B by rw [← hs]; simp; omega)
        clear hs
        go_wp2
        go_ret
        exact ⟨ret_b HF.out, hb⟩
      · by_cases h1 : 1048576 < X
        · have HF := Lib.hid (show false = B by rw [← hs]; simp; omega)
          clear hs
          go_wp2
          go_ret
          exact ⟨ret_b HF.out, hb⟩
        · have HF := Lib.hid (show okP (l.drop (k + 1)) = B by
            have e : (decide (1 ≤ X) && decide (X ≤ 1048576)) = true := by simp; omega
            rwa [e, Bool.true_and] at hs)
          clear hs
          go_wp2
          go_roundw
          case rel => exact ⟨k + 1, by omega, by go_num, HF, hb⟩
          case measure => simp [intOf]; omega
    · have HF := Lib.hid (show true = B by have h := ht.out; rw [List.drop_of_length_le (by omega)] at h; exact h)
      go_wp2
      go_ret
      exact ⟨ret_b HF.out, hb⟩
def clampP (x : Int) : Int := min (max x 1) 1048576
theorem clampP_in (x : Int) : 1 ≤ clampP x ∧ clampP x ≤ 1048576 := by unfold clampP; omega
theorem set_rep (n k : Nat) (X : Int) (h : k < n) : (List.replicate k X ++ List.replicate (n - k) 0).set k X = List.replicate (k + 1) X ++ List.replicate (n - (k + 1)) 0 := by
  rw [List.set_append_right _ _ (by simp)]
  obtain ⟨m, hm⟩ : ∃ m, n - k = m + 1 := ⟨n - k - 1, by omega⟩
  rw [hm, show n - (k + 1) = m by omega, List.replicate_succ, List.length_replicate, Nat.sub_self, List.set_cons_zero, List.replicate_succ', List.append_assoc, List.singleton_append]
set_option maxHeartbeats 1600000 in
theorem pRow (n : Nat) (p : Int) (hn : n ≤ 1000) (w : World) : Calls Try.prog 66 #[.int .i64 n, .int .i64 p] w fun e w' => ∃ v, e = .returned v ∧ OwnI w.heap.size w' v (List.replicate n (clampP p)) ∧ Below w.heap.size w w' := by
  have HLl := Lib.hid (show n ≤ 1099511627776 by omega)
  have HS := Lib.hid (set_rep n)
  have hX : ∃ X, clampP p = X ∧ Hid (1 ≤ X ∧ X ≤ 1048576) := ⟨_, rfl, clampP_in p⟩
  obtain ⟨X, hX, hXb⟩ := hX
  have HE := Lib.hid (show (if 1048576 < (if p < 1 then 1 else p) then 1048576 else if p < 1 then 1 else p) = X by rw [← hX]; unfold clampP; split <;> split <;> omega)
  rw [hX]
  clear hX
  go_enter Try.func66, Try.ntmps66
  go_wp2_with (refine make_int rfl (.tmp 7) (.tmp 7) rfl .i64 .i64 _ _ n rfl rfl rfl rfl HLl.out ?_; intro w3 hown hb3 hsz3)
  have hown_ := Lib.hid hown
  clear hown
  go_loopw [11] (fun i wr => ∃ k : Nat, k ≤ n ∧ i = .int .i64 k ∧ OwnI w.heap.size wr (.slice (some ⟨w.heap.size, 0, none⟩) n n) (List.replicate k X ++ List.replicate (n - k) 0) ∧ Below w.heap.size w wr) (fun i _ => n - (intOf i).toNat)
  case atStart => exact ⟨0, Nat.zero_le _, rfl, by simpa using hown_.out, hb3⟩
  case round =>
    clear hb3
    obtain ⟨k, hk, rfl, hown, hb⟩ := hrel
    by_cases hlt : k < n
    · have hlen : (List.replicate k X ++ List.replicate (n - k) 0).length = n := by simp; omega
      have hq := hown.int_cell k (by rw [hlen]; exact hlt)
      have hfr := hown.free k
      have HSt := hown.set_int k X (by rw [hlen]; exact hlt)
      rw [HS.out k X hlt] at HSt
      have HSt_ := Lib.hid HSt
      clear HSt
      clear hown hlen
      go_wp2
      go_roundw
      case rel => exact ⟨k + 1, by omega, by go_num, by rw [HE.out]; exact HSt_.out, hb.setCell (Nat.le_refl _) _⟩
      case measure => simp [intOf]; omega
    · obtain rfl : k = n := by omega
      rw [Nat.sub_self, List.replicate_zero, List.append_nil] at hown
      have hown2 := Lib.hid hown
      clear hown
      go_wp2
      go_ret
      exact ⟨_, rfl, hown2.out, hb⟩
def FlatPost (a b : Int) (w : World) (e : Ending) (w' : World) : Prop := ∃ v u, e = .returned (.agg #[v, u]) ∧ IsL w' v (List.replicate 401 (clampP a)) ∧ IsL w' u (List.replicate 52 (clampP b)) ∧ Below w.heap.size w w'
set_option maxHeartbeats 1600000 in
theorem pFlat (a b : Int) (w : World) : Calls Try.prog 32 #[.int .i64 a, .int .i64 b] w (FlatPost a b w) := by
  have C1 := Lib.hid (fun W => pRow 401 a (by decide) W)
  have C2 := Lib.hid (fun W => pRow 52 b (by decide) W)
  go_enter Try.func32, Try.ntmps32
  go_wp2_with fail
  refine (C1.out _).mono ?_; rintro e w1 ⟨v1, rfl, hown1, hb1⟩
  obtain ⟨p1, q1, hv1⟩ := hown1.slice
  subst hv1
  have hb : Below w.heap.size w w1 := ((Below.refl _ _).alloc (Nat.le_refl _) _).trans (hb1.mono (by simp))
  have hc : w1.heap[w.heap.size]? = some (.cells #[.slice none 0 0, .slice none 0 0] 47 (0, 0)) := (hb1.block w.heap.size (by simp)).trans (heap_alloc_new w _)
  have hsz : w.heap.size < w1.heap.size := block_lt hc
  have hown1_ := Lib.hid hown1
  have hc_ := Lib.hid hc
  clear hown1 hc
  clear hb1
  go_wp2_with fail
  refine (C2.out _).mono ?_; rintro e w2 ⟨v2, rfl, hown2, hb2⟩
  obtain ⟨p2, q2, hv2⟩ := hown2.slice
  subst hv2
  rw [List.length_replicate] at hown1_ hown2
  have hc2 := (hb2.block w.heap.size hsz).trans hc_.out
  have hb := hb.trans (hb2.mono hb.size)
  have c0 : w2.cell? ⟨w.heap.size, 0, none⟩ = some (.slice none 0 0) := cell_lit hc2 0 _ rfl
  have c1 : w2.cell? ⟨w.heap.size, 1, none⟩ = some (.slice none 0 0) := cell_lit hc2 1 _ rfl
  have f0 := free_in hc2 0
  have f1 := free_in hc2 1
  have hsz2 : w.heap.size < w2.heap.size := block_lt hc2
  have HL1 := Lib.hid ((((hown1_.out.kept hb2).setLow (p := ⟨w.heap.size, 0, none⟩) (by simp) (.slice p1 401 q1)).setLow (p := ⟨w.heap.size, 1, none⟩) (by simp) (.slice p2 52 q2)).isL (by simp))
  have HL2 := Lib.hid (((hown2.setLow (p := ⟨w.heap.size, 0, none⟩) hsz (.slice p1 401 q1)).setLow (p := ⟨w.heap.size, 1, none⟩) hsz (.slice p2 52 q2)).isL (by simp))
  clear hc2 hb2 hown2
  go_wp2_with fail
  exact bodyPost_ret (v := .agg #[_, _]) (by simp [results, Try.results32, go_sem, c0, c1]) rfl (show FlatPost a b w _ _ from ⟨_, _, rfl, HL1.out, HL2.out, (hb.setCell (Nat.le_refl _) _).setCell (Nat.le_refl _) _⟩)
end Go.Proofs.Ytekageibffhloaa
