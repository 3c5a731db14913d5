/- Contracts of layer 44's functions, the program's and the document's, and of the comparison of two lists. -/
import Derived.Test.YtfemcehglolnjaaBase
import Derived.OwnWalk
import Derived.Laws.OwnMore
import Derived.Deep.Draws
import Derived.Laws.Rows
namespace Go.Proofs.Ytfemcehglolnjaa
open Go.ChangeShapes Go.WideShapes Go.ChangeAt Go.RowKit
set_option linter.unusedVariables false
set_option maxRecDepth 100000

/-- A row of values in memory. -/
def Row (w : World) (a : Option Addr) (xs : List Value) : Prop := xs = [] ∨ ∃ x, a = some x ∧ ∀ i, i < xs.length → w.cell? (x.add i) = some (xs.getD i undef)
theorem Row.at_ {w : World} {a : Option Addr} {xs : List Value} (h : Row w a xs) (k : Nat) (hk : k < xs.length) : ∃ x, a = some x ∧ w.cell? (x.add k) = some (xs.getD k undef) := by
  rcases h with h | ⟨x, h, hc⟩
  · subst h; simp at hk
  · exact ⟨x, h, hc k hk⟩
def ints (zs : List Int) : List Value := zs.map (Value.int .i64)
theorem ints_getD (zs : List Int) (k : Nat) (hk : k < zs.length) : (ints zs).getD k undef = .int .i64 (zs.getD k 0) := by simp [ints, List.getD, hk]
theorem ints_len (zs : List Int) : (ints zs).length = zs.length := by simp [ints]

theorem getD_eq_of_eq {xs ys : List Int} (h : xs = ys) (k : Nat) : xs.getD k 0 = ys.getD k 0 := by rw [h]
theorem list_eq_of (xs ys : List Int) (hl : xs.length = ys.length) (h : ∀ k, k < xs.length → xs.getD k 0 = ys.getD k 0) : xs = ys := by
  apply List.ext_getElem hl
  intro i h1 h2
  have := h i h1
  simpa [List.getD, h1, h2] using this

set_option maxHeartbeats 800000 in
/-- Ints: two lists are held against one another. -/
theorem Ints_any (a b : Option Addr) (n m c d : Nat) (xs ys : List Int) (w : World) (hn : xs.length = n) (hm : ys.length = m) (hbn : n ≤ 9223372036854775807) (hbm : m ≤ 9223372036854775807)
    (ha : Row w a (ints xs)) (hb : Row w b (ints ys)) :
    Calls Try.prog 37 #[.slice a n c, .slice b m d] w fun e w' => e = .returned (.bool (decide (xs = ys))) ∧ ∃ q, w' = w.drewN q := by
  subst hn; subst hm
  by_cases hl : xs.length = ys.length
  · have hL := Lib.hid hl
    have ht : ((xs.length : Int) == (ys.length : Int)) = true := by rw [beq_iff_eq]; omega
    have ht2 : ((xs.length : Int) != (ys.length : Int)) = false := by simp [hl]
    clear hl
    go_enter Try.func37, Try.ntmps37
    go_wp2
    go_loopw [5] (fun i wr => ∃ k q : Nat, k ≤ xs.length ∧ i = .int .i64 k ∧ wr = w.drewN q ∧ ∀ j, j < k → xs.getD j 0 = ys.getD j 0) (fun i _ => xs.length - (intOf i).toNat)
    case atStart => exact ⟨0, 0, Nat.zero_le _, rfl, rfl, fun j hj => absurd hj (by omega)⟩
    case round =>
      obtain ⟨k, q, hk, rfl, rfl, heq⟩ := hrel
      have HE := Lib.hid heq; clear heq
      by_cases hlt : k < xs.length
      · have hlt2 : k < ys.length := by have := hL.out; omega
        obtain ⟨x, rfl, hx⟩ := ha.at_ k (by rw [ints_len]; exact hlt)
        obtain ⟨y, rfl, hy⟩ := hb.at_ k (by rw [ints_len]; exact hlt2)
        rw [ints_getD xs k hlt] at hx; rw [ints_getD ys k hlt2] at hy
        obtain ⟨f, hf⟩ : ∃ f, xs.getD k 0 = f := ⟨_, rfl⟩
        obtain ⟨g, hg⟩ : ∃ g, ys.getD k 0 = g := ⟨_, rfl⟩
        rw [hf] at hx; rw [hg] at hy
        have HF := Lib.hid hf; have HG := Lib.hid hg; have HA := Lib.hid ha; have HB := Lib.hid hb
        clear hf hg ha hb
        have b1 : (k : Int) < (xs.length : Int) := by omega
        have b2 : (k : Int) < (ys.length : Int) := by omega
        by_cases hc : f = g
        · have t : (f == g) = true := by rw [beq_iff_eq]; exact hc
          have hj : ∀ j, j < k + 1 → xs.getD j 0 = ys.getD j 0 := fun j hj => by
            rcases Nat.lt_or_eq_of_le (Nat.le_of_lt_succ hj) with h | rfl
            · exact HE.out j h
            · rw [HF.out, HG.out]; exact hc
          have HJ := Lib.hid hj; clear hj hc
          go_wp2_with fail
          go_quiet (fail)
          go_wp2
          go_roundw
          case rel => exact ⟨k + 1, q + nq, by omega, by go_num, by first | rfl | rw [World.drewN_drewN], HJ.out⟩
          case measure => simp [intOf]; omega
        · have t : (f == g) = false := by rw [beq_eq_false_iff_ne]; exact hc
          have hne : decide (xs = ys) = false := by rw [decide_eq_false_iff_not]; intro h; exact hc (by rw [← HF.out, ← HG.out, h])
          have HN := Lib.hid hne; clear hne hc
          go_wp2_with fail
          go_quiet (fail)
          go_wp2
          go_ret
          exact ⟨ret_b (by rw [HN.out]), q + nq, by first | rfl | rw [World.drewN_drewN]⟩
      · have he : decide (xs = ys) = true := by rw [decide_eq_true_iff]; exact list_eq_of xs ys hL.out (fun j hj => HE.out j (by omega))
        have HN := Lib.hid he; clear he
        go_wp2
        go_ret
        exact ⟨ret_b (by rw [HN.out]), q, rfl⟩
  · have ht : ((xs.length : Int) == (ys.length : Int)) = false := by rw [beq_eq_false_iff_ne]; omega
    have hne : decide (xs = ys) = false := by rw [decide_eq_false_iff_not]; intro h; exact hl (by rw [h])
    have HN := Lib.hid hne; clear hne hl
    go_enter Try.func37, Try.ntmps37
    go_wp2
    go_ret
    exact ⟨ret_b (by rw [HN.out]), 0, rfl⟩

theorem add_block (a : Addr) (n : Nat) : (a.add n).block = a.block := by unfold Addr.add; split <;> rfl
theorem Row.below {w w' : World} {a : Option Addr} {xs : List Value} (h : Row w a xs) (hb : Below w.heap.size w w') : Row w' a xs := by
  rcases h with h | ⟨x, h, hc⟩
  · exact .inl h
  · exact .inr ⟨x, h, fun i hi => by
      have h1 := hc i hi
      rw [hb.cell (block_lt_of_cell h1)]; exact h1⟩
theorem Row.drewN {w : World} {a : Option Addr} {xs : List Value} (h : Row w a xs) (n : Nat) : Row (w.drewN n) a xs := h
theorem row_of_own {w : World} {base e : Nat} {v : Value} {n : Nat} {xs : List Value} (h : w.ownsRow base e 1 v n xs) : ∃ A c, v = .slice A n c ∧ Row w A xs ∧ xs.length = n := by
  have hl : xs.length = n := by have := h.1; omega
  rcases h.2 with ⟨rfl, h0⟩ | ⟨g, cap, cur, rfl, _⟩
  · refine ⟨none, 0, ?_, .inl ?_, hl⟩
    · have : n = 0 := by simpa using h0
      rw [this]
    · apply List.eq_nil_of_length_eq_zero; rw [hl]; simpa using h0
  · refine ⟨some ⟨g, 0, none⟩, cap, rfl, .inr ⟨_, rfl, fun i hi => ?_⟩, hl⟩
    have e1 : (⟨g, 0, none⟩ : Addr).add i = ⟨g, i, none⟩ := by unfold Addr.add; split <;> simp_all
    rw [e1, h.cellAt i (by omega)]
    simp [List.getD, hi]

def updP (p : Nat) (b : Bool) : Nat := if b then p - p / 32 else p + (2048 - p) / 32
theorem updP_bd (p : Nat) (b : Bool) (h0 : 31 ≤ p) (h1 : p ≤ 2017) : 31 ≤ updP p b ∧ updP p b ≤ 2017 := by unfold updP; split <;> omega

theorem update_in (p : Nat) (b : Bool) (h0 : 1 ≤ p) (h1 : p < 2048) (w : World) :
    Calls Try.prog 35 #[.int .i64 p, .bool b] w fun e w' => e = .returned (.tuple #[.int .i64 (updP p b), .int .i64 0]) ∧ w = w' := by
  cases b
  · have e : updP p false = p + (2048 - p) / 32 := rfl
    have e2 : ((updP p false : Nat) : Int) = (p : Int) + (2048 - (p : Int)) / 32 := by rw [e]; omega
    rw [e2]; clear e e2
    go_enter Try.func35, Try.ntmps35
    go_wp2
    go_ret2
    exact ⟨rfl, rfl⟩
  · have e : updP p true = p - p / 32 := rfl
    have e2 : ((updP p true : Nat) : Int) = (p : Int) - (p : Int) / 32 := by rw [e]; omega
    rw [e2]; clear e e2
    go_enter Try.func35, Try.ntmps35
    go_wp2
    go_ret2
    exact ⟨rfl, rfl⟩
theorem update_out (p : Int) (b : Bool) (h : p < 1 ∨ 2048 ≤ p) (w : World) :
    Calls Try.prog 35 #[.int .i64 p, .bool b] w fun e w' => e = .returned (.tuple #[.int .i64 0, .int .i64 2]) ∧ w = w' := by
  rcases h with h | h
  · go_enter Try.func35, Try.ntmps35
    go_wp2
    go_ret2
    exact ⟨rfl, rfl⟩
  · have h' : ¬ p < 1 := by omega
    go_enter Try.func35, Try.ntmps35
    go_wp2
    go_ret2
    exact ⟨rfl, rfl⟩
theorem fits_in (p : Int) (h : 1 ≤ p) (h2 : p ≤ 2047) (w : World) :
    Calls Try.prog 54 #[.int .i64 p] w fun e w' => e = .returned (.bool true) ∧ w = w' := by
  go_enter Try.func54, Try.ntmps54
  go_wp2
  go_ret
  exact ⟨rfl, rfl⟩
theorem fits_out (p : Int) (h : p < 1 ∨ 2048 ≤ p) (w : World) :
    Calls Try.prog 54 #[.int .i64 p] w fun e w' => e = .returned (.bool false) ∧ w = w' := by
  rcases h with h | h
  · go_enter Try.func54, Try.ntmps54
    go_wp2
    go_ret
    exact ⟨rfl, rfl⟩
  · have h' : 1 ≤ p := by omega
    have h2 : ¬ p ≤ 2047 := by omega
    go_enter Try.func54, Try.ntmps54
    go_wp2
    go_ret
    exact ⟨rfl, rfl⟩
theorem refUpdate_in (p : Nat) (b : Bool) (h0 : 1 ≤ p) (h1 : p < 2048) (w : World) :
    Calls Try.prog 36 #[.int .i64 p, .bool b] w fun e w' => e = .returned (.tuple #[.int .i64 (updP p b), .int .i64 0]) ∧ w = w' := by
  have F := Lib.hid (fits_in p (by omega) (by omega))
  cases b
  · have e : updP p false = p + (2048 - p) / 32 := rfl
    have e2 : ((updP p false : Nat) : Int) = (p : Int) + (2048 - (p : Int)) / 32 := by rw [e]; omega
    rw [e2]; clear e e2
    go_enter Try.func36, Try.ntmps36
    go_wp2_with fail
    refine (F.out _).mono ?_; rintro e w' ⟨rfl, rfl⟩
    go_wp2
    go_ret2
    exact ⟨rfl, rfl⟩
  · have e : updP p true = p - p / 32 := rfl
    have e2 : ((updP p true : Nat) : Int) = (p : Int) - (p : Int) / 32 := by rw [e]; omega
    rw [e2]; clear e e2
    go_enter Try.func36, Try.ntmps36
    go_wp2_with fail
    refine (F.out _).mono ?_; rintro e w' ⟨rfl, rfl⟩
    go_wp2
    go_ret2
    exact ⟨rfl, rfl⟩
theorem refUpdate_out (p : Int) (b : Bool) (h : p < 1 ∨ 2048 ≤ p) (w : World) :
    Calls Try.prog 36 #[.int .i64 p, .bool b] w fun e w' => e = .returned (.tuple #[.int .i64 0, .int .i64 2]) ∧ w = w' := by
  have F := Lib.hid (fits_out p h)
  clear h
  go_enter Try.func36, Try.ntmps36
  go_wp2_with fail
  refine (F.out _).mono ?_; rintro e w' ⟨rfl, rfl⟩
  go_wp2
  go_ret2
  exact ⟨rfl, rfl⟩
theorem start_any (w : World) : Calls Try.prog 40 #[] w fun e w' => e = .returned (.int .i64 1024) ∧ w = w' := by
  go_enter Try.func40, Try.ntmps40
  go_wp2
  go_ret
  exact ⟨rfl, rfl⟩

/-- The chance ahead of the j-th bit. -/
def pAt (bs : List Bool) (j : Nat) : Nat := (bs.take j).foldl updP 1024
theorem pAt_bd (bs : List Bool) (j : Nat) : 31 ≤ pAt bs j ∧ pAt bs j ≤ 2017 := by
  have h : ∀ (l : List Bool) (p : Nat), 31 ≤ p → p ≤ 2017 → 31 ≤ l.foldl updP p ∧ l.foldl updP p ≤ 2017 := by
    intro l
    induction l with
    | nil => intro p h0 h1; exact ⟨h0, h1⟩
    | cons b l ih => intro p h0 h1; exact ih _ (updP_bd p b h0 h1).1 (updP_bd p b h0 h1).2
  exact h _ _ (by decide) (by decide)
theorem pAt_succ (bs : List Bool) (j : Nat) (h : j < bs.length) : pAt bs (j + 1) = updP (pAt bs j) (bs.getD j false) := by
  unfold pAt
  rw [List.take_succ_eq_append_getElem h, List.foldl_append]; simp [List.getD, h]
def probsL (bs : List Bool) : List Int := (List.range bs.length).map fun j => (pAt bs j : Int)
theorem probsL_len (bs : List Bool) : (probsL bs).length = bs.length := by simp [probsL]
theorem ints_probs (bs : List Bool) (xs : List Value) (hl : xs.length = bs.length) (h : ∀ j, j < bs.length → xs[j]? = some (.int .i64 (pAt bs j))) : xs = ints (probsL bs) := by
  apply List.ext_getElem?
  intro j
  by_cases hj : j < bs.length
  · rw [h j hj]; simp [ints, probsL, hj]
  · rw [List.getElem?_eq_none (by omega), List.getElem?_eq_none (by simp [ints, probsL]; omega)]

def bools (bs : List Bool) : List Value := bs.map Value.bool
theorem bools_len (bs : List Bool) : (bools bs).length = bs.length := by simp [bools]
theorem bools_getD (bs : List Bool) (k : Nat) (h : k < bs.length) : (bools bs).getD k undef = .bool (bs.getD k false) := by simp [bools, List.getD, h]

theorem infoInt : (Try.prog.info? 3).map (fun i => (i.zero, i.size, i.bytes)) = some (some (.int .i64 0), 1, 8) := by kernel_rfl

/-- What a call hands back that made a list. -/
def Made (w : World) (zs : List Int) (e : Ending) (w' : World) : Prop := ∃ v, e = .returned v ∧ w'.ownsRow w.heap.size 3 1 v zs.length (ints zs) ∧ Below w.heap.size w w'

set_option maxHeartbeats 1600000 in
theorem of_any (a : Option Addr) (n c : Nat) (bs : List Bool) (w : World) (hn : bs.length = n) (hm : n ≤ 1000000) (hr : Row w a (bools bs)) :
    Calls Try.prog 38 #[.slice a n c] w (Made w (probsL bs)) := by
  obtain ⟨i0, hi, hz0, hz1, hz2⟩ := info_parts infoInt
  have S1 := Lib.hid start_any
  subst hn
  go_enter Try.func38, Try.ntmps38
  go_wp2_with (refine wpList_make_full _ rfl (.tmp 8) (.tmp 8) 52 rfl w.heap.size 3 i0 (.int .i64 0) 1 Try.underlying52 hi hz0 hz1 .i64 .i64 _ _ bs.length rfl rfl rfl rfl ?c1 ?c2 ?c3 ?_)
  case c1 => rw [hz2]; omega
  case c2 => unfold maxLen; omega
  case c3 => exact Nat.le_refl _
  intro w1 hown hgrow
  go_wp2_with fail
  refine (S1.out _).mono ?_; rintro e w' ⟨rfl, rfl⟩
  have hb1 : Below w.heap.size w w1 := (Below.refl _ _).grown hgrow (Nat.le_refl _) (fun k hk => by cases hk)
  have hlen : (madeCells #[Value.int .i64 0] bs.length).toList.length = bs.length := by have := hown.1; omega
  obtain ⟨Z, hZ⟩ : ∃ Z, (madeCells #[Value.int .i64 0] bs.length).toList = Z := ⟨_, rfl⟩
  rw [hZ] at hown hlen
  have hown' := hown
  have HL := Lib.hid hlen
  clear hZ hlen hown hgrow
  go_wp2_with fail
  go_loopw [4, 13] (fun s i wr => ∃ (k : Nat) (xs : List Value), k ≤ bs.length ∧ i = .int .i64 k ∧ s = .int .i64 (pAt bs k) ∧ xs.length = bs.length ∧ (∀ j, j < k → xs[j]? = some (.int .i64 (pAt bs j))) ∧
      wr.ownsRow w.heap.size 3 1 (.slice (some ⟨w.heap.size, 0, none⟩) bs.length bs.length) bs.length xs ∧ Below w.heap.size w wr) (fun _ i _ => bs.length - (intOf i).toNat)
  case atStart => exact ⟨0, Z, Nat.zero_le _, rfl, rfl, HL.out, fun j hj => absurd hj (by omega), hown', hb1⟩
  case round =>
    clear hown' hb1 HL
    obtain ⟨k, xs, hk, rfl, rfl, hxl, hxs, hown, hb⟩ := hrel
    have HX := Lib.hid hxs; have HXL := Lib.hid hxl; clear hxs hxl
    by_cases hlt : k < bs.length
    · obtain ⟨x, rfl, hx⟩ := hr.at_ k (by rw [bools_len]; exact hlt)
      rw [bools_getD bs k hlt] at hx
      have hx' := (hb.cell (block_lt_of_cell hx)).trans hx
      have hp := pAt_bd bs k
      have hs := pAt_succ bs k hlt
      obtain ⟨p, hpk⟩ : ∃ p, pAt bs k = p := ⟨_, rfl⟩
      rw [hpk] at hp hs
      obtain ⟨b, hbk⟩ : ∃ b, bs.getD k false = b := ⟨_, rfl⟩
      rw [hbk] at hx hx' hs
      obtain ⟨hp0, hp1⟩ := hp
      have hst := hown.stored k (.int .i64 p)
      have hfr := hown.frozenAt k
      have hce := hown.cellAt k (by omega)
      have hold : ∃ u, wr.cell? ⟨w.heap.size, k, none⟩ = some u := by
        rw [hce]; exact ⟨xs[k]'(by rw [HXL.out]; exact hlt), List.getElem?_eq_getElem _⟩
      obtain ⟨u, hu⟩ := hold
      have HS := Lib.hid hs; have HP := Lib.hid hpk; have HST := Lib.hid hst; have HR := Lib.hid hr
      have U := Lib.hid (update_in p b (by omega) (by omega))
      clear hs hpk hst hr hce hx hbk
      rw [HP.out]
      go_wp2_with fail
      refine (U.out _).mono ?_; rintro e w' ⟨rfl, rfl⟩
      have hb2 : Below w.heap.size w (wr.setCell ⟨w.heap.size, k, none⟩ (.int .i64 p)) := hb.setCell (Nat.le_refl _) _
      go_wp2
      go_roundw
      case rel =>
        refine ⟨k + 1, xs.set k (.int .i64 p), by omega, by go_num, by rw [HS.out], by rw [List.length_set]; exact HXL.out, fun j hj => ?_, HST.out.1, hb2⟩
        rcases Nat.lt_or_eq_of_le (Nat.le_of_lt_succ hj) with h | rfl
        · rw [List.getElem?_set_ne (by omega)]; exact HX.out j h
        · rw [List.getElem?_set_self (by rw [HXL.out]; exact hlt), HP.out]
      case measure => simp [intOf]; omega
    · have he : xs = ints (probsL bs) := ints_probs bs xs HXL.out (fun j hj => HX.out j (by omega))
      have hl : bs.length = (probsL bs).length := (probsL_len bs).symm
      have HE := Lib.hid he; have HLL := Lib.hid hl; clear he hl
      go_wp2
      go_ret
      refine ⟨_, rfl, ?_, hb⟩
      have := hown
      rw [HE.out] at this
      rw [← HLL.out]
      exact this

set_option maxHeartbeats 1600000 in
theorem refOf_any (a : Option Addr) (n c : Nat) (bs : List Bool) (w : World) (hn : bs.length = n) (hm : n ≤ 1000000) (hr : Row w a (bools bs)) :
    Calls Try.prog 39 #[.slice a n c] w (Made w (probsL bs)) := by
  obtain ⟨i0, hi, hz0, hz1, hz2⟩ := info_parts infoInt
  subst hn
  go_enter Try.func39, Try.ntmps39
  go_wp2_with fail
  go_loopw [3, 4, 5] (fun s v i wr => ∃ (k : Nat), k ≤ bs.length ∧ i = .int .i64 k ∧ s = .int .i64 (pAt bs k) ∧ wr.ownsRow w.heap.size 3 1 v k (ints ((probsL bs).take k)) ∧ Below w.heap.size w wr) (fun _ _ i _ => bs.length - (intOf i).toNat)
  case atStart => exact ⟨0, Nat.zero_le _, rfl, rfl, World.ownsRow_nil _ _ _ _, Below.refl _ _⟩
  case round =>
    obtain ⟨k, hk, rfl, rfl, hown, hb⟩ := hrel
    by_cases hlt : k < bs.length
    · obtain ⟨x, rfl, hx⟩ := hr.at_ k (by rw [bools_len]; exact hlt)
      rw [bools_getD bs k hlt] at hx
      have hp := pAt_bd bs k
      have hs := pAt_succ bs k hlt
      have ht : (probsL bs).take (k + 1) = (probsL bs).take k ++ [((pAt bs k : Nat) : Int)] := by
        rw [List.take_succ_eq_append_getElem (by rw [probsL_len]; exact hlt)]; simp [probsL]
      obtain ⟨p, hpk⟩ : ∃ p, pAt bs k = p := ⟨_, rfl⟩
      rw [hpk] at hp hs ht
      obtain ⟨b, hbk⟩ : ∃ b, bs.getD k false = b := ⟨_, rfl⟩
      rw [hbk] at hx hs
      obtain ⟨hp0, hp1⟩ := hp
      have hxb := block_lt_of_cell hx
      have HXX := Lib.hid hx
      have HS := Lib.hid hs; have HP := Lib.hid hpk; have HR := Lib.hid hr; have HT := Lib.hid ht
      have U := Lib.hid (refUpdate_in p b (by omega) (by omega))
      clear hs hpk hr hx hbk ht
      rw [HP.out]
      go_wp2_with (at_builtin; refine wpList_append_own _ rfl _ _ 52 rfl w.heap.size 3 i0 (.int .i64 0) 1 8 Try.underlying52 hi hz0 hz1 hz2 rfl (by decide) _ _ _ rfl (hown.alloc _) ⟨wr.heap.size, 0, none⟩ 1 1 [Value.int .i64 (p : Int)] rfl rfl ?d1 ?d2 ?d3 ?d4 ?d5 ?_)
      case d1 =>
        intro j u hj
        match j, hj with
        | 0, hj => simp at hj; subst hj; simp [Addr.add]
      case d2 => intro u hu; simp at hu; subst hu; rfl
      case d3 => unfold maxLen; omega
      case d4 => omega
      case d5 => have := hb.size; simp; omega
      intro v1 w1 hown1 hgrow1 _
      have hb1 : Below w.heap.size w w1 := (hb.alloc (by have := hb.size; omega) _).grown hgrow1 (by have := hb.size; simp; omega) (fun k hk => (hown.lt k hk).1)
      have hx1 := (hb1.cell hxb).trans HXX.out
      clear hgrow1 hown
      go_wp2_with fail
      refine (U.out _).mono ?_; rintro e w' ⟨rfl, rfl⟩
      go_wp2
      go_roundw
      case rel => exact ⟨k + 1, by omega, by go_num, by rw [HS.out], by rw [HT.out]; unfold ints at hown1 ⊢; rw [List.map_append]; exact hown1, hb1⟩
      case measure => simp [intOf]; omega
    · obtain rfl : k = bs.length := by omega
      have hl : bs.length = (probsL bs).length := (probsL_len bs).symm
      have ht : (probsL bs).take bs.length = probsL bs := List.take_of_length_le (by rw [probsL_len]; exact Nat.le_refl _)
      rw [ht] at hown
      have HLL := Lib.hid hl; clear hl ht
      go_wp2
      go_ret
      exact ⟨_, rfl, by rw [← HLL.out]; exact hown, hb⟩
end Go.Proofs.Ytfemcehglolnjaa
