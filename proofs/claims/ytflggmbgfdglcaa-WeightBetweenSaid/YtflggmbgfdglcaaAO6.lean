/- Layer 14: lists; ratios. -/
import Derived.Test.YtflggmbgfdglcaaAO5
import Derived.Test.YtflggmbgfdglcaaB4
namespace Go.Proofs.Ytflggmbgfdglcaa
open Go.ChangeShapes Go.WideShapes Go.ChangeAt Go.RowKit
set_option linter.unusedVariables false
set_option linter.unusedSimpArgs false
set_option maxRecDepth 100000
open Ieee
theorem IsFl.at {w : World} {a : Option Addr} {l : List Nat} (h : IsFl w a l) (k : Nat) (hk : k < l.length) : ∃ x : Addr, a = some x ∧ x.block < w.heap.size ∧ ∀ i, i < l.length → w.cell? (x.add i) = some (.float .f64 (l.getD i 0)) := by
  rcases h with rfl | ⟨x, rfl, hc⟩
  · simp at hk
  · exact ⟨x, rfl, by have := cell_block (hc k hk); rwa [add_block] at this, hc⟩
theorem IsFl.kept {w w' : World} {a : Option Addr} {l : List Nat} (h : IsFl w a l) (hb : Below w.heap.size w w') : IsFl w' a l := by
  rcases h with rfl | ⟨x, rfl, hc⟩
  · exact .inl rfl
  · exact .inr ⟨x, rfl, fun i hi => by
      have h1 := hc i hi
      exact (hb.cell (cell_block h1)).trans h1⟩
/-- What the list of all is, or the first error. -/
def FrR (l : List Nat) (out : List Int) (E : Int) : Prop := ((∀ x ∈ l, (wholeV x).2 = 0) ∧ out = l.map (fun x => (wholeV x).1) ∧ E = 0) ∨ (∃ i, i < l.length ∧ (∀ j, j < i → (wholeV (l.getD j 0)).2 = 0) ∧ (wholeV (l.getD i 0)).2 ≠ 0 ∧ out = [] ∧ E = (wholeV (l.getD i 0)).2)
theorem frR_any (l : List Nat) : ∃ out E, FrR l out E := by
  by_cases h : ∀ x ∈ l, (wholeV x).2 = 0
  · exact ⟨_, _, .inl ⟨h, rfl, rfl⟩⟩
  · have : ∃ i, i < l.length ∧ (wholeV (l.getD i 0)).2 ≠ 0 := by
      apply Classical.byContradiction
      intro hn
      refine h fun x hx => ?_
      obtain ⟨i, hi, e⟩ := List.mem_iff_getElem.1 hx
      apply Classical.byContradiction
      intro h2
      refine hn ⟨i, hi, ?_⟩
      rw [List.getD_eq_getElem?_getD, List.getElem?_eq_getElem hi, e]; exact h2
    have key : ∀ n i, i ≤ n → i < l.length → (wholeV (l.getD i 0)).2 ≠ 0 → ∃ i, i < l.length ∧ (∀ j, j < i → (wholeV (l.getD j 0)).2 = 0) ∧ (wholeV (l.getD i 0)).2 ≠ 0 := by
      intro n
      induction n with
      | zero => intro i hi h1 h2; exact ⟨i, h1, fun j hj => by omega, h2⟩
      | succ n ih =>
        intro i hi h1 h2
        by_cases hb : ∃ j, j < i ∧ (wholeV (l.getD j 0)).2 ≠ 0
        · obtain ⟨j, hj, h3⟩ := hb
          exact ih j (by omega) (by omega) h3
        · exact ⟨i, h1, fun j hj => Classical.byContradiction fun h3 => hb ⟨j, hj, h3⟩, h2⟩
    obtain ⟨i, h1, h2⟩ := this
    obtain ⟨i, h1, h3, h4⟩ := key i i (Nat.le_refl _) h1 h2
    exact ⟨_, _, .inr ⟨i, h1, h3, h4, rfl, rfl⟩⟩
theorem FrR.err {l : List Nat} {out : List Int} {E : Int} (h : FrR l out E) {k : Nat} (hk : k < l.length) (h1 : ∀ j, j < k → (wholeV (l.getD j 0)).2 = 0) (h2 : (wholeV (l.getD k 0)).2 ≠ 0) : out = [] ∧ E = (wholeV (l.getD k 0)).2 := by
  rcases h with ⟨h, -, -⟩ | ⟨i, hi, h3, h4, rfl, rfl⟩
  · refine absurd (h _ ?_) h2
    rw [List.getD_eq_getElem?_getD, List.getElem?_eq_getElem hk]
    exact List.getElem_mem hk
  · have : i = k := by
      rcases Nat.lt_trichotomy i k with hc | hc | hc
      · exact absurd (h1 i hc) h4
      · exact hc
      · exact absurd (h3 k hc) h2
    subst this
    exact ⟨rfl, rfl⟩
theorem FrR.done {l : List Nat} {out : List Int} {E : Int} (h : FrR l out E) (h1 : ∀ j, j < l.length → (wholeV (l.getD j 0)).2 = 0) : out = l.map (fun x => (wholeV x).1) ∧ E = 0 := by
  rcases h with ⟨-, h2, h3⟩ | ⟨i, hi, -, h4, -, -⟩
  · exact ⟨h2, h3⟩
  · exact absurd (h1 i hi) h4
theorem map_take_next (l : List Nat) (k : Nat) (h : k < l.length) : (l.take (k + 1)).map (fun x => (wholeV x).1) = (l.take k).map (fun x => (wholeV x).1) ++ [(wholeV (l.getD k 0)).1] := by
  rw [List.take_succ_eq_append_getElem h, List.map_append, List.getD_eq_getElem?_getD, List.getElem?_eq_getElem h]; rfl
theorem set_at_next (A B : List Int) (x y : Int) (k : Nat) (h : A.length = k) : (A ++ x :: B).set k y = A ++ [y] ++ B := by
  subst h
  induction A with
  | nil => rfl
  | cons a A ih => simp only [List.cons_append, List.length_cons, List.set_cons_succ, ih]
set_option maxHeartbeats 3200000 in
theorem cFreqs (a : Option Addr) (c : Nat) (l : List Nat) (w : World) (h : IsFl w a l) (hl : l.length ≤ 300) (hb : ∀ b ∈ l, b < 18446744073709551616) (out : List Int) (E : Int) (hR : FrR l out E) :
    Calls Try.prog 9 #[.slice a l.length c] w fun e w' => ∃ v, e = .returned (.tuple #[v, .int .i64 E]) ∧ IsL w' v out ∧ Below w.heap.size w w' := by
  have HI := Lib.hid h
  have HBD := Lib.hid hb
  have HRR := Lib.hid hR
  clear h hb hR
  go_enter Try.func9, Try.ntmps9
  go_wp2_with (refine make_int rfl (.tmp 10) (.tmp 10) rfl .i64 .i64 _ _ l.length rfl rfl rfl rfl (by omega) ?_; intro w1 ho1 hb1 hz1)
  obtain ⟨g, hg⟩ : ∃ g, w.heap.size = g := ⟨_, rfl⟩
  have HG := Lib.hid hg
  rw [hg] at ho1 hb1 hz1 ⊢
  have HO1 := Lib.hid ho1
  have HB1 := Lib.hid hb1
  have hgw1 := hz1
  clear ho1 hb1 hg hz1
  go_wp2_with fail
  go_loopw [14] (fun iv wr => ∃ k : Nat, k ≤ l.length ∧ iv = .int .i64 k ∧ Hid (∀ j, j < k → (wholeV (l.getD j 0)).2 = 0) ∧ Hid (OwnI g wr (.slice (some ⟨g, 0, none⟩) l.length l.length) ((l.take k).map (fun x => (wholeV x).1) ++ List.replicate (l.length - k) 0)) ∧ Hid (Below g w wr)) (fun iv _ => l.length - (intOf iv).toNat)
  case atStart => exact ⟨0, Nat.zero_le _, rfl, Lib.hid (fun j hj => by omega), Lib.hid (by simpa using HO1.out), HB1⟩
  case round =>
    clear HO1 HB1
    obtain ⟨k, hk, rfl, hall, ho, hb⟩ := hrel
    have hi := Lib.hid (HI.out.kept (by rw [HG.out]; exact hb.out))
    by_cases hlt : k < l.length
    · obtain ⟨x, rfl, hxb, cx⟩ := hi.out.at k hlt
      have cs := cx k hlt
      have hmem : l.getD k 0 ∈ l := by rw [List.getD_eq_getElem?_getD, List.getElem?_eq_getElem hlt]; exact List.getElem_mem hlt
      have hxl := HBD.out _ hmem
      have hnx := map_take_next l k hlt
      have herr := HRR.out.err hlt hall.out
      have hnext : (wholeV (l.getD k 0)).2 = 0 → ∀ j, j < k + 1 → (wholeV (l.getD j 0)).2 = 0 := fun h j hj => by
        by_cases e : j = k
        · subst e; exact h
        · exact hall.out j (by omega)
      obtain ⟨X, hX⟩ : ∃ X, l.getD k 0 = X := ⟨_, rfl⟩
      rw [hX] at cs hxl hnx herr hnext
      obtain ⟨⟨N, F⟩, hV⟩ : ∃ r, wholeV X = r := ⟨_, rfl⟩
      have CW := Lib.hid (fun W => cWhole X hxl N F hV W)
      rw [hV] at hnx herr hnext
      simp only at hnx herr hnext
      have hki : (k : Int) < (l.length : Int) := by omega
      have HERR := Lib.hid herr
      have HNX := Lib.hid hnx
      have HNE := Lib.hid hnext
      have hml : ((l.take k).map (fun x => (wholeV x).1)).length = k := by rw [List.length_map, List.length_take]; omega
      have hrep : List.replicate (l.length - k) (0 : Int) = 0 :: List.replicate (l.length - (k + 1)) 0 := by
        rw [show l.length - k = (l.length - (k + 1)) + 1 by omega, List.replicate_succ]
      clear cx hX hV hnx herr hnext hmem hxl
      by_cases hF : F = 0
      · subst hF
        have hk0 : (0 : Int) ≤ (k : Int) := by omega
        go_wp2_with fail
        refine (CW.out _).mono ?_; rintro e w2 ⟨rfl, hb2⟩
        have HO2 := Lib.hid (OwnS.kept ho.out hb2)
        have HB2 := Lib.hid (hb.out.trans (hb2.mono (show g ≤ wr.heap.size by have := (OwnS.lt ho.out g rfl).2; omega)))
        have cf := HO2.out.free k
        have cc := OwnS.int_cell HO2.out k (by rw [List.length_append, hml, List.length_replicate]; omega)
        rw [List.getD_eq_getElem?_getD, List.getElem?_append_right (by omega), hml, Nat.sub_self, hrep] at cc
        simp only [List.getElem?_cons_zero, Option.getD_some] at cc
        have hst := OwnS.set_int HO2.out k N (by rw [List.length_append, hml, List.length_replicate]; omega)
        rw [hrep, set_at_next _ _ _ _ _ hml, ← HNX.out] at hst
        have HST := Lib.hid hst
        have HB3 := Lib.hid (HB2.out.setCell (p := ⟨g, k, none⟩) (Nat.le_refl _) (.int .i64 N))
        clear hb2 ho hi hb hst hml hrep
        go_wp2_with fail
        go_roundw
        case rel => exact ⟨k + 1, by omega, by go_num, Lib.hid (HNE.out (by first | rfl | trivial)), HST, HB3⟩
        case measure => simp [intOf]; omega
      · obtain ⟨rfl, rfl⟩ := HERR.out hF
        have hFb : (E != 0) = true := by rw [bne_iff_ne]; exact hF
        go_wp2_with fail
        refine (CW.out _).mono ?_; rintro e w2 ⟨rfl, hb2⟩
        have HB2 := Lib.hid (hb.out.trans (hb2.mono (show g ≤ wr.heap.size by have := (OwnS.lt ho.out g rfl).2; omega)))
        clear hb2
        go_wp2_with fail
        go_ret2
        exact ⟨_, rfl, IsL.nil _, by rw [HG.out]; exact HB2.out⟩
    · obtain rfl : k = l.length := by omega
      obtain ⟨rfl, rfl⟩ := HRR.out.done hall.out
      have hki : ¬ (l.length : Int) < (l.length : Int) := by omega
      have HO := Lib.hid (OwnS.isL (show OwnI g wr (.slice (some ⟨g, 0, none⟩) l.length l.length) (l.map (fun x => (wholeV x).1)) from by
        have := ho.out
        rw [List.take_length, Nat.sub_self, List.replicate_zero, List.append_nil] at this
        exact this) (by rw [List.length_map]; omega))
      go_wp2_with fail
      go_ret2
      exact ⟨_, rfl, HO.out, by rw [HG.out]; exact hb.out⟩
set_option maxHeartbeats 3200000 in
theorem dFreqsF (a : Option Addr) (c : Nat) (l : List Nat) (w : World) (h : IsFl w a l) (hl : l.length ≤ 300) (hb : ∀ b ∈ l, b < 18446744073709551616) (out : List Int) (E : Int) (hR : FrR l out E) :
    Calls Try.prog 10 #[.slice a l.length c] w fun e w' => ∃ v, e = .returned (.tuple #[v, .int .i64 E]) ∧ IsL w' v out ∧ Below w.heap.size w w' := by
  have HI := Lib.hid h
  have HBD := Lib.hid hb
  have HRR := Lib.hid hR
  clear h hb hR
  go_enter Try.func10, Try.ntmps10
  go_wp2_with fail
  go_loopw [4, 5] (fun u iv wr => ∃ k : Nat, k ≤ l.length ∧ iv = .int .i64 k ∧ Hid (∀ j, j < k → (wholeV (l.getD j 0)).2 = 0) ∧ Hid (OwnI w.heap.size wr u ((l.take k).map (fun x => (wholeV x).1))) ∧ Hid (Below w.heap.size w wr)) (fun _ iv _ => l.length - (intOf iv).toNat)
  case atStart => exact ⟨0, Nat.zero_le _, rfl, Lib.hid (fun j hj => by omega), Lib.hid (by simpa using OwnS.nil), Lib.hid (Below.refl _ _)⟩
  case round =>
    obtain ⟨k, hk, rfl, hall, ho, hb⟩ := hrel
    have hi := Lib.hid (HI.out.kept hb.out)
    by_cases hlt : k < l.length
    · obtain ⟨x, rfl, hxb, cx⟩ := hi.out.at k hlt
      have cs := cx k hlt
      have hmem : l.getD k 0 ∈ l := by rw [List.getD_eq_getElem?_getD, List.getElem?_eq_getElem hlt]; exact List.getElem_mem hlt
      have hxl := HBD.out _ hmem
      have hnx := map_take_next l k hlt
      have herr := HRR.out.err hlt hall.out
      have hnext : (wholeV (l.getD k 0)).2 = 0 → ∀ j, j < k + 1 → (wholeV (l.getD j 0)).2 = 0 := fun h j hj => by
        by_cases e : j = k
        · subst e; exact h
        · exact hall.out j (by omega)
      obtain ⟨X, hX⟩ : ∃ X, l.getD k 0 = X := ⟨_, rfl⟩
      rw [hX] at cs hxl hnx herr hnext
      obtain ⟨⟨N, F⟩, hV⟩ : ∃ r, wholeV X = r := ⟨_, rfl⟩
      have CW := Lib.hid (fun W => dWhole X hxl N F hV W)
      rw [hV] at hnx herr hnext
      simp only at hnx herr hnext
      have hki : (k : Int) < (l.length : Int) := by omega
      have HERR := Lib.hid herr
      have HNX := Lib.hid hnx
      have HNE := Lib.hid hnext
      have hml : ((l.take k).map (fun x => (wholeV x).1)).length = k := by rw [List.length_map, List.length_take]; omega
      have HLN := Lib.hid (show ((l.take k).map (fun x => (wholeV x).1)).length ≤ 1099511627776 by omega)
      clear cx hX hV hnx herr hnext hmem hxl hml
      by_cases hF : F = 0
      · subst hF
        have hk0 : (0 : Int) ≤ (k : Int) := by omega
        go_wp2_with fail
        refine (CW.out _).mono ?_; rintro e w2 ⟨rfl, hb2⟩
        have HO2 := Lib.hid (OwnS.kept ho.out hb2)
        have HB2 := Lib.hid (hb.out.trans (hb2.mono hb.out.size))
        have HBS := Lib.hid (show w.heap.size ≤ w2.heap.size from HB2.out.size)
        clear hb2 ho hi hb
        go_wp2_with (first
          | (at_builtin; refine app_int rfl (.tmp 25) (.tmp 27) rfl _ _ _ _ N rfl HO2.out w2.heap.size 1 rfl rfl HLN.out HBS.out ?_; intro v3 w3 hown3 hb3 hg3)
          | fail)
        rw [← HNX.out] at hown3
        have HO3 := Lib.hid hown3
        have HB3 := Lib.hid (HB2.out.trans hb3)
        clear hown3 hb3 hg3
        go_wp2_with fail
        go_roundw
        case rel => exact ⟨k + 1, by omega, by go_num, Lib.hid (HNE.out (by first | rfl | trivial)), HO3, HB3⟩
        case measure => simp [intOf]; omega
      · obtain ⟨rfl, rfl⟩ := HERR.out hF
        have hFb : (E != 0) = true := by rw [bne_iff_ne]; exact hF
        go_wp2_with fail
        refine (CW.out _).mono ?_; rintro e w2 ⟨rfl, hb2⟩
        have HB2 := Lib.hid (hb.out.trans (hb2.mono hb.out.size))
        clear hb2
        go_wp2_with fail
        go_ret2
        exact ⟨_, rfl, IsL.nil _, HB2.out⟩
    · obtain rfl : k = l.length := by omega
      obtain ⟨rfl, rfl⟩ := HRR.out.done hall.out
      have hki : ¬ (l.length : Int) < (l.length : Int) := by omega
      have ho' := ho.out
      rw [List.take_length] at ho'
      have HO := Lib.hid (OwnS.isL ho' (by rw [List.length_map]; omega))
      clear ho'
      go_wp2_with fail
      go_ret2
      exact ⟨_, rfl, HO.out, hb.out⟩
end Go.Proofs.Ytflggmbgfdglcaa
