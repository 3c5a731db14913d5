import Derived.Test.YtipcdkemokkdfaaGreatK30
import Derived.Test.YtipcdkemokkdfaaGreatK25
import Derived.Test.YtipcdkemokkdfaaGreatK16
import Derived.Test.YtipcdkemokkdfaaGreatK08
import Derived.Test.YtipcdkemokkdfaaGreatK17
import Derived.Test.YtipcdkemokkdfaaGreatK23
import Derived.Test.YtipcdkemokkdfaaGreatK01
import Derived.Laws.IdiomStrings
/- Layer 27: the tables of tokens: mathematics; a book without codes. -/
namespace Go.Proofs.YtipcdkemokkdfaaGreat
open Go.ChangeShapes Go.WideShapes Go.ChangeAt Go.RowKit
set_option linter.unusedVariables false
set_option linter.unusedSimpArgs false
set_option maxRecDepth 100000
open Bits hiding packF pack_length
open RunsMath KraftMath CanonMath TurnMath Pm
theorem bump_at (o : List Int) (i j : Nat) (h : ∀ j, 0 ≤ o.getD j 0) : o.getD j 0 ≤ (bump o i).getD j 0 ∧ (i < o.length → 0 < (bump o i).getD i 0) := by
  unfold bump
  constructor
  · by_cases e : i = j
    · subst e
      by_cases hi : i < o.length
      · simp only [List.getD_eq_getElem?_getD, List.getElem?_set_self hi, Option.getD_some]; omega
      · rw [List.set_eq_of_length_le (by omega)]; exact Int.le_refl _
    · simp only [List.getD_eq_getElem?_getD, List.getElem?_set_ne e]; exact Int.le_refl _
  · intro hi
    have := h i
    simp only [List.getD_eq_getElem?_getD, List.getElem?_set_self hi, Option.getD_some] at this ⊢
    omega
theorem tl_pos (l : List Tk) : (∀ t ∈ l, t.ok) → ∀ t ∈ l, 0 < (tl l).1.getD (symN t) 0 ∧ (t.k = 1 → 0 < (tl l).2.getD (Slo.slotD t.d.toNat) 0) := by
  refine snoc_ind (P := fun l => (∀ t ∈ l, t.ok) → ∀ t ∈ l, 0 < (tl l).1.getD (symN t) 0 ∧ (t.k = 1 → 0 < (tl l).2.getD (Slo.slotD t.d.toNat) 0)) ?_ ?_ l
  · intro _ t ht; simp at ht
  · intro l x ih hok t ht
    obtain ⟨hl1, hl2⟩ := tl_len l
    obtain ⟨hb1, hb2⟩ := tl_bd l
    have hx := hok x (by simp)
    obtain ⟨-, s1, -, s2⟩ := sym_ok x hx
    rw [tl_snoc]
    have hm := bump_at (tl l).1 (symN x)
    rcases List.mem_append.1 ht with ht | ht
    · obtain ⟨i1, i2⟩ := ih (fun t h => hok t (List.mem_append_left _ h)) t ht
      refine ⟨?_, fun hk => ?_⟩
      · have := (hm (symN t) (fun j => (hb1 j).1)).1
        show 0 < (bump (tl l).1 (symN x)).getD (symN t) 0
        omega
      · have i3 := i2 hk
        show 0 < (if x.k = 1 then bump (tl l).2 (Slo.slotD x.d.toNat) else (tl l).2).getD (Slo.slotD t.d.toNat) 0
        split
        · have := (bump_at (tl l).2 (Slo.slotD x.d.toNat) (Slo.slotD t.d.toNat) (fun j => (hb2 j).1)).1
          omega
        · exact i3
    · rw [List.mem_singleton] at ht
      subst ht
      refine ⟨(hm 0 (fun j => (hb1 j).1)).2 (by omega), fun hk => ?_⟩
      obtain ⟨d1, d2⟩ := s2 hk
      have := (Slo.slotD_facts t.d.toNat (by omega) (by omega)).1
      show 0 < (if t.k = 1 then bump (tl l).2 (Slo.slotD t.d.toNat) else (tl l).2).getD (Slo.slotD t.d.toNat) 0
      rw [if_pos hk]
      exact (bump_at (tl l).2 (Slo.slotD t.d.toNat) 0 (fun j => (hb2 j).1)).2 (by omega)
theorem tl_near (l : List Tk) : (∀ t ∈ l, t.k ≠ 1) → (tl l).2 = List.replicate 52 0 := by
  refine snoc_ind (P := fun l => (∀ t ∈ l, t.k ≠ 1) → (tl l).2 = List.replicate 52 0) ?_ ?_ l
  · intro _; rfl
  · intro l x ih h
    rw [tl_snoc]
    show (if x.k = 1 then bump (tl l).2 (Slo.slotD x.d.toNat) else (tl l).2) = _
    rw [if_neg (h x (by simp))]
    exact ih (fun t ht => h t (List.mem_append_left _ ht))
theorem used_some {l : List Int} {i : Nat} (hi : i < l.length) (h : 0 < l.getD i 0) : 0 < used l := by
  have h1 := used_succ l i hi
  rw [if_pos h] at h1
  have h2 : used l = used (l.take (i + 1)) + used (l.drop (i + 1)) := by rw [← used_append, List.take_append_drop]
  omega
theorem none_bad : check (List.replicate 52 0) 16 ≠ 0 := by decide +kernel
/-- What the tables of tokens are. -/
structure Tabs (l : List Tk) (M D : List Int) : Prop where
  lm : M.length = 401
  ld : D.length = 52
  okM : check M 15 = 0
  bM : ∀ s, s < 401 → len M s ≤ 15
  sM : ∀ t ∈ l, 0 < len M (symN t)
  vM : okB M = true
  vD : okB D = true
  bD : ∀ s, s < 52 → len D s ≤ 15
  far : (∃ t ∈ l, t.k = 1) → check D 15 = 0 ∧ ∀ t ∈ l, t.k = 1 → 0 < len D (Slo.slotD t.d.toNat)
  near : (¬ ∃ t ∈ l, t.k = 1) → D = List.replicate 52 0
theorem okB_of {l : List Int} (h : ∀ i, 0 ≤ l.getD i 0 ∧ l.getD i 0 ≤ 15) : okB l = true := okB_good fun k _ => h k
theorem tab_facts (f : List Int) (hl : f.length ≤ 1000) (hb : ∀ i, 0 ≤ f.getD i 0 ∧ f.getD i 0 ≤ 300) (i : Nat) (hi : i < f.length) (hp : 0 < f.getD i 0) :
    check (tabL f) 15 = 0 ∧ (∀ j, 0 ≤ (tabL f).getD j 0 ∧ (tabL f).getD j 0 ≤ 15) ∧ ∀ j, 0 < f.getD j 0 → 0 < len (tabL f) j := by
  have hc := (chk15 f hl hb).1 (used_some hi hp)
  have e : tabL f = lensV f 15 := by unfold tabL; rw [if_pos hc]
  have hbd := lensV_bd f 15 hc
  rw [e]
  refine ⟨(lens_may f 15 hc).2.1, fun j => ⟨(hbd j).1, (hbd j).2.1⟩, fun j hj => ?_⟩
  have := (hbd j).2.2.2 hj
  unfold len
  omega
theorem tabs_of (l : List Tk) (h0 : l ≠ []) (hn : l.length ≤ 300) (hok : ∀ t ∈ l, t.ok) : Tabs l (tabL (tl l).1) (tabL (tl l).2) := by
  obtain ⟨hl1, hl2⟩ := tl_len l
  obtain ⟨hb1, hb2⟩ := tl_bd l
  have hp := tl_pos l hok
  have B1 : ∀ i, 0 ≤ (tl l).1.getD i 0 ∧ (tl l).1.getD i 0 ≤ 300 := fun i => by have := hb1 i; omega
  have B2 : ∀ i, 0 ≤ (tl l).2.getD i 0 ∧ (tl l).2.getD i 0 ≤ 300 := fun i => by have := hb2 i; omega
  obtain ⟨t0, ht0⟩ := List.exists_mem_of_ne_nil l h0
  have hs0 := (sym_ok t0 (hok t0 ht0)).2.1
  obtain ⟨m1, m2, m3⟩ := tab_facts (tl l).1 (by omega) B1 (symN t0) (by omega) (hp t0 ht0).1
  have hfar : (∃ t ∈ l, t.k = 1) → check (tabL (tl l).2) 15 = 0 ∧ (∀ j, 0 ≤ (tabL (tl l).2).getD j 0 ∧ (tabL (tl l).2).getD j 0 ≤ 15) ∧ ∀ j, 0 < (tl l).2.getD j 0 → 0 < len (tabL (tl l).2) j := by
    rintro ⟨t, ht, hk⟩
    obtain ⟨-, -, -, s2⟩ := sym_ok t (hok t ht)
    obtain ⟨d1, d2⟩ := s2 hk
    have := (Slo.slotD_facts t.d.toNat (by omega) (by omega)).1
    exact tab_facts (tl l).2 (by omega) B2 (Slo.slotD t.d.toNat) (by omega) ((hp t ht).2 hk)
  have hnear : (¬ ∃ t ∈ l, t.k = 1) → tabL (tl l).2 = List.replicate 52 0 := by
    intro hn
    rw [tl_near l (fun t ht hk => hn ⟨t, ht, hk⟩)]
    decide +kernel
  have bD : ∀ j, 0 ≤ (tabL (tl l).2).getD j 0 ∧ (tabL (tl l).2).getD j 0 ≤ 15 := by
    intro j
    by_cases hx : ∃ t ∈ l, t.k = 1
    · exact (hfar hx).2.1 j
    · rw [hnear hx, rep_get]; omega
  refine ⟨by rw [tabL_len, hl1], by rw [tabL_len, hl2], m1, fun s _ => by have := m2 s; unfold len; omega, fun t ht => m3 _ (hp t ht).1, okB_of m2, okB_of bD, fun s _ => by have := bD s; unfold len; omega, fun hx => ⟨(hfar hx).1, fun t ht hk => (hfar hx).2.2 _ ((hp t ht).2 hk)⟩, hnear⟩
set_option maxHeartbeats 1600000 in
theorem cCodesNil (a : Option Addr) (c : Nat) (l : List Int) (w : World) (h : IsInts w a l) (hE : check l 16 ≠ 0) :
    Calls Tryz.prog 38 #[.slice a l.length c] w fun e w' => e = .returned (.tuple #[.slice none 0 0, .int .i64 (check l 16)]) ∧ Below w.heap.size w w' := by
  have C := Lib.hid (kCheck_any a c 16 l w h)
  obtain ⟨E, hEE⟩ : ∃ E, check l 16 = E := ⟨_, rfl⟩
  rw [hEE] at C hE ⊢
  have hne : (E != 0) = true := by rw [bne_iff_ne]; exact hE
  clear h hEE
  go_enter Tryz.func38, Tryz.ntmps38
  go_wp2_with fail
  refine C.out.mono ?_; rintro e w0 ⟨rfl, n0, rfl⟩
  go_wp2_with fail
  go_ret2
  exact ⟨rfl, below_dn (Below.refl _ _) _⟩
set_option maxHeartbeats 1600000 in
theorem cBookNil (a : Option Addr) (c : Nat) (l : List Int) (w : World) (h : IsInts w a l) (hE : check l 16 ≠ 0) :
    Calls Tryz.prog 24 #[.slice a l.length c] w fun e w' => e = .returned (.agg #[.slice none 0 0, .slice a l.length c]) ∧ Below w.heap.size w w' := by
  have HI := Lib.hid h
  have CC := Lib.hid (fun W h => cCodesNil a c l W h hE)
  clear h hE
  go_enter Tryz.func24, Tryz.ntmps24
  have hq := heap_alloc_new w (.cells #[.slice none 0 0, .slice none 0 0] 69)
  have HB := Lib.hid ((Below.refl w.heap.size w).alloc (Nat.le_refl _) (.cells #[.slice none 0 0, .slice none 0 0] 69))
  obtain ⟨gb, hg⟩ : ∃ gb, w.heap.size = gb := ⟨_, rfl⟩
  have HG := Lib.hid hg
  obtain ⟨w1, hw1⟩ : ∃ w1, w.alloc (.cells #[.slice none 0 0, .slice none 0 0] 69) = w1 := ⟨_, rfl⟩
  go_wp2_with fail
  rw [hg, hw1] at hq HB
  have HQ := Lib.hid hq
  clear hq hg hw1
  refine (CC.out w1 (HI.out.kept (by rw [HG.out]; exact HB.out))).mono ?_; rintro e w2 ⟨rfl, hb2⟩
  have HQ2 := Lib.hid ((hb2.block _ (block_lt HQ.out)).trans HQ.out)
  have HB2 := Lib.hid (show Below gb w w2 from HB.out.trans (hb2.mono (by have := block_lt HQ.out; omega)))
  clear hb2 HQ HB CC
  go_wp2_with fail
  go_loopw [13] (fun i wr => i = .int .i64 0 ∧ wr = w2) (fun i _ => 0)
  case atStart => exact ⟨rfl, rfl⟩
  case round =>
    obtain ⟨rfl, rfl⟩ := hrel
    have c0 := cell_lit HQ2.out 0 _ rfl
    have c1 := cell_lit HQ2.out 1 _ rfl
    have f0 := free_in HQ2.out 0
    have f1 := free_in HQ2.out 1
    have lg := block_lt HQ2.out
    go_wp2_with fail
    have hz := block_set (block_set HQ2.out 0 (.slice none 0 0)) 1 (.slice a l.length c)
    have d0 := cell_lit hz 0 (.slice none 0 0) rfl
    have d1 := cell_lit hz 1 (.slice a l.length c) rfl
    have HX3 := Lib.hid ((HB2.out.setCell (p := ⟨gb, 0, none⟩) (Nat.le_refl _) (.slice none 0 0)).setCell (p := ⟨gb, 1, none⟩) (Nat.le_refl _) (.slice a l.length c))
    exact bodyPost_ret (v := .agg #[_, _]) (by simp [results, Tryz.results24, go_sem, d0, d1]) rfl ⟨rfl, by rw [HG.out]; exact HX3.out⟩
end Go.Proofs.YtipcdkemokkdfaaGreat

/- Layer 27: tokens are written. -/
namespace Go.Proofs.YtipcdkemokkdfaaGreat
open Go.ChangeShapes Go.WideShapes Go.ChangeAt Go.RowKit
set_option linter.unusedVariables false
set_option linter.unusedSimpArgs false
set_option maxRecDepth 100000
open Bits hiding packF pack_length
open RunsMath KraftMath CanonMath TurnMath Pm
def tabB (l : List Int) : List Bool := writeB (packL l) (ofR (packL l))
/-- What is ahead of the tokens. -/
def headsB (far : Bool) (M D : List Int) : List Bool := tabB M ++ (if far then true :: tabB D else [false])
def farB (l : List Tk) : Bool := l.any fun t => decide (t.k = 1)
def codedB (l : List Tk) (M D : List Int) : List Bool := headsB (farB l) M D ++ l.flatMap (tokB M D)
theorem far_iff (l : List Tk) : farB l = true ↔ ∃ t ∈ l, t.k = 1 := by simp [farB]
theorem tabB_few {l : List Int} (h0 : l ≠ []) (hl : l.length ≤ 1024) (hok : okB l = true) : (tabB l).length ≤ 14397 := by
  have hR := pack_ok h0 hl hok
  unfold tabB writeB
  have h1 := runs_len hR (packL l).length (Nat.le_refl _)
  rw [List.take_length] at h1
  have h2 : (headB (ofR (packL l))).length ≤ 61 := by
    unfold headB; rw [headTo_len]; have := headN_le (ofR (packL l)) 19; omega
  have := hR.few
  rw [List.length_append]; omega
theorem tokB_few {l : List Tk} {M D : List Int} (T : Tabs l M D) {t : Tk} (ht : t ∈ l) (hok : t.ok) : (tokB M D t).length ≤ 90 := by
  have hs := (sym_ok t hok).2.1
  have b1 := bitsS_few (T.bM (symN t) (by omega))
  unfold tokB
  rw [List.length_append]
  by_cases hk : t.k = 0
  · rw [if_pos hk]; simp; omega
  · rw [if_neg hk, List.length_append]
    have hlr : 2 ≤ t.l ∧ t.l ≤ 258 := by
      unfold Tk.ok Tok.OkTok at hok
      rcases hok with h | h | h
      · exact absurd h.1 hk
      · exact ⟨h.2.1, h.2.2.1⟩
      · exact ⟨h.2.1, h.2.2.1⟩
    have e1 : (extL t.l.toNat).length ≤ 30 := by unfold extL; rw [bitsOf_length]; exact (extL_lt t.l.toNat (by omega) (by omega)).2.1
    by_cases hk1 : t.k = 1
    · obtain ⟨d1, d2⟩ := (sym_ok t hok).2.2.2 hk1
      obtain ⟨-, x2, x3⟩ := extD_lt t.d.toNat (by omega) (by omega)
      have e2 : (extD t.d.toNat).length ≤ 30 := by unfold extD; rw [bitsOf_length]; exact x2
      have b2 := bitsS_few (T.bD (Slo.slotD t.d.toNat) (by omega))
      rw [if_pos hk1, List.length_append]; omega
    · rw [if_neg hk1]; simp; omega
theorem toks_few {l : List Tk} {M D : List Int} (T : Tabs l M D) (hok : ∀ t ∈ l, t.ok) : ∀ k, k ≤ l.length → ((l.take k).flatMap (tokB M D)).length ≤ 90 * k
  | 0, _ => by simp
  | k + 1, h => by
    rw [List.take_succ_eq_append_getElem (by omega), List.flatMap_append, List.length_append]
    have := toks_few T hok k (by omega)
    have hm : l[k] ∈ l := List.getElem_mem (by omega)
    have := tokB_few T hm (hok _ hm)
    simp only [List.flatMap_cons, List.flatMap_nil, List.append_nil]
    omega
theorem cWriteNil (w : World) (a : Option Addr) (c : Nat) : Calls Tryz.prog 15 #[.slice a 0 c] w fun e w' => e = .returned (.tuple #[.pointer none, .int .i64 1]) ∧ w' = w := by
  go_enter Tryz.func15, Tryz.ntmps15
  go_wp2_with fail
  go_ret2
  exact ⟨rfl, rfl⟩
set_option maxHeartbeats 1600000 in
theorem cWriteBad (a : Option Addr) (c n : Nat) (l : List Tk) (w : World) (hl : l.length = n) (h : IsTk w a l) (h0 : n ≠ 0) (hn : n ≤ 300) (hb : ¬ ∀ t ∈ l, t.ok) :
    Calls Tryz.prog 15 #[.slice a n c] w fun e w' => e = .returned (.tuple #[.pointer none, .int .i64 10]) ∧ Below w.heap.size w w' := by
  have C := Lib.hid (cTabBad a c n l w hl h hn 10 (by unfold frA; rw [if_neg hb]) (by decide))
  have hni : ((n : Int) == 0) = false := by rw [beq_eq_false_iff_ne]; omega
  clear h hb hl
  go_enter Tryz.func15, Tryz.ntmps15
  go_wp2_with fail
  refine C.out.mono ?_; rintro e w1 ⟨rfl, hb1⟩
  have HB := Lib.hid hb1
  clear hb1
  go_wp2_with fail
  go_ret2
  exact ⟨rfl, HB.out⟩
end Go.Proofs.YtipcdkemokkdfaaGreat

/- Layer 10: fill. -/
namespace Go.Proofs.YtipcdkemokkdfaaGreat
open Go.ChangeShapes Go.WideShapes Go.ChangeAt Go.RowKit
set_option linter.unusedVariables false
set_option linter.unusedSimpArgs false
set_option maxRecDepth 100000
open KraftMath CanonMath TurnMath Bits
def fE (p : Int × Int) : List Value := [.int .i32 p.1, .int .i32 p.2]
theorem flatE : Flat fE 2 := fun x => ⟨rfl, by intro u hu; simp [fE] at hu; rcases hu with rfl | rfl <;> rfl⟩
abbrev OwnE (B : Nat) (w : World) (v : Value) (l : List (Int × Int)) : Prop := OwnS fE 198 2 B w v l
theorem info_entry : (Tryz.prog.info? 198).map (fun i => (i.zero, i.size, i.bytes)) = some (some (.agg #[.int .i32 0, .int .i32 0]), 2, 8) := by kernel_rfl
structure IsTab (w : World) (B gt ge L N : Nat) (tab : List (Int × Int)) : Prop where
  tb : w.heap[gt]? = some (.cells #[.slice (some ⟨ge, 0, none⟩) N N, .int .i64 L] 195 (0, 0))
  row : OwnE B w (.slice (some ⟨ge, 0, none⟩) N N) tab
theorem IsTab.ne {w : World} {B gt ge L N : Nat} {tab : List (Int × Int)} (h : IsTab w B gt ge L N tab) : gt ≠ ge := by
  intro e
  subst e
  exact own_ne h.row h.tb (by decide) rfl
theorem IsTab.kept {w w' : World} {B gt ge L N : Nat} {tab : List (Int × Int)} (h : IsTab w B gt ge L N tab) (hb : Below w.heap.size w w') : IsTab w' B gt ge L N tab :=
  ⟨(hb.block _ (block_lt h.tb)).trans h.tb, OwnS.kept h.row hb⟩
theorem far2 {w : World} {g g' o o1 o2 : Nat} {v u1 u2 : Value} (h : w.cell? ⟨g, o, none⟩ = some v) (hne : g ≠ g') : ((w.setCell ⟨g', o1, none⟩ u1).setCell ⟨g', o2, none⟩ u2).cell? ⟨g, o, none⟩ = some v := by
  rw [World.cell?_of_block (w := w) ((Below.heap_setCell _ _ _ _ hne).trans (Below.heap_setCell _ _ _ _ hne))]; exact h
theorem IsTab.put {w : World} {B gt ge L N : Nat} {tab : List (Int × Int)} (h : IsTab w B gt ge L N tab) (i : Nat) (hi : i < tab.length) (a b : Int) : IsTab ((w.setCell ⟨ge, i * 2, none⟩ (.int .i32 a)).setCell ⟨ge, i * 2 + 1, none⟩ (.int .i32 b)) B gt ge L N (tab.set i (a, b)) :=
  ⟨((Below.heap_setCell _ _ _ _ h.ne).trans (Below.heap_setCell _ _ _ _ h.ne)).trans h.tb, OwnS.set2 flatE h.row i (a, b) _ _ rfl hi⟩
set_option maxHeartbeats 1600000 in
theorem fFill (w : World) (B gt ge L N T n s : Nat) (tab : List (Int × Int)) (h : IsTab w B gt ge L N tab) (hl : tab.length = N) (hN : N ≤ 32768) (hn : n ≤ 15) (hT : T < 2 ^ n) :
    Calls Tryz.prog 119 #[.pointer (some ⟨gt, 0, none⟩), .int .i64 T, .agg #[.int .i32 s, .int .i32 n]] w fun e w' => e = .returned (.tuple #[]) ∧ (∃ i, N ≤ i ∧ IsTab w' B gt ge L N (fillTo tab T (2 ^ n) i (s, n))) ∧ Keeps (fun j => j = ge) w w' := by
  have hq0 : 0 < 2 ^ n := Nat.pow_pos (by decide)
  have hq1 : 2 ^ n ≤ 2 ^ 15 := Nat.pow_le_pow_right (by decide) hn
  have hW : wrap64 ((2 : Int) ^ n) = ((2 ^ n : Nat) : Int) := by
    have e1 : (2 : Int) ^ n = ((2 ^ n : Nat) : Int) := by simp
    rw [e1]; unfold wrap64; generalize 2 ^ n = q at *; omega
  obtain ⟨q, hq⟩ : ∃ q, 2 ^ n = q := ⟨_, rfl⟩
  rw [hq] at hq0 hq1 hW hT
  have HQ := Lib.hid hq
  have HST := Lib.hid (fun i hi hlt => fillTo_step tab T q i ((s : Int), (n : Int)) hq0 hi (by rw [hl]; exact hlt))
  have HS0 := Lib.hid (fillTo_start tab T q ((s : Int), (n : Int)))
  have HFL := Lib.hid (fun i => (fillTo_len tab T q i ((s : Int), (n : Int))).trans hl)
  have HT0 := Lib.hid h
  clear hq h hl
  go_enter Tryz.func119, Tryz.ntmps119
  go_wp2_with fail
  obtain ⟨W, hWW⟩ : ∃ W, w.alloc (.cells #[.int .i32 s, .int .i32 n] 198) = W := ⟨_, rfl⟩
  obtain ⟨gb, hgb⟩ : ∃ gb, w.heap.size = gb := ⟨_, rfl⟩
  have hbox : W.heap[gb]? = some (.cells #[.int .i32 s, .int .i32 n] 198 (0, 0)) := by rw [← hWW, ← hgb]; exact heap_alloc_new _ _
  have HT1 := Lib.hid (show IsTab W B gt ge L N tab by rw [← hWW]; exact HT0.out.kept ((Below.refl _ _).alloc (Nat.le_refl _) _))
  have HK1 := Lib.hid (show Keeps (fun j => j = ge) w W by rw [← hWW]; exact (Keeps.refl _ w).alloc _)
  have hge : ge < gb := by rw [← hgb]; exact (World.ownsRow.lt HT0.out.row ge rfl).2
  have hgt : gt < gb := by rw [← hgb]; exact block_lt HT0.out.tb
  rw [hWW, hgb]
  clear hWW hgb HT0
  have HBX := Lib.hid hbox
  clear hbox
  go_loopw [6] (fun iv wr => ∃ i : Nat, iv = .int .i64 i ∧ i % q = T ∧ i ≤ N + q ∧ Hid (IsTab wr B gt ge L N (fillTo tab T q i (s, n))) ∧ Hid (wr.heap[gb]? = some (.cells #[.int .i32 s, .int .i32 n] 198 (0, 0))) ∧ Hid (Keeps (fun j => j = ge) w wr)) (fun iv _ => (N + q + 1 - (intOf iv).toNat))
  case atStart => exact ⟨T, rfl, Nat.mod_eq_of_lt hT, by omega, Lib.hid (by rw [HS0.out]; exact HT1.out), HBX, HK1⟩
  case round =>
    obtain ⟨i, rfl, him, hiN, ht, hbx, hk⟩ := hrel
    have g0 := cell_lit ht.out.tb 0 _ rfl
    have g1 : wr.cell? ⟨gt, 0, none⟩ = some (.slice (some ⟨ge, 0, none⟩) N N) := g0
    clear g0
    by_cases hlt : i < N
    · have b0 : wr.cell? ⟨gb, 0, none⟩ = some (.int .i32 s) := cell_lit hbx.out 0 _ rfl
      have b1 : wr.cell? ⟨gb, 1, none⟩ = some (.int .i32 n) := cell_lit hbx.out 1 _ rfl
      have hi0 : (0 : Int) ≤ (i : Int) := by omega
      have hi1 : (i : Int) < (N : Int) := by omega
      obtain ⟨P, hP⟩ : ∃ P : Int × Int, (fillTo tab T q i (s, n))[i]? = some P := ⟨_, List.getElem?_eq_getElem (by rw [HFL.out]; exact hlt)⟩
      have c0 := OwnS.cell flatE ht.out.row i 0 P hP (by decide)
      have c1 := OwnS.cell flatE ht.out.row i 1 P hP (by decide)
      simp only [fE, List.getElem?_cons_zero, List.getElem?_cons_succ, Nat.add_zero] at c0 c1
      have f0 := ht.out.row.free (i * 2)
      have f1 := ht.out.row.free (i * 2 + 1)
      have hne := ht.out.ne
      have hne2 : gb ≠ ge := by omega
      have HT2 := Lib.hid (show IsTab ((wr.drew.setCell ⟨ge, i * 2, none⟩ (.int .i32 s)).setCell ⟨ge, i * 2 + 1, none⟩ (.int .i32 n)) B gt ge L N (fillTo tab T q (i + q) (s, n)) by
        rw [← HST.out i him hlt]
        exact (show IsTab wr.drew B gt ge L N (fillTo tab T q i (s, n)) from ⟨ht.out.tb, ht.out.row⟩).put i (by rw [HFL.out]; exact hlt) s n)
      have HB2 := Lib.hid (show ((wr.drew.setCell ⟨ge, i * 2, none⟩ (.int .i32 s)).setCell ⟨ge, i * 2 + 1, none⟩ (.int .i32 n)).heap[gb]? = _ from ((Below.heap_setCell _ _ _ _ hne2).trans (Below.heap_setCell _ _ _ _ hne2)).trans hbx.out)
      have HK2 := Lib.hid ((hk.out.drew.setCell (p := ⟨ge, i * 2, none⟩) (.inr rfl) (.int .i32 s)).setCell (p := ⟨ge, i * 2 + 1, none⟩) (.inr rfl) (.int .i32 n))
      have HF1 := Lib.hid (far2 (w := wr.drew) (o1 := i * 2) (o2 := i * 2 + 1) (u1 := .int .i32 s) (u2 := .int .i32 n) g1 hne)
      have HF2 := Lib.hid (far2 (w := wr.drew) (o1 := i * 2) (o2 := i * 2 + 1) (u1 := .int .i32 s) (u2 := .int .i32 n) b0 hne2)
      have HF3 := Lib.hid (far2 (w := wr.drew) (o1 := i * 2) (o2 := i * 2 + 1) (u1 := .int .i32 s) (u2 := .int .i32 n) b1 hne2)
      have HG := Lib.hid (show wr.cell? ⟨gt, 0, none⟩ = some (.slice (some ⟨ge, 0, none⟩) N N) ∧ wr.cell? ⟨gb, 0, none⟩ = some (.int .i32 s) ∧ wr.cell? ⟨gb, 1, none⟩ = some (.int .i32 n) from ⟨g1, b0, b1⟩)
      go_wp2_with fail
      go_region_held3 (fun w1 => w1.cell? ⟨gt, 0, none⟩ = some (.slice (some ⟨ge, 0, none⟩) N N) ∧ w1.cell? ⟨gb, 0, none⟩ = some (.int .i32 s) ∧ w1.cell? ⟨gb, 1, none⟩ = some (.int .i32 n)) (first | exact HG.out | exact ⟨HF1.out, HF2.out, HF3.out⟩ | fail) (fail)
      have b1 : ((wr.drew.setCell ⟨ge, i * 2, none⟩ (.int .i32 s)).setCell ⟨ge, i * 2 + 1, none⟩ (.int .i32 n)).cell? ⟨gb, 1, none⟩ = some (.int .i32 n) := HF3.out
      clear c0 c1 f0 f1 hP hne hne2
      go_wp2_with fail
      go_roundw
      case rel => exact ⟨i + q, by go_num, by rw [Nat.add_mod_right]; exact him, by omega, HT2, HB2, HK2⟩
      case measure => simp [intOf]; omega
    · obtain ⟨i', hi'⟩ : ∃ i' : Nat, i' = i := ⟨_, rfl⟩
      have hNi : N ≤ i := by omega
      clear g1
      have g1 : wr.cell? ⟨gt, 0, none⟩ = some (.slice (some ⟨ge, 0, none⟩) N N) := cell_lit ht.out.tb 0 _ rfl
      go_wp2_with fail
      go_end0
      exact ⟨rfl, ⟨i, hNi, by rw [HQ.out]; exact ht.out⟩, hk.out⟩
end Go.Proofs.YtipcdkemokkdfaaGreat

/- Layer 10: New. -/
namespace Go.Proofs.YtipcdkemokkdfaaGreat
open Go.ChangeShapes Go.WideShapes Go.ChangeAt Go.RowKit
set_option linter.unusedVariables false
set_option linter.unusedSimpArgs false
set_option maxRecDepth 100000
open KraftMath CanonMath TurnMath Bits
set_option maxHeartbeats 3200000 in
theorem fNew (a : Option Addr) (c : Nat) (l : List Int) (L : Nat) (hL1 : 1 ≤ L) (hL : L ≤ 15) (hE : check l L = 0) (w : World) (h : IsInts w a l) : Calls Tryz.prog 109 #[.slice a l.length c, .int .i64 L] w fun e w' => ∃ gt ge, e = .returned (.tuple #[.pointer (some ⟨gt, 0, none⟩), .int .i64 0]) ∧ IsTab w' w.heap.size gt ge L (2 ^ L) (tabK l L l.length) ∧ w.heap.size ≤ gt ∧ Below w.heap.size w w' := by
  obtain ⟨h16, hlen, -, -⟩ := check_16 hE
  have C1 := Lib.hid (kCheck_any a c L l w h)
  rw [hE] at C1
  have C2 := Lib.hid (fun k => cCodes a c l (w.drewN k) (IsInts.drewN h k))
  rw [h16] at C2
  have HCL := Lib.hid (codes_len (l := l) h16)
  have HCA := Lib.hid (fun s hs => codes_at (l := l) h16 (s := s) hs)
  have HLI := Lib.hid (fun s hs => lenI (l := l) h16 (s := s) hs)
  have HLB := Lib.hid hlen
  have HCB := Lib.hid (fun s hs => ok_c (l := l) h16 (s := s) hs)
  have HT0 := Lib.hid (tabK_zero l L)
  have HTN := Lib.hid (fun k => tabK_len l L k)
  have HTF := Lib.hid (fun k i hk h0 hL hi => fillTo_tab (l := l) h16 (L := L) (k := k) (i := i) hk h0 hL hi)
  have HTS := Lib.hid (fun k hk h0 => tab_skip (l := l) h16 (L := L) (k := k) hk h0)
  have hN0 : 0 < 2 ^ L := Nat.pow_pos (by decide)
  have hN1 : 2 ^ L ≤ 2 ^ 15 := Nat.pow_le_pow_right (by decide) hL
  have hll : l.length ≤ 1024 := ((check_ok l L).1 hE).2.2.1
  have HW := Lib.hid (show wrap64 ((2 : Int) ^ L) = ((2 ^ L : Nat) : Int) by
    have e1 : (2 : Int) ^ L = ((2 ^ L : Nat) : Int) := by simp
    rw [e1]; unfold wrap64; generalize 2 ^ L = q at *; omega)
  have hd1 : decide ((L : Int) < 1) = false := by simp; omega
  have hd2 : decide ((15 : Int) < (L : Int)) = false := by simp; omega
  have HI := Lib.hid h
  clear h hE h16 hlen
  go_enter Tryz.func109, Tryz.ntmps109
  go_wp2_with fail
  refine C1.out.mono ?_; rintro e w1 ⟨rfl, k, rfl⟩
  go_wp2_with fail
  refine (C2.out k).mono ?_; rintro e w1 ⟨v1, rfl, hI1, hb1⟩
  obtain ⟨cc, cd, rfl, hI1⟩ := hI1
  rw [HCL.out]
  have HC := Lib.hid hI1
  have HB := Lib.hid (show Below w.heap.size w w1 from (below_dn (Below.refl w.heap.size w) k).trans hb1)
  clear hI1 hb1 C1 C2
  go_wp2_with (refine make_full (f := fE) info_entry (by decide) Tryz.underlying193 (0, 0) rfl flatE (by decide) rfl _ _ rfl .i64 .i64 _ _ (2 ^ L) rfl rfl HW.out HW.out (by omega) ?_; intro w3 hown3 hb3 hz3)
  obtain ⟨N, hN⟩ : ∃ N, 2 ^ L = N := ⟨_, rfl⟩
  rw [hN] at hown3 hN0 hN1 HTN HTF HT0 ⊢
  have HN := Lib.hid hN
  rw [← HT0.out] at hown3
  obtain ⟨gt, hgt⟩ : ∃ gt, w3.heap.size = gt := ⟨_, rfl⟩
  have HO := Lib.hid hown3; have HB3 := Lib.hid hb3
  clear hown3 hb3 hN HW HT0
  have HNI := Lib.hid (show (2 : Int) ^ L = (N : Int) by rw [← HN.out]; simp)
  go_wp2_with fail
  have hb3s := HB3.out.size
  obtain ⟨ge, hge⟩ : ∃ ge, w1.heap.size = ge := ⟨_, rfl⟩
  obtain ⟨W, hW⟩ : ∃ W, w3.alloc (.cells #[.slice (some ⟨ge, 0, none⟩) N N, .int .i64 L] 195) = W := ⟨_, rfl⟩
  have HT := Lib.hid (show IsTab W ge gt ge L N (tabK l L 0) by
    rw [← hW, ← hgt]
    refine ⟨heap_alloc_new _ _, ?_⟩
    have := HO.out
    rw [hge] at this
    exact OwnS.kept this ((Below.refl _ _).alloc (Nat.le_refl _) _))
  have HBW := Lib.hid (show Below ge w1 W by
    rw [← hW]
    have := HB3.out
    rw [hge] at this
    exact this.alloc (by omega) _)
  have hgegt : ge ≤ gt := by omega
  have hw1 : w.heap.size ≤ ge := by have := HB.out.size; omega
  have hgeW : Hid (w1.heap.size = ge) := Lib.hid hge
  rw [hgt, hge, hW]
  clear hW hgt hge HO HB3 hb3s hz3
  go_loopw [40] (fun iv wr => ∃ k : Nat, k ≤ l.length ∧ iv = .int .i64 k ∧ Hid (IsTab wr ge gt ge L N (tabK l L k)) ∧ Hid (Below ge w1 wr)) (fun iv _ => l.length - (intOf iv).toNat)
  case atStart => exact ⟨0, Nat.zero_le _, rfl, HT, HBW⟩
  case round =>
    obtain ⟨k, hk, rfl, ht, hb⟩ := hrel
    have hbw1 : Below w1.heap.size w1 wr := hb.out.mono (Nat.le_of_eq hgeW.out)
    by_cases hlt : k < l.length
    · have hgl := (HI.out.kept HB.out).kept hbw1
      have hgc := HC.out.kept hbw1
      obtain ⟨x, rfl, hxb, cx0⟩ := hgl.at k hlt
      have cx := cx0 k hlt
      rw [HLI.out k hlt] at cx
      obtain ⟨y, rfl, hyb, cy0⟩ := hgc.at k (by rw [HCL.out]; exact hlt)
      have cy := cy0 k (by rw [HCL.out]; exact hlt)
      rw [HCA.out k hlt] at cy
      have hLk := HLB.out k hlt
      have hC := HCB.out k hlt
      have HTFk := Lib.hid (fun i h0 hi => HTF.out k i hlt h0 hLk hi)
      have HTSk := Lib.hid (fun h0 => HTS.out k hlt h0)
      have hTN := HTN.out k
      obtain ⟨n, hn⟩ : ∃ n, len l k = n := ⟨_, rfl⟩
      obtain ⟨C, hCe⟩ : ∃ C, code l k = C := ⟨_, rfl⟩
      rw [hn] at cx hLk hC HTFk HTSk
      rw [hCe] at cy hC HTFk
      clear cx0 cy0 hgl hgc hn hCe hbw1
      by_cases hn0 : n = 0
      · have HT2 := Lib.hid (show IsTab wr ge gt ge L N (tabK l L (k + 1)) by rw [HTSk.out hn0]; exact ht.out)
        subst hn0
        go_wp2_with fail
        go_roundw
        case rel => exact ⟨k + 1, by omega, by go_num, HT2, hb⟩
        case measure => simp [intOf]; omega
      · have hC15 : C < 32768 := Nat.lt_of_lt_of_le hC (show 2 ^ n ≤ 2 ^ 15 from Nat.pow_le_pow_right (by decide) (by omega))
        have hnp : (0 : Int) < (n : Int) := by omega
        have CT := Lib.hid (fun W => bTurned (C : Int) n (by omega) W)
        rw [show ((C : Int) % 4294967296).toNat = C by omega] at CT
        have hT := turn_lt C n
        have CF := Lib.hid (fFill wr ge gt ge L N (turn C n) n k (tabK l L k) ht.out hTN (by omega) (by omega) hT)
        obtain ⟨T, hTe⟩ : ∃ T, turn C n = T := ⟨_, rfl⟩
        rw [hTe] at CT CF HTFk
        clear hT hTe hC
        go_wp2_with fail
        refine (CT.out _).mono ?_; rintro e w4 ⟨rfl, rfl⟩
        go_wp2_with fail
        refine CF.out.mono ?_; rintro e w5 ⟨rfl, ⟨i, hi, ht5⟩, hk5⟩
        have HT2 := Lib.hid (show IsTab w5 ge gt ge L N (tabK l L (k + 1)) by rw [← HTFk.out i hn0 hi]; exact ht5)
        have HB2 := Lib.hid (hb.out.trans (hk5.below (B := ge) (fun q hq => ⟨by have := hb.out.size; have := hgeW.out; omega, by show q ≠ ge; omega⟩)))
        clear ht5 hk5
        go_wp2_with fail
        go_roundw
        case rel => exact ⟨k + 1, by omega, by go_num, HT2, HB2⟩
        case measure => simp [intOf]; omega
    · obtain rfl : k = l.length := by omega
      have HTT := Lib.hid (show IsTab wr w.heap.size gt ge L N (tabK l L l.length) from ⟨ht.out.tb, OwnS.base ht.out.row hw1⟩)
      have HBB := Lib.hid (HB.out.trans (hb.out.mono hw1))
      go_wp2_with fail
      go_ret2
      exact ⟨gt, ge, rfl, by rw [HN.out]; exact HTT.out, by omega, HBB.out⟩
end Go.Proofs.YtipcdkemokkdfaaGreat

/- Contracts of layer 2's reader. -/
namespace Go.Proofs.YtipcdkemokkdfaaGreat
open Go.ChangeShapes Go.WideShapes Go.ChangeAt Go.RowKit
set_option linter.unusedVariables false
set_option maxRecDepth 100000

/-- A reader of the bytes s that stands at bit a: its block g, and the row of bytes that are left. -/
def IsReader (w : World) (g : Nat) (s : List UInt8) (a : Nat) : Prop :=
  ∃ p L C, w.heap[g]? = some (.cells #[.slice p L C, .int .i64 ((a % 8 : Nat) : Int), .int .i64 (a : Int)] 120 (0, 0)) ∧ a ≤ 8 * s.length ∧ L = s.length - a / 8 ∧ L ≤ C ∧ C ≤ maxLen ∧ s.length ≤ maxLen / 16 ∧
    (0 < L → ∃ b o, p = some ⟨b, o, none⟩ ∧ b ≠ g ∧ b < w.heap.size ∧ ∀ j, j < L → w.cell? ⟨b, o + j, none⟩ = some (.int .u8 ((s.getD (a / 8 + j) 0).toNat : Int)))

theorem bytesRow_get (s : ByteArray) (cap j : Nat) (h : j < s.size) : (bytesRow s cap)[j]? = some (.int .u8 ((s.data.toList.getD j 0).toNat : Int)) := by
  have h' : j < s.data.size := h
  unfold bytesRow
  rw [Array.getElem?_append_left (by simpa using h'), Array.getElem?_map, Array.getElem?_eq_getElem h']
  simp only [Array.getElem?_toList, List.getD_eq_getElem?_getD, Array.getElem?_eq_getElem h', Option.map_some, Option.getD_some]
set_option maxHeartbeats 800000 in
theorem rNew (s : ByteArray) (hs : s.size ≤ maxLen / 16) (w : World) :
    Calls Tryz.prog 32 #[.string s] w fun e w' => e = .returned (.pointer (some ⟨w.heap.size + 1, 0, none⟩)) ∧ IsReader w' (w.heap.size + 1) s.data.toList 0 ∧ Below w.heap.size w w' ∧ w'.heap.size = w.heap.size + 2 := by
  have hcv := run_bytes_of_string (P := Tryz.prog) w 9 43 5 s Tryz.underlying9 Tryz.underlying43 Tryz.underlying5
  have h1 := grownCap_ge w s.size 0 5
  have h2 := grownCap_le_maxLen w s.size 0 5 (by unfold maxLen at *; omega)
  go_enter Tryz.func32, Tryz.ntmps32
  go_wp2
  go_ret
  refine ⟨rfl, ⟨_, s.size, _, heap_two_last _ _ _, by simp, by simp, h1, h2, by simpa using hs, fun _ => ⟨w.heap.size, 0, rfl, by omega, by simp; omega, fun j hj => ?_⟩⟩, by go_grown, by simp⟩
  simp only [Nat.zero_add, Nat.zero_div]
  exact cell_lit (heap_two_first w _ _) j _ (bytesRow_get s _ j hj)
theorem left_eq (a len L : Nat) (h : L = len - a / 8) (ha : a ≤ 8 * len) : 8 * (L : Int) - (a : Int) % 8 = ((8 * len - a : Nat) : Int) := by omega
theorem left_bd (a len L : Nat) (h : L = len - a / 8) (hs : len ≤ (2 ^ 63 - 1) / 16) : L ≤ 576460752303423487 := by omega
theorem rLeft (w : World) (g a : Nat) (s : List UInt8) (h : IsReader w g s a) : Calls Tryz.prog 56 #[.pointer (some ⟨g, 0, none⟩)] w fun e w' => e = .returned (.int .i64 ((8 * s.length - a : Nat) : Int)) ∧ ∃ n, w' = w.drewN n := by
  obtain ⟨p, L, C, hg, ha, hL, hC, hm, hs, hp⟩ := h
  unfold maxLen at hm hs
  have c0 := cell_in hg 0
  have c1 := cell_in hg 1
  simp at c0 c1
  have HE := Lib.hid (left_eq a s.length L hL ha)
  have hLb := left_bd a s.length L hL hs
  clear hL hp
  go_enter Tryz.func56, Tryz.ntmps56
  go_wp2
  go_quiet (fail)
  go_wp2
  go_ret
  exact ⟨ret_i (by rw [← HE.out]), _, rfl⟩
theorem set3 {w : World} {g : Nat} {x y z : Value} (hg : w.heap[g]? = some (.cells #[x, y, z] 120 (0, 0))) (u v t : Value) :
    (((w.setCell ⟨g, 2, none⟩ t).setCell ⟨g, 0, none⟩ u).setCell ⟨g, 1, none⟩ v).drew.heap[g]? = some (.cells #[u, v, t] 120 (0, 0)) :=
  block_set (block_set (block_set hg 2 t) 0 u) 1 v
theorem other3 {w : World} {g b o : Nat} (h : b ≠ g) (u v t : Value) : (((w.setCell ⟨g, 2, none⟩ t).setCell ⟨g, 0, none⟩ u).setCell ⟨g, 1, none⟩ v).drew.cell? ⟨b, o, none⟩ = w.cell? ⟨b, o, none⟩ := by
  refine World.cell?_of_block (w := w) ?_
  show (((w.setCell ⟨g, 2, none⟩ t).setCell ⟨g, 0, none⟩ u).setCell ⟨g, 1, none⟩ v).heap[b]? = _
  rw [Below.heap_setCell _ _ _ _ h, Below.heap_setCell _ _ _ _ h, Below.heap_setCell _ _ _ _ h]
theorem keep3 (w : World) (g : Nat) (u v t : Value) : Keeps (fun k => k = g) w (((w.setCell ⟨g, 2, none⟩ t).setCell ⟨g, 0, none⟩ u).setCell ⟨g, 1, none⟩ v).drew := by
  have k1 := (Keeps.refl (fun k => k = g) w).setCell (p := ⟨g, 2, none⟩) (.inr rfl) t
  have k2 := k1.setCell (p := ⟨g, 0, none⟩) (.inr rfl) u
  have k3 := k2.setCell (p := ⟨g, 1, none⟩) (.inr rfl) v
  exact k3.drew
theorem size3 (w : World) (g : Nat) (u v t : Value) : (((w.setCell ⟨g, 2, none⟩ t).setCell ⟨g, 0, none⟩ u).setCell ⟨g, 1, none⟩ v).drew.heap.size = w.heap.size := by simp
theorem reader_close {w : World} {g a n : Nat} {s : List UInt8} {x y z : Value} {p q : Option Addr} {L C M D : Nat} {u t : Int} (hg : w.heap[g]? = some (.cells #[x, y, z] 120 (0, 0))) (hn : a + n ≤ 8 * s.length) (hL : L = s.length - a / 8) (hm : C ≤ maxLen) (hLC : L ≤ C) (hs : s.length ≤ maxLen / 16)
    (hp : Hid (0 < L → ∃ b o, p = some ⟨b, o, none⟩ ∧ b ≠ g ∧ b < w.heap.size ∧ ∀ j, j < L → w.cell? ⟨b, o + j, none⟩ = some (.int .u8 ((s.getD (a / 8 + j) 0).toNat : Int))))
    (hu : u = (((a + n) % 8 : Nat) : Int)) (ht : t = ((a + n : Nat) : Int)) (hM : M = L - (n + a % 8) / 8) (hD : D = M) (hq : 0 < M → q = p.map (fun x => x.add ((n + a % 8) / 8))) :
    IsReader (((w.setCell ⟨g, 2, none⟩ (.int .i64 t)).setCell ⟨g, 0, none⟩ (.slice q M D)).setCell ⟨g, 1, none⟩ (.int .i64 u)).drew g s (a + n) := by
  subst hu ht hD
  have e8 : (a + n) / 8 = a / 8 + (n + a % 8) / 8 := by omega
  refine ⟨q, D, D, set3 hg _ _ _, hn, by omega, Nat.le_refl _, by omega, hs, fun h0 => ?_⟩
  have h0L : 0 < L := by omega
  obtain ⟨b, o, rfl, hb, hlt, hc⟩ := hp.out h0L
  rw [hq h0]
  refine ⟨b, o + (n + a % 8) / 8, ?_, hb, by rw [size3]; exact hlt, fun j hj => ?_⟩
  · simp only [Option.map_some, Option.some.injEq]
    unfold Addr.add; split <;> simp_all
  · have hj' : (n + a % 8) / 8 + j < L := by omega
    rw [other3 hb, Nat.add_assoc, hc _ hj', e8, Nat.add_assoc]
set_option maxHeartbeats 800000 in
theorem rMove (w : World) (g a n : Nat) (s : List UInt8) (h : IsReader w g s a) (hn : a + n ≤ 8 * s.length) : Calls Tryz.prog 99 #[.pointer (some ⟨g, 0, none⟩), .int .i64 n] w fun e w' => e = .returned (.tuple #[]) ∧ IsReader w' g s (a + n) ∧ Keeps (fun k => k = g) w w' ∧ w'.heap.size = w.heap.size := by
  obtain ⟨p, L, C, hg, ha, hL, hC, hm, hs, hp⟩ := h
  unfold maxLen at hm hs
  have c0 := cell_in hg 0
  have c1 := cell_in hg 1
  have c2 := cell_in hg 2
  have f0 := free_in hg 0
  have f1 := free_in hg 1
  have f2 := free_in hg 2
  simp at c0 c1 c2
  have b1 : ((n : Int) + (a : Int) % 8) / 8 ≤ (L : Int) := by omega
  have b0 : 0 ≤ ((n : Int) + (a : Int) % 8) / 8 := by omega
  have b2 : (L : Int) ≤ C := by omega
  have HL := Lib.hid hL; have HP := Lib.hid hp; have HG := Lib.hid hg
  clear hL hp hg
  go_enter Tryz.func99, Tryz.ntmps99
  go_wp2
  go_region
  all_goals go_wp2
  · go_end0
    exact ⟨rfl, reader_close HG.out hn HL.out hm hC hs HP (by omega) (by omega) (by omega) rfl (fun h => by omega), keep3 _ _ _ _ _, size3 _ _ _ _ _⟩
  · go_end0
    exact ⟨rfl, reader_close HG.out hn HL.out hm hC hs HP (by omega) (by omega) (by omega) rfl (fun h => rfl), keep3 _ _ _ _ _, size3 _ _ _ _ _⟩
end Go.Proofs.YtipcdkemokkdfaaGreat
