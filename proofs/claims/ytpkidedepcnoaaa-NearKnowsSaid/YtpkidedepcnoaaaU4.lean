/- Layer 19: byRank. -/
import Derived.Test.YtpkidedepcnoaaaU3
import Derived.Lib.SliceRun
namespace Go.Proofs.Ytpkidedepcnoaaa
open Go.ChangeShapes Go.WideShapes Go.ChangeAt Go.RowKit
set_option linter.unusedVariables false
set_option linter.unusedSimpArgs false
set_option maxRecDepth 100000
theorem clr (g : Nat) : ∀ (k o : Nat) (w : World) (l : List Nat), IsN w g l → o + k = l.length → IsN (w.setCells g o (List.replicate k (.int .i64 0))) g (l.take o ++ List.replicate k 0) ∧ Keeps (fun j => j = g) w (w.setCells g o (List.replicate k (.int .i64 0)))
  | 0, o, w, l, h, hl => by
    rw [List.replicate_zero, List.replicate_zero, List.append_nil, List.take_of_length_le (by omega)]
    exact ⟨h, Keeps.refl _ _⟩
  | k + 1, o, w, l, h, hl => by
    have h1 := h.set o 0
    have ih := clr g k (o + 1) (w.setCell ⟨g, o, none⟩ (.int .i64 0)) (l.set o 0) h1 (by rw [List.length_set]; omega)
    rw [List.replicate_succ, List.replicate_succ]
    have e : (l.set o 0).take (o + 1) ++ List.replicate k 0 = l.take o ++ 0 :: List.replicate k 0 := by
      rw [List.take_succ_eq_append_getElem (by rw [List.length_set]; omega)]
      rw [List.take_set_of_le (Nat.le_refl _)]
      simp
    rw [e] at ih
    exact ⟨ih.1, ((Keeps.refl (fun j => j = g) w).setCell (p := ⟨g, o, none⟩) (.inr rfl) (.int .i64 0)).trans ih.2⟩
theorem run_clr (X : World) (g n : Nat) (l : List Nat) (hX : IsN X g l) (hl : l.length = n) (hn : 0 < n) : (Builtin.clear_ #[22] 0 #[.slice (some ⟨g, 0, none⟩) n n]).run Try.prog X = .ok (.tuple #[]) (X.setCells g 0 (List.replicate n (.int .i64 0))) :=
  Go.Lib.run_clear_slice (P := Try.prog) X 22 3 0 (.int .i64 0) Try.underlying22 (fun w => by simp [go_sem]) rfl rfl g 0 n n hn (fun j hj => by rw [Nat.zero_add, hX.cell j (by omega)]; rfl) (fun j hj => by rw [Nat.zero_add]; exact hX.free j)
/-- How often each rank is met, one place on. -/
def C1 (rank c : List Nat) (m t : Nat) : Prop := c.length = m ∧ c.getD 0 0 = 0 ∧ ∀ q, q + 1 < m → c.getD (q + 1) 0 = (rank.take t).countP (fun x => decide (x = q))
theorem C1.start (rank : List Nat) (m : Nat) : C1 rank (List.replicate m 0) m 0 := by
  refine ⟨List.length_replicate, ?_, fun q hq => ?_⟩
  · rw [List.getD_eq_getElem?_getD, List.getElem?_replicate]; split <;> rfl
  · rw [List.getD_eq_getElem?_getD, List.getElem?_replicate, if_pos hq]; simp
theorem C1.step {rank c : List Nat} {m t : Nat} (h : C1 rank c m t) (ht : t < rank.length) (r : Nat) (hr : rank.getD t 0 = r) (hm : r + 1 < m) (x : Nat) (hx : c.getD (r + 1) 0 = x) : x ≤ t ∧ C1 rank (c.set (r + 1) (x + 1)) m (t + 1) := by
  obtain ⟨h1, h2, h3⟩ := h
  refine ⟨?_, by rw [List.length_set]; exact h1, ?_, fun q hq => ?_⟩
  · rw [← hx, h3 r hm]
    exact Nat.le_trans List.countP_le_length (by rw [List.length_take]; omega)
  · rw [setN_getD _ _ _ _ (by omega), if_neg (by omega)]; exact h2
  · rw [setN_getD _ _ _ _ (by omega), takeN rank t ht, List.countP_append, hr]
    by_cases e : r = q
    · subst e
      rw [if_pos rfl, ← hx, h3 r hm]; simp
    · rw [if_neg (by omega), h3 q hq]; simp [e]
/-- How many are less, up to some rank. -/
def C2 (rk : Nat → Nat) (pl c : List Nat) (m r : Nat) : Prop := c.length = m ∧ (∀ q, q < r → q < m → c.getD q 0 = bel rk pl q) ∧ ∀ q, r ≤ q → q < m → c.getD q 0 = sam rk pl (q - 1)
theorem count_sam (rank pl : List Nat) (hp : pl.Nodup) (hlt : ∀ x ∈ pl, x < rank.length) (hl : pl.length = rank.length) (q : Nat) : rank.countP (fun x => decide (x = q)) = sam (fun i => rank.getD i 0) pl q := by
  have hperm : pl.Perm (List.range rank.length) := (List.perm_ext_iff_of_nodup hp List.nodup_range).2 (fun x => by
    rw [List.mem_range]
    exact ⟨hlt x, (pig rank.length pl hp hlt).2 hl x⟩)
  unfold sam
  rw [hperm.countP_eq]
  have e : rank = (List.range rank.length).map (fun i => rank.getD i 0) := by
    apply List.ext_getElem (by simp)
    intro i h1 h2
    simp [List.getD_eq_getElem?_getD, h1]
  conv => lhs; rw [e, List.countP_map]
  rfl
theorem C1.done {rank c pl : List Nat} {m : Nat} (h : C1 rank c m rank.length) (hp : pl.Nodup) (hlt : ∀ x ∈ pl, x < rank.length) (hl : pl.length = rank.length) : C2 (fun i => rank.getD i 0) pl c m 1 := by
  obtain ⟨h1, h2, h3⟩ := h
  refine ⟨h1, fun q hq _ => ?_, fun q hq hm => ?_⟩
  · have : q = 0 := by omega
    subst this; rw [h2, bel_zero]
  · have := h3 (q - 1) (by omega)
    rw [show q - 1 + 1 = q by omega, List.take_length, count_sam rank pl hp hlt hl] at this
    exact this
theorem C2.step {rk : Nat → Nat} {pl c : List Nat} {m r : Nat} (h : C2 rk pl c m r) (hr : 1 ≤ r) (hm : r < m) (x y : Nat) (hx : c.getD r 0 = x) (hy : c.getD (r - 1) 0 = y) : x + y ≤ pl.length ∧ C2 rk pl (c.set r (x + y)) m (r + 1) := by
  obtain ⟨h1, h2, h3⟩ := h
  have ex := h3 r (Nat.le_refl _) hm
  have ey := h2 (r - 1) (by omega) (by omega)
  have hs := bel_succ rk (r - 1) pl
  rw [show r - 1 + 1 = r by omega] at hs
  have e : x + y = bel rk pl r := by omega
  refine ⟨by rw [e]; exact bel_le rk pl r, by rw [List.length_set]; exact h1, fun q hq hm2 => ?_, fun q hq hm2 => ?_⟩
  · rw [setN_getD _ _ _ _ (by omega)]
    by_cases f : r = q
    · subst f; rw [if_pos rfl, e]
    · rw [if_neg f]; exact h2 q (by omega) hm2
  · rw [setN_getD _ _ _ _ (by omega), if_neg (by omega)]; exact h3 q (by omega) hm2
theorem C2.done {rk : Nat → Nat} {pl c o : List Nat} {m : Nat} (h : C2 rk pl c m m) (ho : o.length = pl.length) : Laid rk pl m 0 c o :=
  ⟨h.1, ho, fun r hr => by rw [h.2.1 r hr hr]; simp [sam], fun s hs => by omega⟩
def two (a b : Nat) : Nat → Prop := fun j => j = a ∨ j = b
set_option maxHeartbeats 3200000 in
theorem cByRank (n m gp go gr gc : Nat) (pl o rank cnt : List Nat) (w : World) (hp : IsN w gp pl) (ho : IsN w go o) (hr : IsN w gr rank) (hc : IsN w gc cnt) (n1 : gp ≠ go) (n2 : gp ≠ gc) (n3 : gr ≠ go) (n4 : gr ≠ gc) (n5 : go ≠ gc)
    (hpl : pl.length = n) (hol : o.length = n) (hrl : rank.length = n) (hcl : cnt.length = m) (hn0 : 0 < n) (hn : (n : Int) ≤ 100000) (hm0 : 0 < m) (hm : (m : Int) ≤ 200000) (hrk : ∀ i, i < n → rank.getD i 0 + 1 < m) (hnd : pl.Nodup) (hlt : ∀ x ∈ pl, x < n) :
    Calls Try.prog 36 #[.slice (some ⟨gp, 0, none⟩) n n, .slice (some ⟨go, 0, none⟩) n n, .slice (some ⟨gr, 0, none⟩) n n, .slice (some ⟨gc, 0, none⟩) m m] w fun e w' => e = .returned (.tuple #[]) ∧ (∃ out cnt', IsN w' go out ∧ IsN w' gc cnt' ∧ cnt'.length = m ∧ Laid (fun i => rank.getD i 0) pl m pl.length cnt' out) ∧ Keeps (two go gc) w w' := by
  have HP := Lib.hid hp
  have HO := Lib.hid ho
  have HR := Lib.hid hr
  have hC := Lib.hid hc
  have HPL := Lib.hid hpl
  have HOL := Lib.hid hol
  have HRL := Lib.hid hrl
  have HCL := Lib.hid hcl
  have HRK := Lib.hid hrk
  have HND := Lib.hid hnd
  have HLT := Lib.hid hlt
  have hg1 := block_lt hp
  have hg2 := block_lt ho
  have hg3 := block_lt hr
  have hg4 := block_lt hc
  clear hp ho hr hc hpl hol hrl hcl hrk hnd hlt
  go_enter Try.func36, Try.ntmps36
  have hclr := run_clr w gc m cnt hC.out HCL.out hm0
  have hcc := clr gc m 0 w cnt hC.out (by rw [HCL.out]; omega)
  have HC1 := Lib.hid (show IsN (w.setCells gc 0 (List.replicate m (.int .i64 0))) gc (List.replicate m 0) by simpa using hcc.1)
  have HK0 := Lib.hid hcc.2
  have HK1 := Lib.hid (hcc.2.mono (S' := two go gc) (fun k _ h => .inr h))
  clear hcc
  generalize w.setCells gc 0 (List.replicate m (.int .i64 0)) = w1 at *
  go_wp2_with fail
  have HP1 := Lib.hid (HP.out.keeps HK1.out (fun h => h.elim n1 n2))
  have HR1 := Lib.hid (HR.out.keeps HK1.out (fun h => h.elim n3 n4))
  have HO1 := Lib.hid (HO.out.keeps HK0.out n5)
  clear hg1 hg2 hg3 hg4 hclr HK0
  go_loopw [16] (fun tv wr => ∃ (t : Nat) (c : List Nat), t ≤ n ∧ tv = .int .i64 t ∧ Hid (C1 rank c m t) ∧ Hid (IsN wr gc c) ∧ Hid (IsN wr gr rank) ∧ Hid (IsN wr gp pl) ∧ Hid (IsN wr go o) ∧ Hid (Keeps (two go gc) w wr)) (fun tv _ => n - (intOf tv).toNat)
  case atStart => exact ⟨0, List.replicate m 0, Nat.zero_le _, rfl, Lib.hid (C1.start rank m), HC1, HR1, HP1, HO1, HK1⟩
  case round =>
    clear HC1 HR1 HP1 HO1 HK1
    obtain ⟨t, c, ht, rfl, H1, HC1, HR1, HP1, HO1, HK1⟩ := hrel
    by_cases hlt : t < n
    · have hti : (t : Int) < n := by omega
      have cr := HR1.out.cell t (by rw [HRL.out]; exact hlt)
      have hgr := block_lt HR1.out
      have hgc := block_lt HC1.out
      have hrk := HRK.out
      obtain ⟨r, hr⟩ : ∃ r, rank.getD t 0 = r := ⟨_, rfl⟩
      have hrm : r + 1 < m := by rw [← hr]; exact hrk t hlt
      obtain ⟨x, hx⟩ : ∃ x, c.getD (r + 1) 0 = x := ⟨_, rfl⟩
      obtain ⟨hxt, h2⟩ := H1.out.step (by rw [HRL.out]; exact hlt) r hr hrm x hx
      have cc := HC1.out.cell (r + 1) (by rw [H1.out.1]; exact hrm)
      have fc := HC1.out.free (r + 1)
      rw [hr] at cr
      rw [hx] at cc
      have hrm2 : (r : Int) + 1 < m := by omega
      have H2 := Lib.hid h2
      have HC2 := Lib.hid (show IsN (wr.setCell ⟨gc, r + 1, none⟩ (.int .i64 ((x : Int) + 1))) gc (c.set (r + 1) (x + 1)) from HC1.out.set (r + 1) (x + 1))
      have HR2 := Lib.hid (show IsN (wr.setCell ⟨gc, r + 1, none⟩ (.int .i64 ((x : Int) + 1))) gr rank from HR1.out.away n4)
      have HP2 := Lib.hid (show IsN (wr.setCell ⟨gc, r + 1, none⟩ (.int .i64 ((x : Int) + 1))) gp pl from HP1.out.away n2)
      have HO2 := Lib.hid (show IsN (wr.setCell ⟨gc, r + 1, none⟩ (.int .i64 ((x : Int) + 1))) go o from HO1.out.away n5)
      have HK2 := Lib.hid (HK1.out.setCell (p := ⟨gc, r + 1, none⟩) (.inr (.inr rfl)) (.int .i64 ((x : Int) + 1)))
      clear h2 hx hr hrk hrm
      go_wp2_with fail
      go_roundw
      case rel => exact ⟨t + 1, _, by omega, by go_num, H2, HC2, HR2, HP2, HO2, HK2⟩
      case measure => simp [intOf]; omega
    · obtain rfl : t = n := by omega
      have H2 := Lib.hid (C1.done (rank := rank) (pl := pl) (by rw [HRL.out]; exact H1.out) HND.out (by rw [HRL.out]; exact HLT.out) (by rw [HRL.out]; exact HPL.out))
      go_wp2_with fail
      go_loopw [10] (fun tv wr => ∃ (q : Nat) (c : List Nat), 1 ≤ q ∧ q ≤ m ∧ tv = .int .i64 q ∧ Hid (C2 (fun i => rank.getD i 0) pl c m q) ∧ Hid (IsN wr gc c) ∧ Hid (IsN wr gr rank) ∧ Hid (IsN wr gp pl) ∧ Hid (IsN wr go o) ∧ Hid (Keeps (two go gc) w wr)) (fun tv _ => m - (intOf tv).toNat)
      case atStart => exact ⟨1, c, Nat.le_refl _, hm0, rfl, H2, HC1, HR1, HP1, HO1, HK1⟩
      case round =>
        clear H1 H2 HC1 HR1 HP1 HO1 HK1
        obtain ⟨q, c, hq1, hqm, rfl, H1, HC1, HR1, HP1, HO1, HK1⟩ := hrel
        by_cases hlt : q < m
        · have hqi : (q : Int) < m := by omega
          have hgc := block_lt HC1.out
          obtain ⟨x, hx⟩ : ∃ x, c.getD q 0 = x := ⟨_, rfl⟩
          obtain ⟨y, hy⟩ : ∃ y, c.getD (q - 1) 0 = y := ⟨_, rfl⟩
          obtain ⟨hxy, h2⟩ := H1.out.step hq1 hlt x y hx hy
          rw [HPL.out] at hxy
          have cx := HC1.out.cell q (by rw [H1.out.1]; exact hlt)
          have cy := HC1.out.cell (q - 1) (by rw [H1.out.1]; omega)
          have fc := HC1.out.free q
          rw [hx] at cx
          rw [hy] at cy
          obtain ⟨z, hz⟩ : ∃ z, q - 1 = z := ⟨_, rfl⟩
          have hz2 : (q : Int) - 1 = (z : Int) := by omega
          have hzm : (z : Int) < m := by omega
          rw [hz] at cy
          have H2 := Lib.hid h2
          have HC2 := Lib.hid (show IsN (wr.setCell ⟨gc, q, none⟩ (.int .i64 ((x : Int) + y))) gc (c.set q (x + y)) from HC1.out.set q (x + y))
          have HR2 := Lib.hid (show IsN (wr.setCell ⟨gc, q, none⟩ (.int .i64 ((x : Int) + y))) gr rank from HR1.out.away n4)
          have HP2 := Lib.hid (show IsN (wr.setCell ⟨gc, q, none⟩ (.int .i64 ((x : Int) + y))) gp pl from HP1.out.away n2)
          have HO2 := Lib.hid (show IsN (wr.setCell ⟨gc, q, none⟩ (.int .i64 ((x : Int) + y))) go o from HO1.out.away n5)
          have HK2 := Lib.hid (HK1.out.setCell (p := ⟨gc, q, none⟩) (.inr (.inr rfl)) (.int .i64 ((x : Int) + y)))
          clear h2 hx hy hz
          go_wp2_with fail
          go_region
          go_wp2_with fail
          go_roundw
          case rel => exact ⟨q + 1, _, by omega, by omega, by go_num, H2, HC2, HR2, HP2, HO2, Lib.hid HK2.out.drew⟩
          case measure => simp [intOf]; omega
        · obtain rfl : q = m := by omega
          have H2 := Lib.hid (H1.out.done (o := o) (by rw [HOL.out, HPL.out]))
          go_wp2_with fail
          go_loopw [47] (fun tv wr => ∃ (s : Nat) (c u : List Nat), s ≤ t ∧ tv = .int .i64 s ∧ Hid (Laid (fun i => rank.getD i 0) pl q s c u) ∧ Hid (IsN wr gc c) ∧ Hid (IsN wr gr rank) ∧ Hid (IsN wr gp pl) ∧ Hid (IsN wr go u) ∧ Hid (Keeps (two go gc) w wr)) (fun tv _ => t - (intOf tv).toNat)
          case atStart => exact ⟨0, c, o, Nat.zero_le _, rfl, H2, HC1, HR1, HP1, HO1, HK1⟩
          case round =>
            clear H1 H2 HC1 HR1 HP1 HO1 HK1
            obtain ⟨s, c, u, hs, rfl, H1, HC1, HR1, HP1, HO1, HK1⟩ := hrel
            by_cases hlt : s < t
            · have hsi : (s : Int) < t := by omega
              have cp := HP1.out.cell s (by rw [HPL.out]; exact hlt)
              have hxl := HLT.out _ (getD_mem pl s (by rw [HPL.out]; exact hlt))
              have hrk := HRK.out
              obtain ⟨i, hi⟩ : ∃ i, pl.getD s 0 = i := ⟨_, rfl⟩
              rw [hi] at cp hxl
              have cr := HR1.out.cell i (by rw [HRL.out]; exact hxl)
              obtain ⟨r, hr⟩ : ∃ r, rank.getD i 0 = r := ⟨_, rfl⟩
              have hrm : r + 1 < q := by rw [← hr]; exact hrk i hxl
              obtain ⟨C, hC⟩ : ∃ C, c.getD r 0 = C := ⟨_, rfl⟩
              obtain ⟨hCl, h2⟩ := H1.out.step (by rw [HPL.out]; exact hlt) r (by rw [hi]; exact hr) (by omega) C hC
              have hul := H1.out.ol
              rw [HPL.out] at hul
              rw [hul] at hCl
              rw [hi] at h2
              have cc := HC1.out.cell r (by rw [H1.out.cl]; omega)
              have cu := HO1.out.cell C (by omega)
              have fc := HC1.out.free r
              have fu := HO1.out.free C
              rw [hr] at cr
              rw [hC] at cc
              have l1 := block_lt HC1.out
              have l2 := block_lt HR1.out
              have l3 := block_lt HP1.out
              have l4 := block_lt HO1.out
              have hri : (r : Int) < q := by omega
              have hCi : (C : Int) < t := by omega
              have hii : (i : Int) < t := by omega
              have H2 := Lib.hid h2
              have n5' := n5.symm
              clear h2 hC hr hrk hrm hi
              go_wp2_with fail
              go_roundw
              case rel => exact ⟨s + 1, _, _, by omega, by go_num, H2, (HC1.out.away n5').set r (C + 1), (HR1.out.away n3).away n4, (HP1.out.away n1).away n2, (HO1.out.set C i).away n5, (HK1.out.setCell (p := ⟨go, C, none⟩) (.inr (.inl rfl)) (.int .i64 (i : Int))).setCell (p := ⟨gc, r, none⟩) (.inr (.inr rfl)) _⟩
              case measure => simp [intOf]; omega
            · obtain rfl : s = t := by omega
              have H9 := Lib.hid (show Laid (fun i => rank.getD i 0) pl q pl.length c u by rw [HPL.out]; exact H1.out)
              go_wp2_with fail
              go_end0
              exact ⟨rfl, ⟨u, c, HO1.out, HC1.out, H9.out.cl, H9.out⟩, HK1.out⟩
end Go.Proofs.Ytpkidedepcnoaaa
