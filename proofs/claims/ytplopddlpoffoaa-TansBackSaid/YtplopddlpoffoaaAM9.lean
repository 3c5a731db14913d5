/- Layer 59: the table of states. -/
import Derived.Test.YtplopddlpoffoaaAM6
import Derived.Test.YtplopddlpoffoaaAM8
namespace Go.Proofs.Ytplopddlpoffoaa
open Go.ChangeShapes Go.WideShapes Go.ChangeAt Go.RowKit
set_option linter.unusedVariables false
set_option linter.unusedSimpArgs false
set_option maxRecDepth 100000
theorem run_nilI {B : Nat} {W : World} {v : Value} {l : List Int} (h : OwnI B W v l) (ty : TypeId) (c : Nat) : (Builtin.append_ #[22, 22] ty #[v, .slice none 0 c]).run Try.prog W = .ok v W := by
  obtain ⟨i0, hi, h1, h2, h3⟩ := info_get info_int
  rcases h.2 with ⟨rfl, -⟩ | ⟨g, cap, cur, rfl, -, -, hnc, -⟩
  · simp [Builtin.append_, run_underlying Try.underlying22, sizeOf, typeInfo, hi, Builtin.lenOf, Builtin.firstCells]
  · simp [Builtin.append_, run_underlying Try.underlying22, sizeOf, typeInfo, hi, Builtin.lenOf, Builtin.firstCells, hnc, storeCells]
theorem app_rowI {W : World} {ops : Array Oper} {rest : List Oper} {o : Oper} {a : Act} {Q : Exit → Act → World → Prop} (hgd : o.guard = none) (s x : Operand)
    (ho : o.op = .call { callee := .builtin .append, args := #[s, x], argTypes := #[22, 22] })
    (B : Nat) (v : Value) (l ys : List Int) (hs : a.eval s = v) (hown : OwnI B W v l) (va : Option Addr) (m c : Nat) (hx : a.eval x = .slice va m c) (hm : m = ys.length) (hys : IsInts W va ys) (hl : l.length + ys.length ≤ 1000000) (hB : B ≤ W.heap.size)
    (h : ∀ v' w', OwnI B w' v' (l ++ ys) → Below B W w' → wpList Try.prog ops Q rest (a.put o.dst v') w') : wpList Try.prog ops Q (o :: rest) a W := by
  obtain ⟨i0, hi, h1, h2, h3⟩ := info_get info_int
  have hf : ∀ q : List Int, q.flatMap fI = q.map (Value.int .i64 ·) := fun q => flatMap_fI q
  have hown' : W.ownsRow B 3 1 v l.length (l.flatMap fI) := hown
  cases va with
  | none =>
    have hy : ys = [] := by
      rcases hys.2 with e | ⟨x, e, -⟩
      · exact e
      · cases e
    subst hy
    obtain rfl : m = 0 := by simpa using hm
    refine wpList_plain hgd fun K hK => ?_
    have hrun := run_nilI hown o.type c
    unfold Oper.wp
    simp only [execOp, ho, resolve, invoke, builtin, Sem.run_bind, Sem.run_pure, Result.andThen_ok, List.map_toArray, List.map_cons, List.map_nil, hs, hx, hrun]
    exact hK _ _ (h v W (by rw [List.append_nil]; exact hown) (Below.refl _ _))
  | some ad =>
    have hc : ∀ j u, (ys.map (Value.int .i64 ·))[j]? = some u → W.cell? (ad.add j) = some u := by
      intro j u hj
      rcases hys.2 with rfl | ⟨x, e, hc⟩
      · simp at hj
      · injection e with e; subst e
        rw [List.getElem?_map] at hj
        cases hq : ys[j]? with
        | none => rw [hq] at hj; simp at hj
        | some z =>
          rw [hq] at hj
          have hlt := (List.getElem?_eq_some_iff.1 hq).1
          simp only [Option.map_some, Option.some.injEq] at hj
          rw [hc j hlt, ← hj]
          simp [List.getD_eq_getElem?_getD, hq]
    refine wpList_append_own _ hgd s x 22 ho B 3 i0 (.int .i64 0) 1 8 Try.underlying22 hi h1 h2 h3 rfl (by decide) v l.length (l.flatMap fI) hs hown' ad m c (ys.map (Value.int .i64 ·)) hx (by rw [List.length_map, hm, Nat.mul_one]) hc (by intro u hu; obtain ⟨z, -, rfl⟩ := List.mem_map.1 hu; rfl) (by unfold maxLen; omega) (by omega) hB ?_
    intro v' w' ho' hg' _
    refine h v' w' ?_ ((Below.refl _ _).grown hg' hB (fun j hj => (World.ownsRow.lt hown' j hj).1))
    unfold OwnI OwnS
    rw [List.length_append, List.flatMap_append, hf ys, ← hm]
    exact ho'
/-- Ends from a place on, in order. -/

theorem own_away {B g n c g' i : Nat} {w : World} {l : List Int} (h : OwnI B w (.slice (some ⟨g, 0, none⟩) n c) l) (hne : g ≠ g') (u : Value) : OwnI B (w.setCell ⟨g', i, none⟩ u) (.slice (some ⟨g, 0, none⟩) n c) l :=
  ((Keeps.refl (fun j => j = g') w).setCell (p := ⟨g', i, none⟩) (.inr rfl) u).ownsRow h (fun j hj e => hne (by
    have e1 : g = j := by simpa [Value.ownBlock] using hj
    rw [e1]; exact e))
def befTo (L : List Int) (v : Int) : Nat → Nat
  | 0 => 0
  | k + 1 => befTo L v k + if L.getD k 0 = v then 1 else 0
theorem befTo_le (L : List Int) (v : Int) (k : Nat) : befTo L v k ≤ k := by
  induction k with
  | zero => simp [befTo]
  | succ k ih => simp only [befTo]; split <;> omega
def numL (L norm : List Int) (x : Nat) : Int := norm.getD (L.getD x 0).toNat 0 + befTo L (L.getD x 0) x
def numsL (L norm : List Int) : List Int := (List.range L.length).map (numL L norm)
theorem numsL_get (L norm : List Int) (x : Nat) (h : x < L.length) : (numsL L norm).getD x 0 = numL L norm x := by simp [numsL, List.getD_eq_getElem?_getD, h]
theorem own_get {B : Nat} {w : World} {v : Value} {l : List Int} (h : OwnI B w v l) (h0 : 0 < l.length) : ∃ g c, v = .slice (some ⟨g, 0, none⟩) l.length c ∧ B ≤ g ∧ g < w.heap.size := by
  rcases h.2 with ⟨h1, h2⟩ | ⟨g, c, cur, h1, h2, h3, -⟩
  · omega
  · exact ⟨g, c, h1, h2, block_lt h3⟩
structure Nx (L norm : List Int) (k : Nat) (nx nm : List Int) : Prop where
  l1 : nx.length = norm.length
  l2 : nm.length = L.length
  n1 : ∀ i, i < norm.length → nx.getD i 0 = norm.getD i 0 + befTo L (i : Int) k
  n2 : ∀ x, x < k → nm.getD x 0 = numL L norm x
theorem Nx.start (L norm : List Int) : Nx L norm 0 norm (List.replicate L.length 0) := ⟨rfl, by simp, fun i _ => by simp [befTo], fun x h => by omega⟩
theorem Nx.step {L norm nx nm : List Int} {k s : Nat} (h : Nx L norm k nx nm) (hk : k < L.length) (hs : s < norm.length) (hL : L.getD k 0 = s) : Nx L norm (k + 1) (nx.set s (nx.getD s 0 + 1)) (nm.set k (nx.getD s 0)) := by
  refine ⟨by simp [h.l1], by simp [h.l2], fun i hi => ?_, fun x hx => ?_⟩
  · rw [set_getX _ _ _ _ (by rw [h.l1]; exact hs)]
    simp only [befTo, hL]
    by_cases e : s = i
    · subst e; rw [if_pos rfl, if_pos rfl, h.n1 s hs]; omega
    · rw [if_neg e, if_neg (by omega), h.n1 i hi]; omega
  · rw [set_getX _ _ _ _ (by rw [h.l2]; exact hk)]
    by_cases e : k = x
    · subst e
      rw [if_pos rfl, h.n1 s hs]
      unfold numL
      rw [hL, Int.toNat_natCast]
    · rw [if_neg e]; exact h.n2 x (by omega)
theorem Nx.end {L norm nx nm : List Int} (h : Nx L norm L.length nx nm) : nm = numsL L norm := by
  refine List.ext_getElem (by rw [h.l2]; simp [numsL]) (fun i h1 h2 => ?_)
  have h3 : i < L.length := by rw [← h.l2]; exact h1
  have := h.n2 i h3
  rw [← numsL_get L norm i h3] at this
  simpa [List.getD_eq_getElem?_getD, h1, h2] using this
theorem sprV_ok {l : List Int} {n : Int} (h : (sprV l n).2 = 0) : ∃ m : Nat, n = m ∧ 5 ≤ m ∧ m ≤ 12 ∧ norV l ((2 ^ m : Nat) : Int) = true ∧ sprV l n = (sprL l (2 ^ m), 0) := by
  unfold sprV at h ⊢
  split at h
  · simp at h
  · rename_i hn
    rw [if_neg hn]
    split at h
    · rename_i hv
      obtain ⟨m, rfl⟩ : ∃ m : Nat, n = m := ⟨n.toNat, by omega⟩
      rw [Int.toNat_natCast] at hv ⊢
      have e : (2 : Int) ^ m = ((2 ^ m : Nat) : Int) := by simp
      rw [e] at hv ⊢
      exact ⟨m, rfl, by omega, by omega, hv, by rw [if_pos hv]⟩
    · simp at h
set_option maxHeartbeats 3200000 in
theorem cTabBad (a : Option Addr) (c : Nat) (l : List Int) (n : Int) (w : World) (h : IsInts w a l) (hE : (sprV l n).2 ≠ 0) : Calls Try.prog 30 #[.slice a l.length c, .int .i64 n] w fun e w' => e = .returned (.tuple #[.agg #[.slice none 0 0, .slice none 0 0], .int .i64 (sprV l n).2]) ∧ Below w.heap.size w w' := by
  have CS := Lib.hid (fun W h => cSpread a c l n W h)
  obtain ⟨⟨R, E⟩, hR⟩ : ∃ r, sprV l n = r := ⟨_, rfl⟩
  rw [hR] at CS hE ⊢
  simp only at CS hE ⊢
  have hne : (E != 0) = true := by rw [bne_iff_ne]; exact hE
  have HI := Lib.hid h
  clear h hR
  go_enter Try.func30, Try.ntmps30
  go_wp2_with fail
  refine (CS.out _ (HI.out.alloc _)).mono ?_; rintro e w1 ⟨v, rfl, -, hb⟩
  have HB := Lib.hid (show Below w.heap.size w w1 from ((Below.refl _ w).alloc (Nat.le_refl _) _).trans (hb.mono (by simp)))
  have hbx := (hb.block w.heap.size (by simp)).trans (heap_alloc_new w (.cells #[.slice none 0 0, .slice none 0 0] 55))
  obtain ⟨gb, hgb⟩ : ∃ gb, w.heap.size = gb := ⟨_, rfl⟩
  rw [hgb] at hbx
  try rw [hgb]
  have HGB := Lib.hid (show w.heap.size ≤ gb by omega)
  have HBX := Lib.hid hbx
  have b0 := cell_lit HBX.out 0 _ rfl
  have b1 := cell_lit HBX.out 1 _ rfl
  have f0 := free_in HBX.out 0
  have f1 := free_in HBX.out 1
  clear hb hgb hbx
  go_wp2_with fail
  exact bodyPost_ret (v := .tuple #[.agg #[.slice none 0 0, .slice none 0 0], .int .i64 E]) (by simp [results, Try.results30, go_sem, b0, b1]) rfl ⟨rfl, by first | exact (HB.out.setCell (p := ⟨gb, 0, none⟩) HGB.out _).setCell (p := ⟨gb, 1, none⟩) HGB.out _ | exact HB.out⟩
set_option maxHeartbeats 6400000 in
theorem cTab (a : Option Addr) (c : Nat) (l : List Int) (m q : Nat) (w : World) (h : IsInts w a l) (hm5 : 5 ≤ m) (hm12 : m ≤ 12) (hq : 2 ^ m = q) (hv : norV l (q : Int) = true) : Calls Try.prog 30 #[.slice a l.length c, .int .i64 m] w fun e w' => ∃ gs cs gm, e = .returned (.tuple #[.agg #[.slice (some ⟨gs, 0, none⟩) q cs, .slice (some ⟨gm, 0, none⟩) q q], .int .i64 0]) ∧ OwnI w.heap.size w' (.slice (some ⟨gs, 0, none⟩) q cs) (sprL l q) ∧ OwnI w.heap.size w' (.slice (some ⟨gm, 0, none⟩) q q) (numsL (sprL l q) l) ∧ gs ≠ gm ∧ Below w.heap.size w w' := by
  have hsp : sprV l (m : Int) = (sprL l q, 0) := by
    unfold sprV
    rw [if_neg (by omega), Int.toNat_natCast, hq, show ((2 : Int) ^ m) = (q : Int) by rw [← hq]; simp, if_pos hv]
  have CS := Lib.hid (fun W h => cSpread a c l (m : Int) W h)
  rw [hsp] at CS
  simp only at CS
  have hS : Sp l q := by rw [← hq]; exact sp_of hm5 (by rw [hq]; exact hv)
  have hq4 : q ≤ 4096 := by rw [← hq]; exact Nat.pow_le_pow_right (by decide) hm12
  have hq32 : 32 ≤ q := by rw [← hq]; exact Nat.le_trans (show 32 ≤ 2 ^ 5 by decide) (Nat.pow_le_pow_right (by decide) hm5)
  obtain ⟨h256, hf, hsum⟩ := norV_facts hv
  have hl0 : 0 < l.length := by
    cases l with
    | nil => simp [sumI] at hsum; omega
    | cons y l => simp
  obtain ⟨L, hL⟩ : ∃ L, sprL l q = L := ⟨_, rfl⟩
  have hLlen : L.length = q := by rw [← hL]; exact hS.len
  have HSY := Lib.hid (show ∀ x, x < q → ∃ i : Nat, i < l.length ∧ L.getD x 0 = i ∧ 0 < l.getD i 0 by rw [← hL]; exact hS.sym)
  rw [hL] at CS ⊢
  have HF := Lib.hid hf
  have HI := Lib.hid h
  have HLL := Lib.hid hLlen
  clear h hS hv hsum hf hsp hL
  go_enter Try.func30, Try.ntmps30
  go_wp2_with fail
  refine (CS.out _ (HI.out.alloc _)).mono ?_; rintro e w1 ⟨v, rfl, hov, hb⟩
  obtain ⟨gs, cs, rfl, hgs1, hgs2⟩ := own_get hov (by rw [hLlen]; omega)
  rw [hLlen] at hov ⊢
  have HOS := Lib.hid (show OwnI w.heap.size w1 (.slice (some ⟨gs, 0, none⟩) q cs) L from OwnS.base hov (by simp))
  have HB := Lib.hid (show Below w.heap.size w w1 from ((Below.refl _ w).alloc (Nat.le_refl _) _).trans (hb.mono (by simp)))
  have hbx := (hb.block w.heap.size (by simp)).trans (heap_alloc_new w (.cells #[.slice none 0 0, .slice none 0 0] 55))
  have hgbs : w.heap.size < gs := by simp at hgs1; omega
  obtain ⟨gb, hgb⟩ : ∃ gb, w.heap.size = gb := ⟨_, rfl⟩
  rw [hgb] at hbx hgbs
  try rw [hgb]
  have HGB := Lib.hid hgb
  have HBX := Lib.hid hbx
  have HI1 := Lib.hid (HI.out.kept HB.out)
  obtain ⟨B1, hB1⟩ : ∃ B1, w1.heap.size = B1 := ⟨_, rfl⟩
  have hHB1 : B1 ≤ w1.heap.size := by omega
  have HLD := Lib.hid (show l.length = l.length from rfl)
  have HLS := Lib.hid (show ([] : List Int).length + l.length ≤ 1000000 by simp; omega)
  rw [hB1] at hgs2
  clear hb hgb hbx hov hgs1 CS HI
  have hqi : q ≤ 4096 := hq4
  go_wp2_with (first | (at_builtin; refine app_rowI rfl _ _ rfl B1 _ [] l rfl OwnS.nil a l.length c rfl rfl HI1.out HLS.out hHB1 ?_; intro v4 w4 ho4 hb4; have HO4 := Lib.hid ho4; have HB4 := Lib.hid hb4; clear ho4 hb4) | (refine make_int rfl _ _ rfl .i64 .i64 (q : Int) (q : Int) q rfl rfl rfl rfl (by omega) ?_; intro w5 ho5 hb5 hs5; have HO5 := Lib.hid ho5; have HB5 := Lib.hid hb5; clear ho5 hb5 hs5) | fail)
  have ho4 := HO4.out
  rw [List.nil_append] at ho4
  obtain ⟨gn, cn, rfl, hgn1, hgn2⟩ := own_get ho4 hl0
  obtain ⟨gm, hgm⟩ : ∃ gm, w4.heap.size = gm := ⟨_, rfl⟩
  rw [hgm] at HO5 HB5 hgn2 ⊢
  have hB4 : Below B1 w1 w4 := HB4.out
  have hb14 : Below w1.heap.size w1 w4 := hB4.mono (by omega)
  have hB5 : Below w4.heap.size w4 w5 := HB5.out.mono (by omega)
  have hsm : B1 ≤ gm := by have := hB4.size; omega
  have HS0 := Lib.hid (show OwnI w.heap.size w5 (.slice (some ⟨gs, 0, none⟩) q cs) L from OwnS.kept (OwnS.kept HOS.out hb14) hB5)
  have HN0 := Lib.hid (show OwnI B1 w5 (.slice (some ⟨gn, 0, none⟩) l.length cn) l from OwnS.kept ho4 hB5)
  have HX0 := Lib.hid (show w5.heap[gb]? = _ from (hB5.block gb (by have := hb14.size; have := block_lt HBX.out; omega)).trans ((hb14.block gb (block_lt HBX.out)).trans HBX.out))
  have HBB := Lib.hid (show Below gb w w5 by
    have h1 : Below w.heap.size w w5 := (HB.out.trans (hB4.mono (by have := HB.out.size; omega))).trans (HB5.out.mono (by have := HB.out.size; omega))
    rw [HGB.out] at h1; exact h1)
  have hgsn : gs ≠ gn := by omega
  have hgsm : gs ≠ gm := by omega
  have hgnm : gn ≠ gm := by omega
  have hgbn : gb ≠ gn := by omega
  have hgbm : gb ≠ gm := by omega
  have hbn : gb ≤ gn := by omega
  have hbm : gb ≤ gm := by omega
  have hgB : gb ≤ B1 := by omega
  clear ho4 hB4 hb14 hB5 hgm HO4 HB4 HB5 HB HOS HBX HI1 hgn1 hgn2
  rw [← HLL.out] at HO5
  have HNX := Lib.hid (Nx.start L l)
  have HST := Lib.hid (fun (k s : Nat) (nx nm : List Int) (h : Nx L l k nx nm) (hk : k < L.length) (hs : s < l.length) (hL : L.getD k 0 = s) => Nx.step h hk hs hL)
  have HEN := Lib.hid (fun nx nm (h : Nx L l L.length nx nm) => h.end)
  go_loopw [29] (fun iv wr => ∃ (k : Nat) (nx nm : List Int), k ≤ q ∧ iv = .int .i64 k ∧ Hid (Nx L l k nx nm) ∧ Hid (OwnI gb wr (.slice (some ⟨gs, 0, none⟩) q cs) L) ∧ Hid (OwnI gb wr (.slice (some ⟨gn, 0, none⟩) l.length cn) nx) ∧ Hid (OwnI gb wr (.slice (some ⟨gm, 0, none⟩) q q) nm) ∧ Hid (wr.heap[gb]? = some (.cells #[.slice none 0 0, .slice none 0 0] 55 (0, 0))) ∧ Hid (Below gb w wr)) (fun iv _ => q - (intOf iv).toNat)
  case atStart => exact ⟨0, l, _, Nat.zero_le _, rfl, HNX, Lib.hid (OwnS.base HS0.out (by rw [HGB.out]; exact Nat.le_refl _)), Lib.hid (OwnS.base HN0.out hgB), Lib.hid (OwnS.base (by have := HO5.out; rw [HLL.out] at this ⊢; exact this) hbm), HX0, HBB⟩
  case round =>
    clear HNX HS0 HN0 HO5 HX0 HBB
    obtain ⟨k, nx, nm, hk, rfl, hnx, hos, hon, hom, hx, hb⟩ := hrel
    by_cases hlt : k < q
    · obtain ⟨s, hs1, hs2, -⟩ := HSY.out k hlt
      have HNX2 := Lib.hid (HST.out k s nx nm hnx.out (by rw [HLL.out]; exact hlt) hs1 hs2)
      have c1 := hos.out.int_cell k (by rw [HLL.out]; exact hlt)
      rw [hs2] at c1
      have c2 := hon.out.int_cell s (by rw [hnx.out.l1]; exact hs1)
      have c3 := hom.out.int_cell k (by rw [hnx.out.l2, HLL.out]; exact hlt)
      have f2 := hon.out.free s
      have f3 := hom.out.free k
      obtain ⟨U, hU⟩ : ∃ U, nx.getD s 0 = U := ⟨_, rfl⟩
      obtain ⟨U3, hU3⟩ : ∃ U3, nm.getD k 0 = U3 := ⟨_, rfl⟩
      have hUb : 0 ≤ U ∧ U ≤ 8192 := by
        have h1 := hnx.out.n1 s hs1
        have h2 := HF.out s hs1
        have h3 := befTo_le L (s : Int) k
        omega
      rw [hU] at c2 HNX2
      rw [hU3] at c3
      have HOM2 := Lib.hid (hom.out.set_int k U (by rw [hnx.out.l2, HLL.out]; exact hlt))
      have HOM3 := Lib.hid (own_away (i := s) HOM2.out (fun e => hgnm e.symm) (.int .i64 (U + 1)))
      have HON2 := Lib.hid (own_away (i := k) hon.out hgnm (.int .i64 U))
      have c2' := HON2.out.int_cell s (by rw [hnx.out.l1]; exact hs1)
      rw [hU] at c2'
      have f2' := HON2.out.free s
      have HON3 := Lib.hid (HON2.out.set_int s (U + 1) (by rw [hnx.out.l1]; exact hs1))
      have HOS3 := Lib.hid (own_away (i := s) (own_away (i := k) hos.out hgsm (.int .i64 U)) hgsn (.int .i64 (U + 1)))
      have HX3 := Lib.hid (show ((wr.setCell ⟨gm, k, none⟩ (.int .i64 U)).setCell ⟨gn, s, none⟩ (.int .i64 (U + 1))).heap[gb]? = _ from (Below.heap_setCell _ _ _ _ hgbn).trans ((Below.heap_setCell _ _ _ _ hgbm).trans hx.out))
      have HB3 := Lib.hid ((hb.out.setCell (p := ⟨gm, k, none⟩) hbm (.int .i64 U)).setCell (p := ⟨gn, s, none⟩) hbn (.int .i64 (U + 1)))
      have hw : IntKind.i64.wrap (U + 1) = U + 1 := by rw [IntKind.wrap_i64]; omega
      have hk1 : (k : Int) < (q : Int) := by omega
      have hs11 : (s : Int) < (l.length : Int) := by omega
      clear hU hU3 hs2 hUb
      go_wp2_with fail
      go_roundw
      case rel => exact ⟨k + 1, _, _, by omega, by go_num, HNX2, HOS3, HON3, HOM3, HX3, HB3⟩
      case measure => simp [intOf]; omega
    · obtain rfl : k = q := by omega
      have hnm := HEN.out nx nm (by rw [HLL.out]; exact hnx.out)
      have HOM := Lib.hid (show OwnI gb wr (.slice (some ⟨gm, 0, none⟩) k k) (numsL L l) by rw [← hnm]; exact hom.out)
      have x0 := cell_lit hx.out 0 _ rfl
      have x1 := cell_lit hx.out 1 _ rfl
      have g0 := free_in hx.out 0
      have g1 := free_in hx.out 1
      have hbx2 := block_set (block_set hx.out 0 (.slice (some ⟨gs, 0, none⟩) k cs)) 1 (.slice (some ⟨gm, 0, none⟩) k k)
      have y0 := cell_lit hbx2 0 (.slice (some ⟨gs, 0, none⟩) k cs) rfl
      have y1 := cell_lit hbx2 1 (.slice (some ⟨gm, 0, none⟩) k k) rfl
      have HOS4 := Lib.hid (own_away (i := 1) (own_away (i := 0) hos.out (show gs ≠ gb from fun e => by omega) (.slice (some ⟨gs, 0, none⟩) k cs)) (show gs ≠ gb from fun e => by omega) (.slice (some ⟨gm, 0, none⟩) k k))
      have HOM4 := Lib.hid (own_away (i := 1) (own_away (i := 0) HOM.out (fun e => hgbm e.symm) (.slice (some ⟨gs, 0, none⟩) k cs)) (fun e => hgbm e.symm) (.slice (some ⟨gm, 0, none⟩) k k))
      have HB4 := Lib.hid ((hb.out.setCell (p := ⟨gb, 0, none⟩) (Nat.le_refl _) (.slice (some ⟨gs, 0, none⟩) k cs)).setCell (p := ⟨gb, 1, none⟩) (Nat.le_refl _) (.slice (some ⟨gm, 0, none⟩) k k))
      clear hbx2 hnm
      go_wp2_with fail
      rw [HGB.out]
      exact bodyPost_ret (v := .tuple #[.agg #[.slice (some ⟨gs, 0, none⟩) k cs, .slice (some ⟨gm, 0, none⟩) k k], .int .i64 0]) (by simp [results, Try.results30, go_sem, y0, y1]) rfl ⟨gs, cs, gm, rfl, HOS4.out, HOM4.out, hgsm, HB4.out⟩
end Go.Proofs.Ytplopddlpoffoaa
