import Derived.Test.YtmhjmoeeahepaaaGreatPP30
import Derived.Test.YtmhjmoeeahepaaaGreatPP20
import Derived.WalkLawsBesides
/- Layers 10, 13: a reader whose bytes lie below a bound. -/
namespace Go.Proofs.YtmhjmoeeahepaaaGreat
open Go.ChangeShapes Go.WideShapes Go.ChangeAt Go.RowKit
set_option linter.unusedVariables false
set_option linter.unusedSimpArgs false
set_option maxRecDepth 100000
open KraftMath CanonMath TurnMath Bits
/-- A reader, and its bytes, lie below B. -/
def Far (w : World) (g B : Nat) : Prop := g < B ∧ ∀ p L C u t, w.heap[g]? = some (.cells #[.slice p L C, u, t] 105 (0, 0)) → 0 < L → ∃ b o, p = some ⟨b, o, none⟩ ∧ b < B
theorem far_close {w : World} {g B : Nat} {x y z u v : Value} {p q : Option Addr} {L C M D e : Nat} (hg : w.heap[g]? = some (.cells #[.slice p L C, y, z] 105 (0, 0))) (hF : Far w g B) (hM : M ≤ L) (hq : 0 < M → q = p.map (fun x => x.add e)) : Far (((w.setCell ⟨g, 2, none⟩ v).setCell ⟨g, 0, none⟩ (.slice q M D)).setCell ⟨g, 1, none⟩ u).drew g B := by
  refine ⟨hF.1, fun p' L' C' u' t' h h0 => ?_⟩
  have h2 : (((w.setCell ⟨g, 2, none⟩ v).setCell ⟨g, 0, none⟩ (.slice q M D)).setCell ⟨g, 1, none⟩ u).drew.heap[g]? = _ := set3 hg (.slice q M D) u v
  rw [h2] at h
  injection h with h
  injection h with h _ _
  have h3 := congrArg Array.toList h
  simp at h3
  obtain ⟨⟨rfl, rfl, rfl⟩, -, -⟩ := h3
  obtain ⟨b, o, rfl, hb⟩ := hF.2 _ _ _ _ _ hg (by omega)
  rw [hq h0]
  refine ⟨b, o + e, ?_, hb⟩
  simp only [Option.map_some, Option.some.injEq]
  unfold Addr.add; split <;> simp_all
theorem Far.kept {w w' : World} {g B : Nat} (h : Far w g B) (he : w'.heap[g]? = w.heap[g]?) : Far w' g B := ⟨h.1, fun p L C u t e => h.2 p L C u t (by rw [← he]; exact e)⟩
set_option maxHeartbeats 1600000 in
theorem rMoveF (w : World) (g a n : Nat) (s : List UInt8) (h : IsReader w g s a) (hn : a + n ≤ 8 * s.length) : Calls Tryz.prog 110 #[.pointer (some ⟨g, 0, none⟩), .int .i64 n] w fun e w' => e = .returned (.tuple #[]) ∧ IsReader w' g s (a + n) ∧ Keeps (fun k => k = g) w w' ∧ w'.heap.size = w.heap.size ∧ ∀ B, Far w g B → Far w' g B := by
  obtain ⟨p, L, C, hg, ha, hL, hC, hm, hs, hp⟩ := h
  unfold maxLen at hm hs
  have c0 := cell_in hg 0
  have c1 := cell_in hg 1
  have c2 := cell_in hg 2
  have f0 := free_in hg 0
  have f1 := free_in hg 1
  have f2 := free_in hg 2
  simp at c0 c1 c2
  have b1 : ((n : Int) + (a : Int) % 8) / 8 ≤ (L : Int) := by omega
  have b0 : 0 ≤ ((n : Int) + (a : Int) % 8) / 8 := by omega
  have b2 : (L : Int) ≤ C := by omega
  have HL := Lib.hid hL; have HP := Lib.hid hp; have HG := Lib.hid hg
  clear hL hp hg
  go_enter Tryz.func110, Tryz.ntmps110
  go_wp2
  go_region
  all_goals go_wp2
  · go_end0
    exact ⟨rfl, reader_close HG.out hn HL.out hm hC hs HP (by omega) (by omega) (by omega) rfl (fun h => by omega), keep3 _ _ _ _ _, size3 _ _ _ _ _, fun B hF => far_close (x := .int .i64 0) (e := 0) HG.out hF (by omega) (fun h => by omega)⟩
  · go_end0
    exact ⟨rfl, reader_close HG.out hn HL.out hm hC hs HP (by omega) (by omega) (by omega) rfl (fun h => rfl), keep3 _ _ _ _ _, size3 _ _ _ _ _, fun B hF => far_close (x := .int .i64 0) HG.out hF (by omega) (fun h => rfl)⟩
theorem rTakeInF (w : World) (g a n : Nat) (s : List UInt8) (h : IsReader w g s a) (hn : n ≤ 56) (hf : a + n ≤ 8 * s.length) : Calls Tryz.prog 82 #[.pointer (some ⟨g, 0, none⟩), .int .i64 n] w fun e w' =>
    e = .returned (.tuple #[.int .u64 (peek ((spread s).drop a) n), .int .i64 0]) ∧ IsReader w' g s (a + n) ∧ Keeps (fun k => k = g) w w' ∧ w'.heap.size = w.heap.size ∧ ∀ B, Far w g B → Far w' g B := by
  have C := Lib.hid (rMayIn w g a n s h hn hf)
  obtain ⟨K, hK⟩ : ∃ K, peek ((spread s).drop a) n = K := ⟨_, rfl⟩
  have P := Lib.hid (fun k => rPeek (w.drewN k) g a n s h hn)
  rw [hK] at P; rw [hK]
  have Q := Lib.hid (fun k => rMoveF (w.drewN k) g a n s h hf)
  clear h hK
  go_enter Tryz.func82, Tryz.ntmps82
  go_wp2_with fail
  refine C.out.mono ?_; rintro e w1 ⟨rfl, k, rfl⟩
  go_wp2_with fail
  refine (P.out k).mono ?_; rintro e w1 ⟨rfl, j, rfl⟩
  go_wp2_with fail
  refine (Q.out _).mono ?_; rintro e w1 ⟨rfl, hr, hk, hz, hF⟩
  go_wp2_with fail
  go_ret2
  exact ⟨rfl, hr, ⟨hk.os, hk.tape, hk.output, hk.size, hk.block⟩, hz, hF⟩
/-- Behind a turn of blocks from B on the reader is as it was. -/
theorem reader_low {w w' : World} {g a B : Nat} {s : List UInt8} (h : IsReader w g s a) (hF : Far w g B) (hb : Below B w w') : IsReader w' g s a ∧ Far w' g B := by
  have he := hb.block g hF.1
  obtain ⟨p, L, C, hg, h1, h2, h3, h4, h5, h6⟩ := h
  refine ⟨⟨p, L, C, he.trans hg, h1, h2, h3, h4, h5, fun h0 => ?_⟩, hF.kept he⟩
  obtain ⟨b, o, rfl, hbg, hbl, hc⟩ := h6 h0
  obtain ⟨b', o', e, hbB⟩ := hF.2 _ _ _ _ _ hg h0
  obtain ⟨rfl, rfl⟩ := by simpa using e
  exact ⟨b, o, rfl, hbg, Nat.lt_of_lt_of_le hbl hb.size, fun j hj => by rw [← hc j hj]; exact World.cell?_of_block (hb.block b hbB)⟩
theorem far_start {w1 : World} {g : Nat} {s : List UInt8} (h : IsReader w1 g s 0) : Far w1 g w1.heap.size := by
  obtain ⟨p, L, C, hg, h1, h2, h3, h4, h5, h6⟩ := h
  refine ⟨block_lt hg, fun p' L' C' u t e h0 => ?_⟩
  rw [hg] at e
  injection e with e
  injection e with e _ _
  have h7 := congrArg Array.toList e
  simp at h7
  obtain ⟨⟨rfl, rfl, rfl⟩, -, -⟩ := h7
  obtain ⟨b, o, rfl, -, hbl, -⟩ := h6 h0
  exact ⟨b, o, rfl, hbl⟩
theorem rSkipInF (w : World) (g a n : Nat) (s : List UInt8) (h : IsReader w g s a) (hn : n ≤ 56) (hf : a + n ≤ 8 * s.length) : Calls Tryz.prog 126 #[.pointer (some ⟨g, 0, none⟩), .int .i64 n] w fun e w' =>
    e = .returned (.int .i64 0) ∧ IsReader w' g s (a + n) ∧ Keeps (fun k => k = g) w w' ∧ w'.heap.size = w.heap.size ∧ ∀ B, Far w g B → Far w' g B := by
  have C := Lib.hid (rMayIn w g a n s h hn hf)
  have Q := Lib.hid (fun k => rMoveF (w.drewN k) g a n s h hf)
  clear h
  go_enter Tryz.func126, Tryz.ntmps126
  go_wp2_with fail
  refine C.out.mono ?_; rintro e w1 ⟨rfl, k, rfl⟩
  go_wp2_with fail
  refine (Q.out _).mono ?_; rintro e w1 ⟨rfl, hr, hk, hz, hF⟩
  go_wp2_with fail
  go_ret
  exact ⟨rfl, hr, ⟨hk.os, hk.tape, hk.output, hk.size, hk.block⟩, hz, hF⟩
theorem rSkipUF (w : World) (g t : Nat) (s : List UInt8) (n : Int) (h : IsReader w g s t) (t' W : Nat) (E : Int) (hS : takeS (spread s) t n = (t', W, E)) :
    Calls Tryz.prog 126 #[.pointer (some ⟨g, 0, none⟩), .int .i64 n] w fun e w' => e = .returned (.int .i64 E) ∧ IsReader w' g s t' ∧ Keeps (fun k => k = g) w w' ∧ ∀ B, Far w g B → Far w' g B := by
  unfold takeS at hS
  by_cases h1 : n < 0 ∨ 56 < n
  · rw [if_pos h1] at hS
    obtain ⟨rfl, rfl, rfl⟩ := by simpa using hS
    refine (rSkipOut w _ n 2 ((rMayOut _ n h1 w).mono fun e w' ⟨h1, h2⟩ => ⟨h1, 0, h2⟩) (by decide)).mono ?_
    rintro e w' ⟨rfl, k, rfl⟩
    exact ⟨rfl, h, (Keeps.refl _ _).drewN _, fun B h => h⟩
  · rw [if_neg h1] at hS
    obtain ⟨n, rfl⟩ : ∃ m : Nat, n = m := ⟨n.toNat, by omega⟩
    rw [Int.toNat_natCast] at hS
    have hn : n ≤ 56 := by omega
    by_cases h2 : (spread s).length < t + n
    · rw [if_pos h2] at hS
      obtain ⟨rfl, rfl, rfl⟩ := by simpa using hS
      refine (rSkipOut w _ n 3 (rMayShort w g _ n s h hn (by rw [← spread_length]; exact h2)) (by decide)).mono ?_
      rintro e w' ⟨rfl, k, rfl⟩
      exact ⟨rfl, h, (Keeps.refl _ _).drewN _, fun B h => h⟩
    · rw [if_neg h2] at hS
      obtain ⟨rfl, rfl, rfl⟩ := by simpa using hS
      refine (rSkipInF w g t n s h hn (by rw [← spread_length]; omega)).mono ?_
      rintro e w' ⟨rfl, hr, hk, -, hF⟩
      exact ⟨rfl, hr, hk, hF⟩
set_option maxHeartbeats 3200000 in
theorem fNextF (w : World) (B gt ge g L : Nat) (l : List Int) (s : List UInt8) (t : Nat) (hL1 : 1 ≤ L) (hL : L ≤ 15) (hlen : ∀ s, s < l.length → len l s ≤ L) (hll : l.length ≤ 1024) (ht : IsTab w B gt ge L (2 ^ L) (tabK l L l.length)) (hr : IsReader w g s t) (hgt : gt ≠ g) (hge : ge ≠ g) (X Y E : Int) (hX : nextL l L ((spread s).drop t) = (X, Y, E)) :
    Calls Tryz.prog 131 #[.pointer (some ⟨gt, 0, none⟩), .pointer (some ⟨g, 0, none⟩)] w fun e w' => e = .returned (.tuple #[.int .i64 X, .int .i64 E]) ∧ IsReader w' g s (t + Y.toNat) ∧ Keeps (fun j => j = g) w w' ∧ ∀ B, Far w g B → Far w' g B := by
  have hN0 : 0 < 2 ^ L := Nat.pow_pos (by decide)
  have hN1 : 2 ^ L ≤ 2 ^ 15 := Nat.pow_le_pow_right (by decide) hL
  obtain ⟨P, hP⟩ : ∃ P, peek ((spread s).drop t) L = P := ⟨_, rfl⟩
  have hPl := peek_lt ((spread s).drop t) L
  rw [hP] at hPl
  have hte := tab_at (l := l) hPl
  have hel := ent_le (l := l) (L := L) (v := P) hlen
  unfold nextL at hX
  rw [hP] at hX
  have CP := Lib.hid (fun W h => rPeekU W g t s (L : Int) h P (by unfold peekS; rw [if_neg (by omega), Int.toNat_natCast, hP]))
  have HIT := Lib.hid (fun s' (h : (entB l L P).1 = s') => h)
  obtain ⟨⟨sy, n⟩, hent⟩ : ∃ q, entB l L P = q := ⟨_, rfl⟩
  rw [hent] at hte hel hX
  have hsy : sy ≤ 1024 := by
    have h0 : entB l L P = (sy, n) := hent
    unfold entB entK at h0
    cases hf : (List.range l.length).find? (hitAt l (bitsOf P L)) with
    | none => rw [hf] at h0; injection h0 with e1 e2; omega
    | some q =>
      rw [hf] at h0
      have := List.mem_range.1 (List.mem_of_find?_eq_some hf)
      injection h0 with e1 e2; omega
  simp only at hX hel
  have hwl : (spread s).length - t = ((spread s).drop t).length := by rw [List.length_drop]
  obtain ⟨N, hN⟩ : ∃ N, 2 ^ L = N := ⟨_, rfl⟩
  rw [hN] at ht hN0 hN1 hPl
  have g1 : w.cell? ⟨gt, 0, none⟩ = some (.slice (some ⟨ge, 0, none⟩) N N) := cell_lit ht.tb 0 _ rfl
  have g2 : w.cell? ⟨gt, 1, none⟩ = some (.int .i64 L) := cell_lit ht.tb 1 _ rfl
  have c0 := OwnS.cell flatE ht.row P 0 _ hte (by decide)
  have c1 := OwnS.cell flatE ht.row P 1 _ hte (by decide)
  simp only [fE, List.getElem?_cons_zero, List.getElem?_cons_succ, Nat.add_zero] at c0 c1
  have lgt := block_lt ht.tb
  have lge := (World.ownsRow.lt ht.row ge rfl).2
  have hP0 : (0 : Int) ≤ (P : Int) := by omega
  have hP1 : (P : Int) < (N : Int) := by omega
  have HR := Lib.hid hr; have HX := Lib.hid hX; have HWL := Lib.hid hwl; have HEL := Lib.hid hel
  have HG := Lib.hid (show w.cell? ⟨gt, 0, none⟩ = some (.slice (some ⟨ge, 0, none⟩) N N) ∧ w.cell? ⟨gt, 1, none⟩ = some (.int .i64 L) ∧ w.cell? ⟨ge, P * 2, none⟩ = some (.int .i32 sy) ∧ w.cell? ⟨ge, P * 2 + 1, none⟩ = some (.int .i32 n) from ⟨g1, g2, c0, c1⟩)
  clear ht hr hX hwl hent hte hel hP hN HIT
  go_enter Tryz.func131, Tryz.ntmps131
  go_wp2_with fail
  go_cut [6] from 8 to 33 (fun s6 wc => ∃ gb, s6 = .pointer (some ⟨gb, 0, none⟩) ∧ w.heap.size ≤ gb ∧ Hid (wc.heap[gb]? = some (.cells #[.int .i32 sy, .int .i32 n] 183 (0, 0))) ∧ Hid (Below w.heap.size w wc))
  case first =>
    have H4 := Lib.hid (show C4 w gt ge P (.slice (some ⟨ge, 0, none⟩) N N) (.int .i64 L) (.int .i32 sy) (.int .i32 n) from HG.out)
    have HA := Lib.hid (fun o => H4.out.keep (w5 := w.drew.alloc o) ((Below.refl _ w).drew.alloc (Nat.le_refl _) o) lgt lge)
    go_region_held3 (fun w1 => w1.cell? ⟨gt, 0, none⟩ = some (.slice (some ⟨ge, 0, none⟩) N N) ∧ w1.cell? ⟨gt, 1, none⟩ = some (.int .i64 L) ∧ w1.cell? ⟨ge, P * 2, none⟩ = some (.int .i32 sy) ∧ w1.cell? ⟨ge, P * 2 + 1, none⟩ = some (.int .i32 n)) (first | exact HG.out | exact HA.out _ | exact hS5 | exact hS6 _ | exact hS7 _ _ | fail) (first | ((go_at_call 62; refine (CP.out w.drew (HR.out.drewN 1)).mono ?_; rintro e w5 ⟨rfl, hb5⟩; have hS5 := H4.out.keep ((Below.refl _ w).drew.trans hb5) lgt lge; have hS6 := fun o => H4.out.keep (((Below.refl _ w).drew.trans hb5).alloc (show w.heap.size ≤ w5.heap.size from hb5.size) o) lgt lge)) | ((go_at_call 62; refine (CP.out _ ((HR.out.drewN 1).alloc _)).mono ?_; rintro e w5 ⟨rfl, hb5⟩; have hS5 := H4.out.keep (((Below.refl _ w).drew.alloc (Nat.le_refl _) _).trans (hb5.mono (by simp))) lgt lge; have hbx : w5.heap[w.heap.size]? = some (.cells #[.int .i32 0, .int .i32 0] 183 (0, 0)) := (hb5.block w.heap.size (by simp)).trans (heap_alloc_new w.drew _); have q0 : w5.cell? ⟨w.heap.size, 0, none⟩ = some (.int .i32 0) := cell_lit hbx 0 _ rfl; have q1 : w5.cell? ⟨w.heap.size, 1, none⟩ = some (.int .i32 0) := cell_lit hbx 1 _ rfl; have fq0 := free_in hbx 0; have fq1 := free_in hbx 1; have hS7 := fun u1 u2 => C4.far hS5 (g := w.heap.size) (by omega) (by omega) u1 u2)) | fail)
    all_goals
      go_wp2_with fail
      go_meet
      case rel => first
        | exact ⟨_, rfl, hb5.size, Lib.hid (heap_alloc_new _ _), Lib.hid (((Below.refl _ w).drew.trans hb5).alloc hb5.size _)⟩
        | exact ⟨_, rfl, Nat.le_refl _, Lib.hid (block_set (block_set hbx 0 _) 1 _), Lib.hid (((((Below.refl _ w).drew.alloc (Nat.le_refl _) _).trans (hb5.mono (by simp))).setCell (p := ⟨w.heap.size, 0, none⟩) (Nat.le_refl _) _).setCell (p := ⟨w.heap.size, 1, none⟩) (Nat.le_refl _) _)⟩
  case rest =>
    obtain ⟨gb, rfl, hgb, hbox, hb⟩ := hcut
    have b0 : wc.cell? ⟨gb, 0, none⟩ = some (.int .i32 sy) := cell_lit hbox.out 0 _ rfl
    have b1 : wc.cell? ⟨gb, 1, none⟩ = some (.int .i32 n) := cell_lit hbox.out 1 _ rfl
    have hr2 := HR.out.kept hb.out
    have HFC := Lib.hid (fun B (hF : Far w g B) => Far.kept hF (hb.out.block g (IsReader.lt HR.out)))
    have htl := HR.out.le
    have hn15 := HEL.out.1
    clear g1 g2 c0 c1 CP
    by_cases hn0 : n = 0
    · have hs0 := HEL.out.2 hn0
      subst hn0
      subst hs0
      have hx := HX.out
      rw [if_pos rfl] at hx
      injection hx with e1 e2
      injection e2 with e2 e3
      subst e1 e2 e3
      have HRR := Lib.hid hr2
      have HK := Lib.hid (show Keeps (fun j => j = g) w wc from Keeps.of_below hb.out)
      clear hr2
      go_wp2_with fail
      go_ret2
      exact ⟨rfl, HRR.out, HK.out, HFC.out⟩
    · have hx := HX.out
      rw [if_neg hn0] at hx
      have hnb : ((n : Int) == 0) = false := by rw [beq_eq_false_iff_ne]; omega
      have hwl := HWL.out
      by_cases hsh : ((spread s).drop t).length < n
      · rw [if_pos hsh] at hx
        injection hx with e1 e2
        injection e2 with e2 e3
        subst e1 e2 e3
        have CS := Lib.hid (rSkipUF wc g t s (n : Int) hr2 t 0 3 (by unfold takeS; rw [if_neg (by omega), if_pos (by rw [Int.toNat_natCast]; omega)]))
        have HB := hb
        clear hr2 hsh hwl
        go_wp2_with fail
        refine CS.out.mono ?_; rintro e w6 ⟨rfl, hr6, hk6, hF6⟩
        have HFF := Lib.hid (fun B hF => hF6 B (HFC.out B hF))
        have HRR := Lib.hid hr6
        have HK := Lib.hid ((show Keeps (fun j => j = g) w wc from Keeps.of_below hb.out).trans hk6)
        clear hr6 hk6 hF6
        go_wp2_with fail
        go_ret2
        exact ⟨rfl, HRR.out, HK.out, HFF.out⟩
      · rw [if_neg hsh] at hx
        injection hx with e1 e2
        injection e2 with e2 e3
        subst e1 e2 e3
        have CS := Lib.hid (rSkipUF wc g t s (n : Int) hr2 (t + n) (peek ((spread s).drop t) n) 0 (by unfold takeS; rw [if_neg (by omega), if_neg (by rw [Int.toNat_natCast]; omega), Int.toNat_natCast]))
        clear hr2 hsh hwl
        go_wp2_with fail
        refine CS.out.mono ?_; rintro e w6 ⟨rfl, hr6, hk6, hF6⟩
        have HFF := Lib.hid (fun B hF => hF6 B (HFC.out B hF))
        have HRR := Lib.hid (show IsReader w6 g s (t + ((n : Nat) : Int).toNat) by rw [Int.toNat_natCast]; exact hr6)
        have HK := Lib.hid ((show Keeps (fun j => j = g) w wc from Keeps.of_below hb.out).trans hk6)
        have b0 := (hk6.heap hbox.out (by
          have := IsReader.lt HR.out
          show ¬ gb = g; omega))
        have b0 : w6.cell? ⟨gb, 0, none⟩ = some (.int .i32 sy) := cell_lit b0 0 _ rfl
        clear hr6 hk6 hF6
        go_wp2_with fail
        go_ret2
        exact ⟨rfl, HRR.out, HK.out, HFF.out⟩
end Go.Proofs.YtmhjmoeeahepaaaGreat

/- Layer 13: bits are taken, or a fault is told by a panic. -/
namespace Go.Proofs.YtmhjmoeeahepaaaGreat
open Go.ChangeShapes Go.WideShapes Go.ChangeAt Go.RowKit
set_option linter.unusedVariables false
set_option linter.unusedSimpArgs false
set_option maxRecDepth 100000
open Bits hiding packF pack_length
open RunsMath KraftMath CanonMath TurnMath Pm
/-- A fault that is told by a panic. -/
def flt (E : Int) : PanicEntry := { v := .iface 163 (.agg #[.int .i64 E]), recovered := false }
set_option maxHeartbeats 1600000 in
theorem mOk (w : World) : Calls Tryz.prog 119 #[.int .i64 0] w fun e w' => e = .returned (.tuple #[]) ∧ w' = w := by
  go_enter Tryz.func119, Tryz.ntmps119
  go_wp2_with fail
  go_end0
  exact ⟨rfl, rfl⟩
set_option maxHeartbeats 1600000 in
theorem mNo (E : Int) (hE : E ≠ 0) (w : World) : Calls Tryz.prog 119 #[.int .i64 E] w fun e w' => e = .panicked [flt E] ∧ w' = w := by
  have hb : (E != 0) = true := by rw [bne_iff_ne]; exact hE
  clear hE
  go_enter Tryz.func119, Tryz.ntmps119
  go_wp2_with fail
  exact ⟨rfl, rfl, rfl⟩
theorem tf_hit (E : Int) (w : World) : (Instr.typeAssert (.iface 163 (.agg #[.int .i64 E])) 20 163 true).run Tryz.prog w = .ok (.tuple #[.agg #[.int .i64 E], .bool true]) w := by
  simp [Instr.typeAssert, run_underlying Tryz.underlying163]
set_option maxHeartbeats 1600000 in
theorem tTold (E : Int) (w : World) : Calls Tryz.prog 106 #[.iface 163 (.agg #[.int .i64 E])] w fun e w' => e = .returned (.int .i64 E) ∧ Below w.heap.size w w' := by
  have t0 := fun W => tf_hit E W
  go_enter Tryz.func106, Tryz.ntmps106
  go_wp2_with fail
  go_ret
  exact ⟨rfl, (Below.refl _ _).alloc (Nat.le_refl _) _⟩
theorem tTimes (s m : Int) (n : Nat) (hn : many (s, m) = n) (hm : 0 ≤ m ∧ m ≤ 1000) (w : World) : Calls Tryz.prog 122 #[.agg #[.int .i64 s, .int .i64 m]] w fun e w' => e = .returned (.int .i64 n) ∧ Below w.heap.size w w' := by
  unfold many at hn
  simp only at hn
  by_cases h1 : s = 16
  · subst h1; rw [if_pos (by decide)] at hn
    have HN := Lib.hid (show 3 + m = (n : Int) by omega)
    clear hn
    go_enter Tryz.func122, Tryz.ntmps122
    go_wp2
    go_ret
    exact ⟨ret_i HN.out, (Below.refl _ _).alloc (Nat.le_refl _) _⟩
  by_cases h2 : s = 17
  · subst h2; rw [if_pos (by decide)] at hn
    have HN := Lib.hid (show 3 + m = (n : Int) by omega)
    clear hn
    go_enter Tryz.func122, Tryz.ntmps122
    go_wp2
    go_ret
    exact ⟨ret_i HN.out, (Below.refl _ _).alloc (Nat.le_refl _) _⟩
  rw [if_neg (by omega)] at hn
  by_cases h3 : s = 18
  · subst h3; rw [if_pos rfl] at hn
    have HN := Lib.hid (show 11 + m = (n : Int) by omega)
    clear hn
    go_enter Tryz.func122, Tryz.ntmps122
    go_wp2
    go_ret
    exact ⟨ret_i HN.out, (Below.refl _ _).alloc (Nat.le_refl _) _⟩
  rw [if_neg h3] at hn
  have e1 : (s == 16) = false := by rw [beq_eq_false_iff_ne]; exact h1
  have e2 : (s == 17) = false := by rw [beq_eq_false_iff_ne]; exact h2
  have e3 : (s == 18) = false := by rw [beq_eq_false_iff_ne]; exact h3
  subst hn
  clear h1 h2 h3
  go_enter Tryz.func122, Tryz.ntmps122
  go_wp2
  go_ret
  exact ⟨rfl, (Below.refl _ _).alloc (Nat.le_refl _) _⟩
set_option maxHeartbeats 1600000 in
theorem tTakeIn (w : World) (g a n : Nat) (s : List UInt8) (h : IsReader w g s a) (hn : n ≤ 56) (hf : a + n ≤ 8 * s.length) : Calls Tryz.prog 118 #[.pointer (some ⟨g, 0, none⟩), .int .i64 n] w fun e w' =>
    e = .returned (.int .i64 (peek ((spread s).drop a) n : Nat)) ∧ IsReader w' g s (a + n) ∧ Keeps (fun k => k = g) w w' ∧ ∀ B, Far w g B → Far w' g B := by
  have C := Lib.hid (rTakeInF w g a n s h hn hf)
  have hpl := peek_lt ((spread s).drop a) n
  have h56 : (2:Nat) ^ n ≤ 2 ^ 56 := Nat.pow_le_pow_right (by decide) hn
  obtain ⟨K, hK⟩ : ∃ K, peek ((spread s).drop a) n = K := ⟨_, rfl⟩
  rw [hK] at C hpl ⊢
  have hwK : IntKind.i64.wrap (K : Int) = K := by rw [IntKind.wrap_i64]; omega
  have CM := Lib.hid mOk
  clear hK h56 hpl h
  go_enter Tryz.func118, Tryz.ntmps118
  go_wp2_with fail
  refine C.out.mono ?_; rintro e w1 ⟨rfl, h1, k1, z1, hF⟩
  go_wp2_with fail
  refine (CM.out _).mono ?_; rintro e w2 ⟨rfl, rfl⟩
  go_wp2_with fail
  go_ret
  exact ⟨rfl, h1, k1, hF⟩
set_option maxHeartbeats 1600000 in
theorem tTakeOut (w : World) (g a n : Nat) (s : List UInt8) (h : IsReader w g s a) (hn : n ≤ 56) (hf : 8 * s.length < a + n) : Calls Tryz.prog 118 #[.pointer (some ⟨g, 0, none⟩), .int .i64 n] w fun e w' =>
    e = .panicked [flt 3] ∧ ∃ k, w' = w.drewN k := by
  have C := Lib.hid (rTakeOut w (some ⟨g, 0, none⟩) n 3 (Lib.hid (rMayShort w g a n s h hn hf)) (by decide))
  have CM := Lib.hid (fun W => mNo 3 (by decide) W)
  clear h hf
  go_enter Tryz.func118, Tryz.ntmps118
  go_wp2_with fail
  refine C.out.mono ?_; rintro e w1 ⟨rfl, k, rfl⟩
  go_wp2_with fail
  refine (CM.out _).mono ?_; rintro e w2 ⟨rfl, rfl⟩
  go_wp2_with fail
  exact ⟨rfl, rfl, k, rfl⟩
end Go.Proofs.YtmhjmoeeahepaaaGreat

/- Layer 13: a run is read. -/
namespace Go.Proofs.YtmhjmoeeahepaaaGreat
open Go.ChangeShapes Go.WideShapes Go.ChangeAt Go.RowKit
set_option linter.unusedVariables false
set_option linter.unusedSimpArgs false
set_option maxRecDepth 100000
open Bits hiding packF pack_length
open RunsMath KraftMath CanonMath TurnMath Pm
theorem tab_keeps {w w' : World} {B gt ge L N g : Nat} {tab : List (Int × Int)} (h : IsTab w B gt ge L N tab) (hk : Keeps (fun k => k = g) w w') (h1 : gt ≠ g) (h2 : ge ≠ g) : IsTab w' B gt ge L N tab :=
  ⟨hk.heap h.tb h1, hk.ownsRow h.row (fun j hj e => h2 ((show ge = j by simpa [Value.ownBlock] using hj).trans e))⟩
/-- How the reader's table stands. -/
structure Tb13 (w : World) (B gt ge g : Nat) (o : List Int) : Prop where
  tab : IsTab w B gt ge 7 128 (tabK o 7 o.length)
  far1 : gt ≠ g
  far2 : ge ≠ g
structure Of13 (o : List Int) : Prop where
  lens : ∀ s, s < o.length → len o s ≤ 7
  few : o.length ≤ 1024
theorem Tb13.keeps {w w' : World} {B gt ge g : Nat} {o : List Int} (h : Tb13 w B gt ge g o) (hk : Keeps (fun k => k = g) w w') : Tb13 w' B gt ge g o := ⟨tab_keeps h.tab hk h.far1 h.far2, h.far1, h.far2⟩
theorem keeps_new {w : World} {S : Nat → Prop} (o : Obj) : Keeps S w (w.alloc o) := (Keeps.refl S w).alloc _
theorem reader_away {w w' : World} {g a : Nat} {s : List UInt8} (h : IsReader w g s a) {k : Nat} (hk : ∀ j x, w.cell? ⟨k, j, none⟩ ≠ some (.int .u8 x)) (hne : k ≠ g) (hK : Keeps (fun b => b = k) w w') : IsReader w' g s a := by
  obtain ⟨p, L, C, hg, h1, h2, h3, h4, h5, h6⟩ := h
  refine ⟨p, L, C, hK.heap hg (fun e => hne e.symm), h1, h2, h3, h4, h5, fun h0 => ?_⟩
  obtain ⟨b, o, e, hb, hlt, hc⟩ := h6 h0
  have hbk : b ≠ k := by
    rintro rfl
    exact hk _ _ (hc 0 h0)
  exact ⟨b, o, e, hb, Nat.lt_of_lt_of_le hlt hK.size, fun j hj => (hK.cell (p := ⟨b, o + j, none⟩) hlt hbk).trans (hc j hj)⟩
theorem cell2_reader {w : World} {g a gx : Nat} {s : List UInt8} {u v : Int} {t : TypeId} (h : IsReader w g s a) (hx : w.heap[gx]? = some (.cells #[.int .i64 u, .int .i64 v] t (0, 0))) (hne : g < gx) (X K : Value) : IsReader ((w.setCell ⟨gx, 0, none⟩ X).setCell ⟨gx, 1, none⟩ K) g s a := by
  refine reader_away h (k := gx) (fun j x e => ?_) (by omega) (((Keeps.refl (fun b => b = gx) w).setCell (p := ⟨gx, 0, none⟩) (.inr rfl) X).setCell (p := ⟨gx, 1, none⟩) (.inr rfl) K)
  rw [cell_in hx j] at e
  rcases j with _ | _ | j <;> simp at e
set_option maxHeartbeats 1600000 in
theorem tRunOk (w0 : World) (g t B gt ge : Nat) (s : List UInt8) (o : List Int) (h : IsReader w0 g s t) (ht : Tb13 w0 B gt ge g o) (ho : Of13 o) (X Y : Int) (hX : nextL o 7 ((spread s).drop t) = (X, Y, 0)) (n : Nat) (hn : extra X = n) (hf : t + Y.toNat + n ≤ 8 * s.length) :
    Calls Tryz.prog 121 #[.pointer (some ⟨g, 0, none⟩), .pointer (some ⟨gt, 0, none⟩)] w0 fun e w' => e = .returned (.agg #[.int .i64 X, .int .i64 (peek ((spread s).drop (t + Y.toNat)) n : Nat)]) ∧ IsReader w' g s (t + Y.toNat + n) ∧ Keeps (fun k => k = g) w0 w' ∧ ∀ B, Far w0 g B → Far w' g B := by
  have HR := Lib.hid h
  have HT := Lib.hid ht
  have hn7 : n ≤ 56 := by rw [← hn]; have := extra7 X; omega
  have CE := Lib.hid (fun W => rExtra X n (by rw [hn]) W)
  have CN := Lib.hid (fun W (h1 : IsReader W g s t) (h2 : Tb13 W B gt ge g o) => fNextF W B gt ge g 7 o s t (by decide) (by decide) ho.lens ho.few h2.tab h1 h2.far1 h2.far2 X Y 0 hX)
  have CT := Lib.hid (fun W (h1 : IsReader W g s (t + Y.toNat)) => tTakeIn W g (t + Y.toNat) n s h1 hn7 hf)
  obtain ⟨K, hK⟩ : ∃ K, peek ((spread s).drop (t + Y.toNat)) n = K := ⟨_, rfl⟩
  rw [hK] at CT ⊢
  have CM := Lib.hid mOk
  clear h ht ho hX hn hf hK hn7
  go_enter Tryz.func121, Tryz.ntmps121
  go_wp2_with fail
  obtain ⟨w1, hw1⟩ : ∃ w1, w0.alloc (.cells #[.int .i64 0, .int .i64 0] 84) = w1 := ⟨_, rfl⟩
  have hk1 : Keeps (fun k => k = g) w0 w1 := by rw [← hw1]; exact keeps_new _
  have hb1 : Below w0.heap.size w0 w1 := by rw [← hw1]; exact (Below.refl _ _).alloc (Nat.le_refl _) _
  have hx1 := heap_alloc_new w0 (.cells #[.int .i64 0, .int .i64 0] 84)
  obtain ⟨gx, hgx⟩ : ∃ gx, w0.heap.size = gx := ⟨_, rfl⟩
  have hgx0 : w0.heap.size ≤ gx := by omega
  have hgg : g < gx := by rw [← hgx]; exact HR.out.lt
  rw [hw1] at hx1 ⊢
  rw [hgx] at hx1 ⊢
  have hgx1 : gx < w1.heap.size := block_lt hx1
  have HR1 := Lib.hid (IsReader.kept HR.out hb1)
  have HT1 := Lib.hid (HT.out.keeps hk1)
  clear hgx hw1
  have C1 := Lib.hid (CN.out w1 HR1.out HT1.out)
  refine C1.out.mono ?_; rintro e w2 ⟨rfl, hr2, hk2, hF2⟩
  have HX2 := Lib.hid (show w2.heap[gx]? = some (.cells #[.int .i64 0, .int .i64 0] 84 (0, 0)) from (hk2.block gx hgx1 (by show ¬ gx = g; omega)).trans hx1)
  have C2 := Lib.hid (CT.out w2 hr2)
  have HF2 := Lib.hid (fun B (hF : Far w0 g B) => hF2 B (Far.kept hF (hb1.block g HR.out.lt)))
  have HK2 := Lib.hid (hk1.trans' hk2 (fun j hj hf => hf))
  clear hF2 hk1 hk2 hr2 hx1 hb1 CN CT C1 HR1 HT1 HT HR
  go_wp2_with fail
  refine (CM.out _).mono ?_; rintro e w3 ⟨rfl, rfl⟩
  go_wp2_with fail
  refine (CE.out _).mono ?_; rintro e w4 ⟨rfl, rfl⟩
  go_wp2_with fail
  refine C2.out.mono ?_; rintro e w5 ⟨rfl, hr5, hk5, hF5⟩
  have hX5 : w5.heap[gx]? = some (.cells #[.int .i64 0, .int .i64 0] 84 (0, 0)) := (hk5.block gx (block_lt HX2.out) (by show ¬ gx = g; omega)).trans HX2.out
  have HK5 := Lib.hid (HK2.out.trans' hk5 (fun j hj hf => hf))
  have HR5 := Lib.hid (cell2_reader hr5 hX5 (by omega) (.int .i64 X) (.int .i64 (K : Int)))
  have HF5 := Lib.hid (fun B (hF : Far w0 g B) => Far.kept (hF5 B (HF2.out B hF)) (show ((w5.setCell ⟨gx, 0, none⟩ (.int .i64 X)).setCell ⟨gx, 1, none⟩ (.int .i64 (K : Int))).heap[g]? = w5.heap[g]? from by rw [Below.heap_setCell _ _ _ _ (by show g ≠ gx; omega), Below.heap_setCell _ _ _ _ (by show g ≠ gx; omega)]))
  have HKE := Lib.hid ((HK5.out.setCell (p := ⟨gx, 0, none⟩) (.inl hgx0) (.int .i64 X)).setCell (p := ⟨gx, 1, none⟩) (.inl hgx0) (.int .i64 (K : Int)))
  have c0 := cell_in hX5 0
  have c1 := cell_in hX5 1
  have f0 := free_in hX5 0
  have f1 := free_in hX5 1
  have hX7 : ((w5.setCell ⟨gx, 0, none⟩ (.int .i64 X)).setCell ⟨gx, 1, none⟩ (.int .i64 (K : Int))).heap[gx]? = some (.cells #[.int .i64 X, .int .i64 (K : Int)] 84 (0, 0)) := block_set (block_set hX5 0 _) 1 _
  have q0 := cell_in hX7 0
  have q1 := cell_in hX7 1
  simp only [List.getElem?_toArray, List.getElem?_cons_zero, List.getElem?_cons_succ] at q0 q1 c0 c1
  clear hF5 HX2 C2 CE CM hr5 hk5 HK2 hgx1 hX5 HK5 hX7
  go_wp2_with fail
  refine bodyPost_ret (v := .agg #[.int .i64 X, .int .i64 (K : Int)]) (by simp [results, Tryz.results121, go_sem, q0, q1]) rfl ⟨rfl, HR5.out, HKE.out, HF5.out⟩

set_option maxHeartbeats 1600000 in
theorem tRunNo (w0 : World) (g t B gt ge : Nat) (s : List UInt8) (o : List Int) (h : IsReader w0 g s t) (ht : Tb13 w0 B gt ge g o) (ho : Of13 o) (X Y E : Int) (hX : nextL o 7 ((spread s).drop t) = (X, Y, E)) (hE : E ≠ 0) :
    Calls Tryz.prog 121 #[.pointer (some ⟨g, 0, none⟩), .pointer (some ⟨gt, 0, none⟩)] w0 fun e w' => e = .panicked [flt E] ∧ Keeps (fun k => k = g) w0 w' := by
  have HR := Lib.hid h
  have HT := Lib.hid ht
  have CN := Lib.hid (fun W (h1 : IsReader W g s t) (h2 : Tb13 W B gt ge g o) => fNext W B gt ge g 7 o s t (by decide) (by decide) ho.lens ho.few h2.tab h1 h2.far1 h2.far2 X Y E hX)
  have CM := Lib.hid (fun W => mNo E hE W)
  clear h ht ho hX hE
  go_enter Tryz.func121, Tryz.ntmps121
  go_wp2_with fail
  obtain ⟨w1, hw1⟩ : ∃ w1, w0.alloc (.cells #[.int .i64 0, .int .i64 0] 84) = w1 := ⟨_, rfl⟩
  have hk1 : Keeps (fun k => k = g) w0 w1 := by rw [← hw1]; exact keeps_new _
  have hb1 : Below w0.heap.size w0 w1 := by rw [← hw1]; exact (Below.refl _ _).alloc (Nat.le_refl _) _
  rw [hw1] at ⊢
  have HR1 := Lib.hid (IsReader.kept HR.out hb1)
  have HT1 := Lib.hid (HT.out.keeps hk1)
  clear hw1
  have C1 := Lib.hid (CN.out w1 HR1.out HT1.out)
  refine C1.out.mono ?_; rintro e w2 ⟨rfl, hr2, hk2⟩
  have HK2 := Lib.hid (hk1.trans' hk2 (fun j hj hf => hf))
  clear hk1 hk2 hr2 hb1 CN C1 HR1 HT1 HT HR
  go_wp2_with fail
  refine (CM.out _).mono ?_; rintro e w3 ⟨rfl, rfl⟩
  go_wp2_with fail
  exact ⟨rfl, rfl, HK2.out⟩
set_option maxHeartbeats 1600000 in
theorem tRunShort (w0 : World) (g t B gt ge : Nat) (s : List UInt8) (o : List Int) (h : IsReader w0 g s t) (ht : Tb13 w0 B gt ge g o) (ho : Of13 o) (X Y : Int) (hX : nextL o 7 ((spread s).drop t) = (X, Y, 0)) (n : Nat) (hn : extra X = n) (hf : 8 * s.length < t + Y.toNat + n) :
    Calls Tryz.prog 121 #[.pointer (some ⟨g, 0, none⟩), .pointer (some ⟨gt, 0, none⟩)] w0 fun e w' => e = .panicked [flt 3] ∧ Keeps (fun k => k = g) w0 w' := by
  have HR := Lib.hid h
  have HT := Lib.hid ht
  have hn7 : n ≤ 56 := by rw [← hn]; have := extra7 X; omega
  have CE := Lib.hid (fun W => rExtra X n (by rw [hn]) W)
  have CN := Lib.hid (fun W (h1 : IsReader W g s t) (h2 : Tb13 W B gt ge g o) => fNext W B gt ge g 7 o s t (by decide) (by decide) ho.lens ho.few h2.tab h1 h2.far1 h2.far2 X Y 0 hX)
  have CT := Lib.hid (fun W (h1 : IsReader W g s (t + Y.toNat)) => tTakeOut W g (t + Y.toNat) n s h1 hn7 hf)
  have CM := Lib.hid mOk
  clear h ht ho hX hn hf hn7
  go_enter Tryz.func121, Tryz.ntmps121
  go_wp2_with fail
  obtain ⟨w1, hw1⟩ : ∃ w1, w0.alloc (.cells #[.int .i64 0, .int .i64 0] 84) = w1 := ⟨_, rfl⟩
  have hk1 : Keeps (fun k => k = g) w0 w1 := by rw [← hw1]; exact keeps_new _
  have hb1 : Below w0.heap.size w0 w1 := by rw [← hw1]; exact (Below.refl _ _).alloc (Nat.le_refl _) _
  rw [hw1] at ⊢
  have HR1 := Lib.hid (IsReader.kept HR.out hb1)
  have HT1 := Lib.hid (HT.out.keeps hk1)
  clear hw1
  have C1 := Lib.hid (CN.out w1 HR1.out HT1.out)
  refine C1.out.mono ?_; rintro e w2 ⟨rfl, hr2, hk2⟩
  have HK2 := Lib.hid (hk1.trans' hk2 (fun j hj hf => hf))
  have C2 := Lib.hid (CT.out w2 hr2)
  clear hk1 hk2 hr2 hb1 CN C1 HR1 HT1 HT HR CT
  go_wp2_with fail
  refine (CM.out _).mono ?_; rintro e w3 ⟨rfl, rfl⟩
  go_wp2_with fail
  refine (CE.out _).mono ?_; rintro e w4 ⟨rfl, rfl⟩
  go_wp2_with fail
  refine C2.out.mono ?_; rintro e w5 ⟨rfl, k, rfl⟩
  go_wp2_with fail
  exact ⟨rfl, rfl, HK2.out.drewN _⟩
end Go.Proofs.YtmhjmoeeahepaaaGreat
