import Derived.Test.YtopiiickeojpmaaJ18
import Derived.Test.YtopiiickeojpmaaJ19
import Derived.Deep.CutRange
import Derived.Deep.RegionWith
/- Layer 10: Next, Size. -/
namespace Go.Proofs.Ytopiiickeojpmaa
open Go.ChangeShapes Go.WideShapes Go.ChangeAt Go.RowKit
set_option linter.unusedVariables false
set_option linter.unusedSimpArgs false
set_option maxRecDepth 100000
open KraftMath CanonMath TurnMath Bits
theorem fNextNil (p : Option Addr) (w : World) : Calls Try.prog 72 #[.pointer none, .pointer p] w fun e w' => e = .returned (.tuple #[.int .i64 0, .int .i64 1]) ∧ w' = w := by
  go_enter Try.func72, Try.ntmps72
  go_wp2_with fail
  go_ret2
  exact ⟨rfl, rfl⟩
theorem fNextNone (g : Nat) (w : World) : Calls Try.prog 72 #[.pointer (some ⟨g, 0, none⟩), .pointer none] w fun e w' => e = .returned (.tuple #[.int .i64 0, .int .i64 1]) ∧ w' = w := by
  go_enter Try.func72, Try.ntmps72
  go_wp2_with fail
  go_ret2
  exact ⟨rfl, rfl⟩
theorem tab_at {l : List Int} {L v : Nat} (hv : v < 2 ^ L) : (tabK l L l.length)[v]? = some ((((entB l L v).1 : Nat) : Int), (((entB l L v).2 : Nat) : Int)) := by
  unfold tabK entB
  simp [hv]
theorem ent_le {l : List Int} {L v : Nat} (hl : ∀ s, s < l.length → len l s ≤ L) : (entB l L v).2 ≤ L ∧ ((entB l L v).2 = 0 → (entB l L v).1 = 0) := by
  unfold entB entK
  cases hf : (List.range l.length).find? (hitAt l (bitsOf v L)) with
  | none => simp
  | some s =>
    have h1 := List.find?_some hf
    have h2 := List.mem_range.1 (List.mem_of_find?_eq_some hf)
    refine ⟨hl s h2, fun h0 => ?_⟩
    unfold hitAt at h1
    simp only at h0
    rw [h0] at h1
    simp at h1
def C4 (W : World) (gt ge P : Nat) (v1 v2 v3 v4 : Value) : Prop := W.cell? ⟨gt, 0, none⟩ = some v1 ∧ W.cell? ⟨gt, 1, none⟩ = some v2 ∧ W.cell? ⟨ge, P * 2, none⟩ = some v3 ∧ W.cell? ⟨ge, P * 2 + 1, none⟩ = some v4
theorem C4.keep {W w5 : World} {gt ge P : Nat} {v1 v2 v3 v4 : Value} (h : C4 W gt ge P v1 v2 v3 v4) (hb : Below W.heap.size W w5) (h1 : gt < W.heap.size) (h2 : ge < W.heap.size) : C4 w5 gt ge P v1 v2 v3 v4 :=
  ⟨(hb.cell (p := ⟨gt, 0, none⟩) h1).trans h.1, (hb.cell (p := ⟨gt, 1, none⟩) h1).trans h.2.1, (hb.cell (p := ⟨ge, P * 2, none⟩) h2).trans h.2.2.1, (hb.cell (p := ⟨ge, P * 2 + 1, none⟩) h2).trans h.2.2.2⟩
theorem C4.far {W : World} {gt ge P : Nat} {v1 v2 v3 v4 : Value} (h : C4 W gt ge P v1 v2 v3 v4) {g : Nat} (h1 : gt ≠ g) (h2 : ge ≠ g) (u1 u2 : Value) : C4 ((W.setCell ⟨g, 0, none⟩ u1).setCell ⟨g, 1, none⟩ u2) gt ge P v1 v2 v3 v4 := ⟨far2 h.1 h1, far2 h.2.1 h1, far2 h.2.2.1 h2, far2 h.2.2.2 h2⟩
set_option maxHeartbeats 3200000 in
theorem fNext (w : World) (B gt ge g L : Nat) (l : List Int) (s : List UInt8) (t : Nat) (hL1 : 1 ≤ L) (hL : L ≤ 15) (hlen : ∀ s, s < l.length → len l s ≤ L) (hll : l.length ≤ 1024) (ht : IsTab w B gt ge L (2 ^ L) (tabK l L l.length)) (hr : IsReader w g s t) (hgt : gt ≠ g) (hge : ge ≠ g) (X Y E : Int) (hX : nextL l L ((spread s).drop t) = (X, Y, E)) :
    Calls Try.prog 72 #[.pointer (some ⟨gt, 0, none⟩), .pointer (some ⟨g, 0, none⟩)] w fun e w' => e = .returned (.tuple #[.int .i64 X, .int .i64 E]) ∧ IsReader w' g s (t + Y.toNat) ∧ Keeps (fun j => j = g) w w' := by
  have hN0 : 0 < 2 ^ L := Nat.pow_pos (by decide)
  have hN1 : 2 ^ L ≤ 2 ^ 15 := Nat.pow_le_pow_right (by decide) hL
  obtain ⟨P, hP⟩ : ∃ P, peek ((spread s).drop t) L = P := ⟨_, rfl⟩
  have hPl := peek_lt ((spread s).drop t) L
  rw [hP] at hPl
  have hte := tab_at (l := l) hPl
  have hel := ent_le (l := l) (L := L) (v := P) hlen
  unfold nextL at hX
  rw [hP] at hX
  have CP := Lib.hid (fun W h => rPeekU W g t s (L : Int) h P (by unfold peekS; rw [if_neg (by omega), Int.toNat_natCast, hP]))
  have HIT := Lib.hid (fun s' (h : (entB l L P).1 = s') => h)
  obtain ⟨⟨sy, n⟩, hent⟩ : ∃ q, entB l L P = q := ⟨_, rfl⟩
  rw [hent] at hte hel hX
  have hsy : sy ≤ 1024 := by
    have h0 : entB l L P = (sy, n) := hent
    unfold entB entK at h0
    cases hf : (List.range l.length).find? (hitAt l (bitsOf P L)) with
    | none => rw [hf] at h0; injection h0 with e1 e2; omega
    | some q =>
      rw [hf] at h0
      have := List.mem_range.1 (List.mem_of_find?_eq_some hf)
      injection h0 with e1 e2; omega
  simp only at hX hel
  have hwl : (spread s).length - t = ((spread s).drop t).length := by rw [List.length_drop]
  obtain ⟨N, hN⟩ : ∃ N, 2 ^ L = N := ⟨_, rfl⟩
  rw [hN] at ht hN0 hN1 hPl
  have g1 : w.cell? ⟨gt, 0, none⟩ = some (.slice (some ⟨ge, 0, none⟩) N N) := cell_lit ht.tb 0 _ rfl
  have g2 : w.cell? ⟨gt, 1, none⟩ = some (.int .i64 L) := cell_lit ht.tb 1 _ rfl
  have c0 := OwnS.cell flatE ht.row P 0 _ hte (by decide)
  have c1 := OwnS.cell flatE ht.row P 1 _ hte (by decide)
  simp only [fE, List.getElem?_cons_zero, List.getElem?_cons_succ, Nat.add_zero] at c0 c1
  have lgt := block_lt ht.tb
  have lge := (World.ownsRow.lt ht.row ge rfl).2
  have hP0 : (0 : Int) ≤ (P : Int) := by omega
  have hP1 : (P : Int) < (N : Int) := by omega
  have HR := Lib.hid hr; have HX := Lib.hid hX; have HWL := Lib.hid hwl; have HEL := Lib.hid hel
  have HG := Lib.hid (show w.cell? ⟨gt, 0, none⟩ = some (.slice (some ⟨ge, 0, none⟩) N N) ∧ w.cell? ⟨gt, 1, none⟩ = some (.int .i64 L) ∧ w.cell? ⟨ge, P * 2, none⟩ = some (.int .i32 sy) ∧ w.cell? ⟨ge, P * 2 + 1, none⟩ = some (.int .i32 n) from ⟨g1, g2, c0, c1⟩)
  clear ht hr hX hwl hent hte hel hP hN HIT
  go_enter Try.func72, Try.ntmps72
  go_wp2_with fail
  go_cut [6] from 8 to 33 (fun s6 wc => ∃ gb, s6 = .pointer (some ⟨gb, 0, none⟩) ∧ w.heap.size ≤ gb ∧ Hid (wc.heap[gb]? = some (.cells #[.int .i32 sy, .int .i32 n] 114 (0, 0))) ∧ Hid (Below w.heap.size w wc))
  case first =>
    have H4 := Lib.hid (show C4 w gt ge P (.slice (some ⟨ge, 0, none⟩) N N) (.int .i64 L) (.int .i32 sy) (.int .i32 n) from HG.out)
    have HA := Lib.hid (fun o => H4.out.keep (w5 := w.drew.alloc o) ((Below.refl _ w).drew.alloc (Nat.le_refl _) o) lgt lge)
    go_region_held3 (fun w1 => w1.cell? ⟨gt, 0, none⟩ = some (.slice (some ⟨ge, 0, none⟩) N N) ∧ w1.cell? ⟨gt, 1, none⟩ = some (.int .i64 L) ∧ w1.cell? ⟨ge, P * 2, none⟩ = some (.int .i32 sy) ∧ w1.cell? ⟨ge, P * 2 + 1, none⟩ = some (.int .i32 n)) (first | exact HG.out | exact HA.out _ | exact hS5 | exact hS6 _ | exact hS7 _ _ | fail) (first | ((go_at_call 81; refine (CP.out w.drew (HR.out.drewN 1)).mono ?_; rintro e w5 ⟨rfl, hb5⟩; have hS5 := H4.out.keep ((Below.refl _ w).drew.trans hb5) lgt lge; have hS6 := fun o => H4.out.keep (((Below.refl _ w).drew.trans hb5).alloc (show w.heap.size ≤ w5.heap.size from hb5.size) o) lgt lge)) | ((go_at_call 81; refine (CP.out _ ((HR.out.drewN 1).alloc _)).mono ?_; rintro e w5 ⟨rfl, hb5⟩; have hS5 := H4.out.keep (((Below.refl _ w).drew.alloc (Nat.le_refl _) _).trans (hb5.mono (by simp))) lgt lge; have hbx : w5.heap[w.heap.size]? = some (.cells #[.int .i32 0, .int .i32 0] 114 (0, 0)) := (hb5.block w.heap.size (by simp)).trans (heap_alloc_new w.drew _); have q0 : w5.cell? ⟨w.heap.size, 0, none⟩ = some (.int .i32 0) := cell_lit hbx 0 _ rfl; have q1 : w5.cell? ⟨w.heap.size, 1, none⟩ = some (.int .i32 0) := cell_lit hbx 1 _ rfl; have fq0 := free_in hbx 0; have fq1 := free_in hbx 1; have hS7 := fun u1 u2 => C4.far hS5 (g := w.heap.size) (by omega) (by omega) u1 u2)) | fail)
    all_goals
      go_wp2_with fail
      go_meet
      case rel => first
        | exact ⟨_, rfl, hb5.size, Lib.hid (heap_alloc_new _ _), Lib.hid (((Below.refl _ w).drew.trans hb5).alloc hb5.size _)⟩
        | exact ⟨_, rfl, Nat.le_refl _, Lib.hid (block_set (block_set hbx 0 _) 1 _), Lib.hid (((((Below.refl _ w).drew.alloc (Nat.le_refl _) _).trans (hb5.mono (by simp))).setCell (p := ⟨w.heap.size, 0, none⟩) (Nat.le_refl _) _).setCell (p := ⟨w.heap.size, 1, none⟩) (Nat.le_refl _) _)⟩
  case rest =>
    obtain ⟨gb, rfl, hgb, hbox, hb⟩ := hcut
    have b0 : wc.cell? ⟨gb, 0, none⟩ = some (.int .i32 sy) := cell_lit hbox.out 0 _ rfl
    have b1 : wc.cell? ⟨gb, 1, none⟩ = some (.int .i32 n) := cell_lit hbox.out 1 _ rfl
    have hr2 := HR.out.kept hb.out
    have htl := HR.out.le
    have hn15 := HEL.out.1
    clear g1 g2 c0 c1 CP
    by_cases hn0 : n = 0
    · have hs0 := HEL.out.2 hn0
      subst hn0
      subst hs0
      have hx := HX.out
      rw [if_pos rfl] at hx
      injection hx with e1 e2
      injection e2 with e2 e3
      subst e1 e2 e3
      have HRR := Lib.hid hr2
      have HK := Lib.hid (show Keeps (fun j => j = g) w wc from Keeps.of_below hb.out)
      clear hr2
      go_wp2_with fail
      go_ret2
      exact ⟨rfl, HRR.out, HK.out⟩
    · have hx := HX.out
      rw [if_neg hn0] at hx
      have hnb : ((n : Int) == 0) = false := by rw [beq_eq_false_iff_ne]; omega
      have hwl := HWL.out
      by_cases hsh : ((spread s).drop t).length < n
      · rw [if_pos hsh] at hx
        injection hx with e1 e2
        injection e2 with e2 e3
        subst e1 e2 e3
        have CS := Lib.hid (rSkipU wc g t s (n : Int) hr2 t 0 3 (by unfold takeS; rw [if_neg (by omega), if_pos (by rw [Int.toNat_natCast]; omega)]))
        have HB := hb
        clear hr2 hsh hwl
        go_wp2_with fail
        refine CS.out.mono ?_; rintro e w6 ⟨rfl, hr6, hk6⟩
        have HRR := Lib.hid hr6
        have HK := Lib.hid ((show Keeps (fun j => j = g) w wc from Keeps.of_below hb.out).trans hk6)
        clear hr6 hk6
        go_wp2_with fail
        go_ret2
        exact ⟨rfl, HRR.out, HK.out⟩
      · rw [if_neg hsh] at hx
        injection hx with e1 e2
        injection e2 with e2 e3
        subst e1 e2 e3
        have CS := Lib.hid (rSkipU wc g t s (n : Int) hr2 (t + n) (peek ((spread s).drop t) n) 0 (by unfold takeS; rw [if_neg (by omega), if_neg (by rw [Int.toNat_natCast]; omega), Int.toNat_natCast]))
        clear hr2 hsh hwl
        go_wp2_with fail
        refine CS.out.mono ?_; rintro e w6 ⟨rfl, hr6, hk6⟩
        have HRR := Lib.hid (show IsReader w6 g s (t + ((n : Nat) : Int).toNat) by rw [Int.toNat_natCast]; exact hr6)
        have HK := Lib.hid ((show Keeps (fun j => j = g) w wc from Keeps.of_below hb.out).trans hk6)
        have b0 := (hk6.heap hbox.out (by
          have := IsReader.lt HR.out
          show ¬ gb = g; omega))
        have b0 : w6.cell? ⟨gb, 0, none⟩ = some (.int .i32 sy) := cell_lit b0 0 _ rfl
        clear hr6 hk6
        go_wp2_with fail
        go_ret2
        exact ⟨rfl, HRR.out, HK.out⟩
end Go.Proofs.Ytopiiickeojpmaa
