import Derived.Test.YtipcdkemokkdfaaGreatK09
/- Layer 18, the document's: Apply. -/
namespace Go.Proofs.YtipcdkemokkdfaaGreat
open Go.ChangeShapes Go.WideShapes Go.ChangeAt Go.RowKit
open Tok (OkTok chk chk_no chk_yes)
set_option linter.unusedVariables false
set_option linter.unusedSimpArgs false
set_option maxRecDepth 100000
theorem keepB {w wx : World} {p : Addr} {v : Value} (hb : Below w.heap.size w wx) (h : w.cell? p = some v) : wx.cell? p = some v := (hb.cell (cell_block h)).trans h
abbrev S9 (g5 k : Nat) (x : Addr) (q' : Q4) (t : Tk) (w' : World) : Prop := w'.cell? ⟨g5, 0, none⟩ = some (.int .i64 q'.a) ∧ w'.cell? ⟨g5, 1, none⟩ = some (.int .i64 q'.b) ∧ w'.cell? ⟨g5, 2, none⟩ = some (.int .i64 q'.c) ∧ w'.cell? ⟨g5, 3, none⟩ = some (.int .i64 q'.d) ∧
        w'.cell? (x.add (k * 5)) = some (.int .i64 t.k) ∧ w'.cell? ⟨(x.add (k * 5)).block, (x.add (k * 5)).off + 1, none⟩ = some (.int .i64 t.b) ∧ w'.cell? ⟨(x.add (k * 5)).block, (x.add (k * 5)).off + 2, none⟩ = some (.int .i64 t.l) ∧ w'.cell? ⟨(x.add (k * 5)).block, (x.add (k * 5)).off + 3, none⟩ = some (.int .i64 t.d) ∧ w'.cell? ⟨(x.add (k * 5)).block, (x.add (k * 5)).off + 4, none⟩ = some (.int .i64 t.r)
theorem keep9 {g5 k : Nat} {x : Addr} {q' : Q4} {t : Tk} {w wx : World} (hb : Below w.heap.size w wx) (h : S9 g5 k x q' t w) : S9 g5 k x q' t wx := by
  obtain ⟨c0, c1, c2, c3, h0, h1, h2, h3, h4⟩ := h
  exact ⟨keepB hb c0, keepB hb c1, keepB hb c2, keepB hb c3, keepB hb h0, keepB hb h1, keepB hb h2, keepB hb h3, keepB hb h4⟩
theorem conv1s (Y : World) (g : Nat) (c : UInt8) (T : TypeId) (hg : Y.heap.size = g) : (convert 43 9 (.slice (some ⟨g, 0, none⟩) 1 1)).run Tryz.prog (Y.alloc (.cells #[.int .u8 (c.toNat : Int)] T)) = .ok (.string (sOf [c])) (Y.alloc (.cells #[.int .u8 (c.toNat : Int)] T)) := by
  subst hg
  refine run_convert_bytes_back (P := Tryz.prog) _ 43 9 5 ⟨Y.heap.size, 0, none⟩ 1 [c] Tryz.underlying43 Tryz.underlying5 Tryz.underlying9 (fun j hj => ?_)
  have hj0 : j = 0 := by simpa using hj
  subst hj0
  rw [Addr.add_lit, cell_in (heap_alloc_new Y _)]
  simp
theorem sOf_snoc (l : List UInt8) (c : UInt8) : sOf l ++ sOf [c] = sOf (l ++ [c]) := by
  unfold sOf; simp [ByteArray.append_eq, ByteArray.ext_iff]
set_option maxHeartbeats 3200000 in
theorem dApply (b : Option Addr) (cb : Nat) (H : List UInt8) (q : Q4) (l : List Tk) (win : Int) (w : World) (h2 : IsTk w b l) (hH : H.length ≤ 20000) (hl : l.length ≤ 100) (R : List UInt8) (Q : Q4) (E : Int) (hR : appS win l q H = (R, Q, E)) :
    Calls Tryz.prog 8 #[.string (sOf H), q4V q, .slice b l.length cb, .int .i64 win] w fun e w' => e = .returned (.tuple #[.string (sOf R), q4V Q, .int .i64 E]) ∧ Below w.heap.size w w' := by
  have HTK := Lib.hid h2
  have HR := Lib.hid hR
  show Calls Tryz.prog 8 #[.string (sOf H), .agg #[.int .i64 q.a, .int .i64 q.b, .int .i64 q.c, .int .i64 q.d], .slice b l.length cb, .int .i64 win] w _
  clear h2 hR
  go_enter Tryz.func8, Tryz.ntmps8
  go_wp2_with fail
  have e5 : ((w.alloc (.cells #[.int .i64 q.a, .int .i64 q.b, .int .i64 q.c, .int .i64 q.d] 23)).alloc (.cells #[.int .i64 0, .int .i64 0, .int .i64 0, .int .i64 0] 23)).heap[w.heap.size]? = some (.cells #[.int .i64 q.a, .int .i64 q.b, .int .i64 q.c, .int .i64 q.d] 23 (0, 0)) := heap_old (heap_alloc_new _ _) _
  have e9 : ((w.alloc (.cells #[.int .i64 q.a, .int .i64 q.b, .int .i64 q.c, .int .i64 q.d] 23)).alloc (.cells #[.int .i64 0, .int .i64 0, .int .i64 0, .int .i64 0] 23)).heap[w.heap.size + 1]? = some (.cells #[.int .i64 0, .int .i64 0, .int .i64 0, .int .i64 0] 23 (0, 0)) := by
    have := heap_alloc_new (w.alloc (.cells #[.int .i64 q.a, .int .i64 q.b, .int .i64 q.c, .int .i64 q.d] 23)) (.cells #[.int .i64 0, .int .i64 0, .int .i64 0, .int .i64 0] 23)
    simpa using this
  have hb0 : Below w.heap.size w ((w.alloc (.cells #[.int .i64 q.a, .int .i64 q.b, .int .i64 q.c, .int .i64 q.d] 23)).alloc (.cells #[.int .i64 0, .int .i64 0, .int .i64 0, .int .i64 0] 23)) := by go_grown
  obtain ⟨w0, hw0⟩ : ∃ w0, ((w.alloc (.cells #[.int .i64 q.a, .int .i64 q.b, .int .i64 q.c, .int .i64 q.d] 23)).alloc (.cells #[.int .i64 0, .int .i64 0, .int .i64 0, .int .i64 0] 23)) = w0 := ⟨_, rfl⟩
  rw [hw0] at e5 e9 hb0 ⊢
  clear hw0
  obtain ⟨g5, hg5⟩ : ∃ g5, w.heap.size = g5 := ⟨_, rfl⟩
  rw [hg5] at e5 e9 ⊢
  obtain ⟨g9, hg9⟩ : ∃ g9, g5 + 1 = g9 := ⟨_, rfl⟩
  rw [hg9] at e9 ⊢
  have hB5 : w.heap.size ≤ g5 := by omega
  have hB9 : w.heap.size ≤ g9 := by omega
  have hne : g9 ≠ g5 := by omega
  have HG := Lib.hid hg5
  clear hg9 hg5
  have E5 := Lib.hid e5; have E9 := Lib.hid e9; have HB := Lib.hid hb0
  clear e5 e9 hb0
  go_loopw [0, 11] (fun hst i wr => ∃ (k : Nat) (q' : Q4) (hh : List UInt8), hst = .string (sOf hh) ∧ i = .int .i64 k ∧ k ≤ l.length ∧ hh.length ≤ H.length + 258 * k ∧ Hid (appS win (l.drop k) q' hh = (R, Q, E)) ∧
    Hid (wr.heap[g9]? = some (.cells #[.int .i64 0, .int .i64 0, .int .i64 0, .int .i64 0] 23 (0, 0))) ∧ Hid (wr.heap[g5]? = some (.cells #[.int .i64 q'.a, .int .i64 q'.b, .int .i64 q'.c, .int .i64 q'.d] 23 (0, 0))) ∧ Hid (Below w.heap.size w wr)) (fun _ i _ => l.length - (intOf i).toNat)
  case atStart => exact ⟨0, q, H, rfl, rfl, Nat.zero_le _, by omega, HR, E9, E5, HB⟩
  case round =>
    obtain ⟨k, q', hh, rfl, rfl, hk, hhl, hap, hE9, hE5, hb⟩ := hrel
    have s9 := block_lt hE9.out
    have s5 := block_lt hE5.out
    have c0 := cell_lit hE5.out 0 _ rfl
    have c1 := cell_lit hE5.out 1 _ rfl
    have c2 := cell_lit hE5.out 2 _ rfl
    have c3 := cell_lit hE5.out 3 _ rfl
    by_cases hlt : k < l.length
    · obtain ⟨x, rfl, hx, htk⟩ := HTK.out.at k hlt
      obtain ⟨h0, h1, h2, h3, h4⟩ := htk.kept hb.out
      have HTKk := Lib.hid htk
      clear htk
      have HST := Lib.hid ((appS_drop win l k hlt q' hh).symm.trans hap.out)
      generalize l[k] = t at *
      obtain ⟨⟨q2, D, E2⟩, hU⟩ : ∃ r, useV q' t = r := ⟨_, rfl⟩
      have HU := Lib.hid (show ∀ W, Calls Tryz.prog 13 #[.agg #[.int .i64 q'.a, .int .i64 q'.b, .int .i64 q'.c, .int .i64 q'.d], .agg #[.int .i64 t.k, .int .i64 t.b, .int .i64 t.l, .int .i64 t.d, .int .i64 t.r]] W fun e w' => e = .returned (.tuple #[.agg #[.int .i64 q2.a, .int .i64 q2.b, .int .i64 q2.c, .int .i64 q2.d], .int .i64 D, .int .i64 E2]) ∧ Below W.heap.size W w' from
        fun W => (dUse q' t W).mono fun e w' h => by unfold UsePost at h; rw [hU] at h; exact h)
      have HUV := Lib.hid hU
      clear hU
      have hB0 : Below wr.heap.size wr wr.drew := (Below.refl _ _).drew
      have hB1 : Below wr.heap.size wr (wr.alloc (.cells #[.int .i64 0, .int .i64 0, .int .i64 0, .int .i64 0] 23)).drew := ((Below.refl _ _).alloc (Nat.le_refl _) _).drew
      have HS := Lib.hid (show S9 g5 k x q' t wr from ⟨c0, c1, c2, c3, h0, h1, h2, h3, h4⟩)
      have hlt8 : wr.heap.size < (wr.alloc (.cells #[.int .i64 0, .int .i64 0, .int .i64 0, .int .i64 0] 23)).drew.heap.size := by show _ < (wr.alloc _).heap.size; simp
      have HX80 := Lib.hid (show (wr.alloc (.cells #[.int .i64 0, .int .i64 0, .int .i64 0, .int .i64 0] 23)).drew.heap[wr.heap.size]? = some (.cells #[.int .i64 0, .int .i64 0, .int .i64 0, .int .i64 0] 23 (0, 0)) from heap_alloc_new wr _)
      go_wp2_with fail
      go_region_held3 (fun w' => w'.cell? ⟨g5, 0, none⟩ = some (.int .i64 q'.a) ∧ w'.cell? ⟨g5, 1, none⟩ = some (.int .i64 q'.b) ∧ w'.cell? ⟨g5, 2, none⟩ = some (.int .i64 q'.c) ∧ w'.cell? ⟨g5, 3, none⟩ = some (.int .i64 q'.d) ∧
        w'.cell? (x.add (k * 5)) = some (.int .i64 t.k) ∧ w'.cell? ⟨(x.add (k * 5)).block, (x.add (k * 5)).off + 1, none⟩ = some (.int .i64 t.b) ∧ w'.cell? ⟨(x.add (k * 5)).block, (x.add (k * 5)).off + 2, none⟩ = some (.int .i64 t.l) ∧ w'.cell? ⟨(x.add (k * 5)).block, (x.add (k * 5)).off + 3, none⟩ = some (.int .i64 t.d) ∧ w'.cell? ⟨(x.add (k * 5)).block, (x.add (k * 5)).off + 4, none⟩ = some (.int .i64 t.r))
        (first | with_reducible exact keep9 hB0 HS.out | with_reducible exact keep9 hB1 HS.out | with_reducible exact HS.out | with_reducible exact keep9 hbx HS.out | with_reducible exact keep9 (hby _) HS.out | with_reducible exact keep9 (hbz _ _ _ _) HS.out)
        (first | (go_at_call 13; with_reducible refine (HU.out _).mono ?_; rintro e wx ⟨rfl, hb3⟩; have hbx : Below wr.heap.size wr wx := hB0.trans (hb3.mono hB0.size); have hby : ∀ o, Below wr.heap.size wr (wx.alloc o) := fun o => (hbx.alloc hbx.size o)) | (go_at_call 13; with_reducible refine (HU.out _).mono ?_; rintro e wx ⟨rfl, hb3⟩; have hbx : Below wr.heap.size wr wx := hB1.trans (hb3.mono hB1.size); have hx8 := (hb3.block wr.heap.size hlt8).trans HX80.out; have l8 := block_lt hx8; have c80 := cell_lit hx8 0 _ rfl; have c81 := cell_lit hx8 1 _ rfl; have c82 := cell_lit hx8 2 _ rfl; have c83 := cell_lit hx8 3 _ rfl; have f80 := free_in hx8 0; have f81 := free_in hx8 1; have f82 := free_in hx8 2; have f83 := free_in hx8 3; have hbz : ∀ u0 u1 u2 u3, Below wr.heap.size wr ((((wx.setCell ⟨wr.heap.size, 0, none⟩ u0).setCell ⟨wr.heap.size, 1, none⟩ u1).setCell ⟨wr.heap.size, 2, none⟩ u2).setCell ⟨wr.heap.size, 3, none⟩ u3) := fun u0 u1 u2 u3 => set4_below hbx (Nat.le_refl _) u0 u1 u2 u3) | fail)
      · simp only [Exit.then]
        rename_i hK hHeld
        refine hK _ _ ?_
        have hr := hby (.cells #[.int .i64 q2.a, .int .i64 q2.b, .int .i64 q2.c, .int .i64 q2.d] 23)
        have e12 := heap_alloc_new wx (.cells #[.int .i64 q2.a, .int .i64 q2.b, .int .i64 q2.c, .int .i64 q2.d] 23)
        have l12 : wr.heap.size ≤ wx.heap.size := hbx.size
        clear hK hHeld hby hbx hb3
        generalize wx.alloc (.cells #[.int .i64 q2.a, .int .i64 q2.b, .int .i64 q2.c, .int .i64 q2.d] 23) = w4 at *
        generalize wx.heap.size = g12 at *
        clear wx
        have e9 := (hr.block _ s9).trans hE9.out
        have e5 := (hr.block _ s5).trans hE5.out
        have HB4 := Lib.hid (hb.out.trans (hr.mono hb.out.size))
        obtain ⟨m0, m1, m2, m3, m4⟩ := tkAt.kept (show tkAt wr x k t from ⟨h0, h1, h2, h3, h4⟩) hr
        have hxb : ¬ (x.add (k * 5)).block = g5 := by rw [add_block]; have := HG.out; omega
        have n12 : g12 ≠ g5 := by omega
        have n129 : g12 ≠ g9 := by omega
        have p0 := cell_lit e12 0 _ rfl
        have p1 := cell_lit e12 1 _ rfl
        have p2 := cell_lit e12 2 _ rfl
        have p3 := cell_lit e12 3 _ rfl
        have c0' := cell_lit e5 0 _ rfl
        have c1' := cell_lit e5 1 _ rfl
        have c2' := cell_lit e5 2 _ rfl
        have c3' := cell_lit e5 3 _ rfl
        have f0 := free_in e5 0
        have f1 := free_in e5 1
        have f2 := free_in e5 2
        have f3 := free_in e5 3
        have d0 := cell_lit e9 0 _ rfl
        have d1 := cell_lit e9 1 _ rfl
        have d2 := cell_lit e9 2 _ rfl
        have d3 := cell_lit e9 3 _ rfl
        have k0 := free_in e9 0
        have k1 := free_in e9 1
        have k2 := free_in e9 2
        have k3 := free_in e9 3
        have HE9' := Lib.hid e9
        have HE5' := Lib.hid e5
        have t9 := block_lt e9
        have t5 := block_lt e5
        have t12 := block_lt e12
        clear c0 c1 c2 c3 h0 h1 h2 h3 h4 hr e12 e5 e9 hB0 hB1 HS hlt8 HX80 HU hap l12
        by_cases hE0 : E2 = 0
        · subst hE0
          have H4b := Lib.hid (set4_below HB4.out hB5 (.int .i64 q2.a) (.int .i64 q2.b) (.int .i64 q2.c) (.int .i64 q2.d))
          have H49 := Lib.hid (set4_other HE9'.out hne (.int .i64 q2.a) (.int .i64 q2.b) (.int .i64 q2.c) (.int .i64 q2.d))
          have H45 := Lib.hid (set4 HE5'.out (.int .i64 q2.a) (.int .i64 q2.b) (.int .i64 q2.c) (.int .i64 q2.d))
          clear d0 d1 d2 d3 k0 k1 k2 k3 m0 m1 m2 m3 m4 hxb n129
          iterate 38 (first | go_values | go_skip | go_guarded | go_step | go_upon | go_back | (simp only [Int.not_lt, Int.not_le] at *; go_simp) | (go_values <;> (try go_simp)))
          have h4b := H4b.out
          have h49 := H49.out
          have h45 := H45.out
          clear H4b H49 H45 p0 p1 p2 p3 c0' c1' c2' c3' f0 f1 f2 f3 HB4 HE9' HE5' t9 t5 t12 n12
          generalize ((((w4.setCell ⟨g5, 0, none⟩ (.int .i64 q2.a)).setCell ⟨g5, 1, none⟩ (.int .i64 q2.b)).setCell ⟨g5, 2, none⟩ (.int .i64 q2.c)).setCell ⟨g5, 3, none⟩ (.int .i64 q2.d)) = w5 at *
          clear w4
          obtain ⟨m0, m1, m2, m3, m4⟩ := HTKk.out.kept h4b
          have HB5 := Lib.hid h4b
          have HE9' := Lib.hid h49
          have HE5' := Lib.hid h45
          have hcu := useV_cases q' t
          rw [HUV.out] at hcu
          have hw5 : w.heap.size ≤ w5.heap.size := h4b.size
          by_cases hk0 : t.k = 0
          · have hs := stepS_lit (win := win) (h := hh) HUV.out hk0
            have hst := HST.out
            rw [hs, if_pos rfl] at hst
            have HST2 := Lib.hid hst
            have hwr := byte_wrap t.b
            have hcv := fun T => conv1s w5 w5.heap.size (byteOf t.b) T rfl
            have HSN := Lib.hid (sOf_snoc hh (byteOf t.b))
            have z1 : (sOf hh).size ≤ 100000 := by rw [sOf_sz]; omega
            have z2 : (sOf [byteOf t.b]).size ≤ 10 := by rw [sOf_sz]; simp
            clear hst hs h4b h49 h45 hcu
            go_wp2_with fail
            exact ⟨⟨k + 1, q2, hh ++ [byteOf t.b], by rw [HSN.out], by go_num, by omega, by simp; omega, HST2, Lib.hid (heap_old HE9'.out _), Lib.hid (heap_old HE5'.out _), Lib.hid (HB5.out.alloc hw5 _)⟩, by simp [intOf]; omega⟩
          · have hkb : (t.k == 0) = false := by rw [beq_eq_false_iff_ne]; exact hk0
            obtain ⟨E3, hE3⟩ : ∃ E3, errC hh.length t.l D win = E3 := ⟨_, rfl⟩
            obtain ⟨R3, hR3⟩ : ∃ R3, copyR hh t.l D win = R3 := ⟨_, rfl⟩
            have CK := Lib.hid (fun W => dCopyV hh t.l D win (by omega) R3 E3 hE3 hR3 W)
            by_cases h30 : E3 = 0
            · subst h30
              have hs := stepS_cp HUV.out hk0 hE3
              have hst := HST.out
              rw [hs, if_pos rfl] at hst
              have h4 := errC_zero hE3
              have hR4 : copyL D.toNat t.l.toNat hh = R3 := by rw [← hR3]; unfold copyR; rw [if_pos hE3]
              have hcl : R3.length ≤ hh.length + 258 := by rw [← hR4, copyL_len]; omega
              rw [hR4] at hst
              have HST2 := Lib.hid hst
              clear hst hs hcu h4b h49 h45 hE3 hk0 h4 hR3 hR4 m1 m3 m4
              go_wp2_with fail
              refine (CK.out _).mono ?_; rintro e w6 ⟨rfl, hb6⟩
              have HE9' := Lib.hid ((hb6.block _ (block_lt HE9'.out)).trans HE9'.out)
              have HE5' := Lib.hid ((hb6.block _ (block_lt HE5'.out)).trans HE5'.out)
              have HB6 := Lib.hid (HB5.out.trans (hb6.mono hw5))
              clear hb6 CK
              go_wp2_with fail
              exact ⟨⟨k + 1, q2, R3, rfl, by go_num, by omega, by omega, HST2, HE9', HE5', HB6⟩, by simp [intOf]; omega⟩
            · have hEb : (E3 != 0) = true := by rw [bne_iff_ne]; exact h30
              have hs := stepS_no HUV.out hk0 hE3 h30
              have hst := HST.out
              rw [hs, if_neg h30] at hst
              injection hst with eR e3
              injection e3 with eQ eE
              subst eR eQ eE
              clear hs hcu h4b h49 h45 hE3 hk0 hR3 m1 m3 m4
              go_wp2_with fail
              refine (CK.out _).mono ?_; rintro e w6 ⟨rfl, hb6⟩
              have e9 := (hb6.block _ (block_lt HE9'.out)).trans HE9'.out
              have HE9' := Lib.hid e9
              have HB6 := Lib.hid (HB5.out.trans (hb6.mono hw5))
              have t9 := block_lt e9
              have d0 := cell_lit e9 0 _ rfl
              have d1 := cell_lit e9 1 _ rfl
              have d2 := cell_lit e9 2 _ rfl
              have d3 := cell_lit e9 3 _ rfl
              have k0 := free_in e9 0
              have k1 := free_in e9 1
              have k2 := free_in e9 2
              have k3 := free_in e9 3
              have hz := set4 HE9'.out (.int .i64 0) (.int .i64 0) (.int .i64 0) (.int .i64 0)
              have hbz := set4_below HB6.out hB9 (.int .i64 0) (.int .i64 0) (.int .i64 0) (.int .i64 0)
              have HZ := Lib.hid hz
              have HBZ := Lib.hid hbz
              clear hz hbz
              clear hb6 CK e9
              go_wp2_with fail
              try rw [Exit.noGoto_ret]
              have hz := HZ.out
              have hbz := HBZ.out
              revert hz hbz
              generalize (World.setCell _ ⟨g9, 3, none⟩ (.int .i64 0)) = W
              intro hz hbz
              have r0 := cell_lit hz 0 _ rfl
              have r1 := cell_lit hz 1 _ rfl
              have r2 := cell_lit hz 2 _ rfl
              have r3 := cell_lit hz 3 _ rfl
              exact bodyPost_ret (v := .tuple #[.string (sOf []), .agg #[.int .i64 0, .int .i64 0, .int .i64 0, .int .i64 0], .int .i64 E3]) (by simp [results, Tryz.results8, go_sem, r0, r1, r2, r3, sOf]; try rfl) rfl ⟨rfl, hbz⟩
        · have hEb : (E2 != 0) = true := by rw [bne_iff_ne]; exact hE0
          have hs := stepS_use (win := win) (h := hh) HUV.out hE0
          have hst := HST.out
          rw [hs, if_neg hE0] at hst
          injection hst with eR e3
          injection e3 with eQ eE
          subst eR eQ eE
          have hz := set4 HE9'.out (.int .i64 0) (.int .i64 0) (.int .i64 0) (.int .i64 0)
          have hbz := set4_below HB4.out hB9 (.int .i64 0) (.int .i64 0) (.int .i64 0) (.int .i64 0)
          have HZ := Lib.hid hz
          have HBZ := Lib.hid hbz
          clear hz hbz
          clear hs
          go_wp2_with fail
          try rw [Exit.noGoto_ret]
          have hz := HZ.out
          have hbz := HBZ.out
          revert hz hbz
          generalize (World.setCell _ ⟨g9, 3, none⟩ (.int .i64 0)) = W
          intro hz hbz
          have r0 := cell_lit hz 0 _ rfl
          have r1 := cell_lit hz 1 _ rfl
          have r2 := cell_lit hz 2 _ rfl
          have r3 := cell_lit hz 3 _ rfl
          exact bodyPost_ret (v := .tuple #[.string (sOf []), .agg #[.int .i64 0, .int .i64 0, .int .i64 0, .int .i64 0], .int .i64 E2]) (by simp [results, Tryz.results8, go_sem, r0, r1, r2, r3, sOf]; try rfl) rfl ⟨rfl, hbz⟩
      · simp only [Exit.then]
        rename_i hK hHeld
        refine hK _ _ ?_
        have hr := hbz (.int .i64 q2.a) (.int .i64 q2.b) (.int .i64 q2.c) (.int .i64 q2.d)
        have e12 := set4 hx8 (.int .i64 q2.a) (.int .i64 q2.b) (.int .i64 q2.c) (.int .i64 q2.d)
        clear hK hHeld hbz hbx hb3 hx8 l8 c80 c81 c82 c83 f80 f81 f82 f83
        generalize ((((wx.setCell ⟨wr.heap.size, 0, none⟩ (.int .i64 q2.a)).setCell ⟨wr.heap.size, 1, none⟩ (.int .i64 q2.b)).setCell ⟨wr.heap.size, 2, none⟩ (.int .i64 q2.c)).setCell ⟨wr.heap.size, 3, none⟩ (.int .i64 q2.d)) = w4 at *
        obtain ⟨g12, hg12⟩ : ∃ g12, wr.heap.size = g12 := ⟨_, rfl⟩
        rw [hg12] at e12 ⊢
        have l12 : wr.heap.size ≤ g12 := by omega
        clear hg12
        have e9 := (hr.block _ s9).trans hE9.out
        have e5 := (hr.block _ s5).trans hE5.out
        have HB4 := Lib.hid (hb.out.trans (hr.mono hb.out.size))
        obtain ⟨m0, m1, m2, m3, m4⟩ := tkAt.kept (show tkAt wr x k t from ⟨h0, h1, h2, h3, h4⟩) hr
        have hxb : ¬ (x.add (k * 5)).block = g5 := by rw [add_block]; have := HG.out; omega
        have n12 : g12 ≠ g5 := by omega
        have n129 : g12 ≠ g9 := by omega
        have p0 := cell_lit e12 0 _ rfl
        have p1 := cell_lit e12 1 _ rfl
        have p2 := cell_lit e12 2 _ rfl
        have p3 := cell_lit e12 3 _ rfl
        have c0' := cell_lit e5 0 _ rfl
        have c1' := cell_lit e5 1 _ rfl
        have c2' := cell_lit e5 2 _ rfl
        have c3' := cell_lit e5 3 _ rfl
        have f0 := free_in e5 0
        have f1 := free_in e5 1
        have f2 := free_in e5 2
        have f3 := free_in e5 3
        have d0 := cell_lit e9 0 _ rfl
        have d1 := cell_lit e9 1 _ rfl
        have d2 := cell_lit e9 2 _ rfl
        have d3 := cell_lit e9 3 _ rfl
        have k0 := free_in e9 0
        have k1 := free_in e9 1
        have k2 := free_in e9 2
        have k3 := free_in e9 3
        have HE9' := Lib.hid e9
        have HE5' := Lib.hid e5
        have t9 := block_lt e9
        have t5 := block_lt e5
        have t12 := block_lt e12
        clear c0 c1 c2 c3 h0 h1 h2 h3 h4 hr e12 e5 e9 hB0 hB1 HS hlt8 HX80 HU hap l12
        by_cases hE0 : E2 = 0
        · subst hE0
          have H4b := Lib.hid (set4_below HB4.out hB5 (.int .i64 q2.a) (.int .i64 q2.b) (.int .i64 q2.c) (.int .i64 q2.d))
          have H49 := Lib.hid (set4_other HE9'.out hne (.int .i64 q2.a) (.int .i64 q2.b) (.int .i64 q2.c) (.int .i64 q2.d))
          have H45 := Lib.hid (set4 HE5'.out (.int .i64 q2.a) (.int .i64 q2.b) (.int .i64 q2.c) (.int .i64 q2.d))
          clear d0 d1 d2 d3 k0 k1 k2 k3 m0 m1 m2 m3 m4 hxb n129
          iterate 38 (first | go_values | go_skip | go_guarded | go_step | go_upon | go_back | (simp only [Int.not_lt, Int.not_le] at *; go_simp) | (go_values <;> (try go_simp)))
          have h4b := H4b.out
          have h49 := H49.out
          have h45 := H45.out
          clear H4b H49 H45 p0 p1 p2 p3 c0' c1' c2' c3' f0 f1 f2 f3 HB4 HE9' HE5' t9 t5 t12 n12
          generalize ((((w4.setCell ⟨g5, 0, none⟩ (.int .i64 q2.a)).setCell ⟨g5, 1, none⟩ (.int .i64 q2.b)).setCell ⟨g5, 2, none⟩ (.int .i64 q2.c)).setCell ⟨g5, 3, none⟩ (.int .i64 q2.d)) = w5 at *
          clear w4
          obtain ⟨m0, m1, m2, m3, m4⟩ := HTKk.out.kept h4b
          have HB5 := Lib.hid h4b
          have HE9' := Lib.hid h49
          have HE5' := Lib.hid h45
          have hcu := useV_cases q' t
          rw [HUV.out] at hcu
          have hw5 : w.heap.size ≤ w5.heap.size := h4b.size
          by_cases hk0 : t.k = 0
          · have hs := stepS_lit (win := win) (h := hh) HUV.out hk0
            have hst := HST.out
            rw [hs, if_pos rfl] at hst
            have HST2 := Lib.hid hst
            have hwr := byte_wrap t.b
            have hcv := fun T => conv1s w5 w5.heap.size (byteOf t.b) T rfl
            have HSN := Lib.hid (sOf_snoc hh (byteOf t.b))
            have z1 : (sOf hh).size ≤ 100000 := by rw [sOf_sz]; omega
            have z2 : (sOf [byteOf t.b]).size ≤ 10 := by rw [sOf_sz]; simp
            clear hst hs h4b h49 h45 hcu
            go_wp2_with fail
            exact ⟨⟨k + 1, q2, hh ++ [byteOf t.b], by rw [HSN.out], by go_num, by omega, by simp; omega, HST2, Lib.hid (heap_old HE9'.out _), Lib.hid (heap_old HE5'.out _), Lib.hid (HB5.out.alloc hw5 _)⟩, by simp [intOf]; omega⟩
          · have hkb : (t.k == 0) = false := by rw [beq_eq_false_iff_ne]; exact hk0
            obtain ⟨E3, hE3⟩ : ∃ E3, errC hh.length t.l D win = E3 := ⟨_, rfl⟩
            obtain ⟨R3, hR3⟩ : ∃ R3, copyR hh t.l D win = R3 := ⟨_, rfl⟩
            have CK := Lib.hid (fun W => dCopyV hh t.l D win (by omega) R3 E3 hE3 hR3 W)
            by_cases h30 : E3 = 0
            · subst h30
              have hs := stepS_cp HUV.out hk0 hE3
              have hst := HST.out
              rw [hs, if_pos rfl] at hst
              have h4 := errC_zero hE3
              have hR4 : copyL D.toNat t.l.toNat hh = R3 := by rw [← hR3]; unfold copyR; rw [if_pos hE3]
              have hcl : R3.length ≤ hh.length + 258 := by rw [← hR4, copyL_len]; omega
              rw [hR4] at hst
              have HST2 := Lib.hid hst
              clear hst hs hcu h4b h49 h45 hE3 hk0 h4 hR3 hR4 m1 m3 m4
              go_wp2_with fail
              refine (CK.out _).mono ?_; rintro e w6 ⟨rfl, hb6⟩
              have HE9' := Lib.hid ((hb6.block _ (block_lt HE9'.out)).trans HE9'.out)
              have HE5' := Lib.hid ((hb6.block _ (block_lt HE5'.out)).trans HE5'.out)
              have HB6 := Lib.hid (HB5.out.trans (hb6.mono hw5))
              clear hb6 CK
              go_wp2_with fail
              exact ⟨⟨k + 1, q2, R3, rfl, by go_num, by omega, by omega, HST2, HE9', HE5', HB6⟩, by simp [intOf]; omega⟩
            · have hEb : (E3 != 0) = true := by rw [bne_iff_ne]; exact h30
              have hs := stepS_no HUV.out hk0 hE3 h30
              have hst := HST.out
              rw [hs, if_neg h30] at hst
              injection hst with eR e3
              injection e3 with eQ eE
              subst eR eQ eE
              clear hs hcu h4b h49 h45 hE3 hk0 hR3 m1 m3 m4
              go_wp2_with fail
              refine (CK.out _).mono ?_; rintro e w6 ⟨rfl, hb6⟩
              have e9 := (hb6.block _ (block_lt HE9'.out)).trans HE9'.out
              have HE9' := Lib.hid e9
              have HB6 := Lib.hid (HB5.out.trans (hb6.mono hw5))
              have t9 := block_lt e9
              have d0 := cell_lit e9 0 _ rfl
              have d1 := cell_lit e9 1 _ rfl
              have d2 := cell_lit e9 2 _ rfl
              have d3 := cell_lit e9 3 _ rfl
              have k0 := free_in e9 0
              have k1 := free_in e9 1
              have k2 := free_in e9 2
              have k3 := free_in e9 3
              have hz := set4 HE9'.out (.int .i64 0) (.int .i64 0) (.int .i64 0) (.int .i64 0)
              have hbz := set4_below HB6.out hB9 (.int .i64 0) (.int .i64 0) (.int .i64 0) (.int .i64 0)
              have HZ := Lib.hid hz
              have HBZ := Lib.hid hbz
              clear hz hbz
              clear hb6 CK e9
              go_wp2_with fail
              try rw [Exit.noGoto_ret]
              have hz := HZ.out
              have hbz := HBZ.out
              revert hz hbz
              generalize (World.setCell _ ⟨g9, 3, none⟩ (.int .i64 0)) = W
              intro hz hbz
              have r0 := cell_lit hz 0 _ rfl
              have r1 := cell_lit hz 1 _ rfl
              have r2 := cell_lit hz 2 _ rfl
              have r3 := cell_lit hz 3 _ rfl
              exact bodyPost_ret (v := .tuple #[.string (sOf []), .agg #[.int .i64 0, .int .i64 0, .int .i64 0, .int .i64 0], .int .i64 E3]) (by simp [results, Tryz.results8, go_sem, r0, r1, r2, r3, sOf]; try rfl) rfl ⟨rfl, hbz⟩
        · have hEb : (E2 != 0) = true := by rw [bne_iff_ne]; exact hE0
          have hs := stepS_use (win := win) (h := hh) HUV.out hE0
          have hst := HST.out
          rw [hs, if_neg hE0] at hst
          injection hst with eR e3
          injection e3 with eQ eE
          subst eR eQ eE
          have hz := set4 HE9'.out (.int .i64 0) (.int .i64 0) (.int .i64 0) (.int .i64 0)
          have hbz := set4_below HB4.out hB9 (.int .i64 0) (.int .i64 0) (.int .i64 0) (.int .i64 0)
          have HZ := Lib.hid hz
          have HBZ := Lib.hid hbz
          clear hz hbz
          clear hs
          go_wp2_with fail
          try rw [Exit.noGoto_ret]
          have hz := HZ.out
          have hbz := HBZ.out
          revert hz hbz
          generalize (World.setCell _ ⟨g9, 3, none⟩ (.int .i64 0)) = W
          intro hz hbz
          have r0 := cell_lit hz 0 _ rfl
          have r1 := cell_lit hz 1 _ rfl
          have r2 := cell_lit hz 2 _ rfl
          have r3 := cell_lit hz 3 _ rfl
          exact bodyPost_ret (v := .tuple #[.string (sOf []), .agg #[.int .i64 0, .int .i64 0, .int .i64 0, .int .i64 0], .int .i64 E2]) (by simp [results, Tryz.results8, go_sem, r0, r1, r2, r3, sOf]; try rfl) rfl ⟨rfl, hbz⟩
    · obtain rfl : k = l.length := by omega
      have hst := hap.out
      rw [List.drop_length, appS] at hst
      injection hst with eR e3
      injection e3 with eQ eE
      subst eR eQ eE
      have d0 := cell_lit hE9.out 0 _ rfl
      have d1 := cell_lit hE9.out 1 _ rfl
      have d2 := cell_lit hE9.out 2 _ rfl
      have d3 := cell_lit hE9.out 3 _ rfl
      have k0 := free_in hE9.out 0
      have k1 := free_in hE9.out 1
      have k2 := free_in hE9.out 2
      have k3 := free_in hE9.out 3
      have hz := set4 hE9.out (.int .i64 q'.a) (.int .i64 q'.b) (.int .i64 q'.c) (.int .i64 q'.d)
      have HBZ := Lib.hid (set4_below hb.out hB9 (.int .i64 q'.a) (.int .i64 q'.b) (.int .i64 q'.c) (.int .i64 q'.d))
      have HZ := Lib.hid hz
      clear hz
      go_wp2_with fail
      go_region
      all_goals go_wp2_with fail
      all_goals
        try rw [Exit.noGoto_ret]
        have hz := HZ.out
        have hbz := HBZ.out
        revert hz hbz
        generalize (World.setCell _ ⟨g9, 3, none⟩ (.int .i64 q'.d)) = W
        intro hz hbz
        have r0 : W.drew.cell? ⟨g9, 0, none⟩ = _ := cell_lit hz 0 _ rfl
        have r1 : W.drew.cell? ⟨g9, 1, none⟩ = _ := cell_lit hz 1 _ rfl
        have r2 : W.drew.cell? ⟨g9, 2, none⟩ = _ := cell_lit hz 2 _ rfl
        have r3 : W.drew.cell? ⟨g9, 3, none⟩ = _ := cell_lit hz 3 _ rfl
        exact bodyPost_ret (v := .tuple #[.string (sOf hh), .agg #[.int .i64 q'.a, .int .i64 q'.b, .int .i64 q'.c, .int .i64 q'.d], .int .i64 0]) (by simp [results, Tryz.results8, go_sem, r0, r1, r2, r3]) rfl ⟨rfl, hbz.drew⟩
end Go.Proofs.YtipcdkemokkdfaaGreat
