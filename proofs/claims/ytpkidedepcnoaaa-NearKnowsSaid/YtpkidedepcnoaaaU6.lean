/- Layer 19: byByte. -/
import Derived.Test.YtpkidedepcnoaaaU5
namespace Go.Proofs.Ytpkidedepcnoaaa
open Go.ChangeShapes Go.WideShapes Go.ChangeAt Go.RowKit
set_option linter.unusedVariables false
set_option linter.unusedSimpArgs false
set_option maxRecDepth 100000
theorem zeroA257 : Try.zeroCells70 = nA (List.replicate 257 0) := by rfl
theorem zeroA256 : Try.zeroCells52 = nA (List.replicate 256 0) := by rfl
theorem mkI (n : Nat) (hn : (n : Int) ≤ 1000000) : ∀ w : World, (Instr.makeSlice 22 (.int .i64 (n : Int)) (.int .i64 (n : Int))).run Try.prog w = .ok (.slice (some ⟨w.heap.size, 0, none⟩) n n) (w.alloc (.cells (madeCells #[.int .i64 0] n) 3)) := by
  obtain ⟨i, hi, hz, hs, hb⟩ := info_get info_int
  intro w
  have := run_make (w := w) (P := Try.prog) 22 3 i (.int .i64 0) Try.underlying22 hi hz .i64 .i64 (n : Int) (n : Int) (by omega) (by omega) (by rw [hb]; omega) (by omega)
  rw [hs, Int.toNat_natCast, Nat.mul_one] at this
  exact this
theorem madeI (n : Nat) : madeCells #[.int .i64 0] n = nA (List.replicate n 0) := by
  unfold nA
  apply Array.ext
  · simp [size_madeCells]
  · intro j h1 h2
    simp [madeCells, Value.cells, Nat.mod_one]
set_option maxHeartbeats 3200000 in
theorem cByByte (L : List UInt8) (w : World) (hL : L.length ≤ 100000) :
    Calls Try.prog 33 #[.string (sM L)] w fun e w' => ∃ ga gr a rank, e = .returned (.tuple #[.slice (some ⟨ga, 0, none⟩) L.length L.length, .slice (some ⟨gr, 0, none⟩) L.length L.length]) ∧ IsN w' ga a ∧ IsN w' gr rank ∧ Rkd L 1 a rank ∧ ga ≠ gr ∧ w.heap.size ≤ ga ∧ w.heap.size ≤ gr ∧ Below w.heap.size w w' := by
  have hS : (sM L).size = L.length := sM_size L
  obtain ⟨Z7, hZ7⟩ : ∃ Z, Try.zeroCells70 = Z := ⟨_, rfl⟩
  have HZ7 := Lib.hid (show Z7 = nA (List.replicate 257 0) by rw [← hZ7]; exact zeroA257)
  go_enter Try.func33, Try.ntmps33
  go_wp2_with fail
  have HC0 := Lib.hid (show IsA 70 (w.alloc (.cells Z7 70)) w.heap.size (List.replicate 257 0) by unfold IsA; rw [← HZ7.out]; exact heap_alloc_new _ _)
  have HB0 := Lib.hid ((Below.refl w.heap.size w).alloc (Nat.le_refl _) (.cells Z7 70))
  obtain ⟨gf, hgf⟩ : ∃ gf, w.heap.size = gf := ⟨_, rfl⟩
  have HGF := Lib.hid hgf
  rw [hgf] at HC0 HB0 ⊢
  clear hZ7 HZ7 hgf
  generalize w.alloc (.cells Z7 70) = w1 at *
  obtain ⟨Z6, hZ6⟩ : ∃ Z, Try.zeroCells52 = Z := ⟨_, rfl⟩
  have HZ6 := Lib.hid (show Z6 = nA (List.replicate 256 0) by rw [← hZ6]; exact zeroA256)
  go_loopw [14] (fun tv wr => ∃ (t : Nat) (c : List Nat), t ≤ L.length ∧ tv = .int .i64 t ∧ Hid (C1 (bys L) c 257 t) ∧ Hid (IsA 70 wr gf c) ∧ Hid (Below gf w wr)) (fun tv _ => L.length - (intOf tv).toNat)
  case atStart => exact ⟨0, List.replicate 257 0, Nat.zero_le _, rfl, Lib.hid (C1.start _ _), HC0, HB0⟩
  case round =>
    clear HC0 HB0
    obtain ⟨t, c, ht, rfl, H1, HC1, HB1⟩ := hrel
    by_cases hlt : t < L.length
    · have hti : (t : Int) < L.length := by omega
      have x1 := ixM L (t : Int) t rfl hlt
      obtain ⟨B, hB⟩ : ∃ B, (L.getD t 0).toNat = B := ⟨_, rfl⟩
      have hBl : B < 256 := by rw [← hB]; exact (L.getD t 0).toNat_lt
      obtain ⟨x, hx⟩ : ∃ x, c.getD (B + 1) 0 = x := ⟨_, rfl⟩
      obtain ⟨hxt, h2⟩ := H1.out.step (by rw [bys_len]; exact hlt) B (by rw [bys_getD L t hlt]; exact hB) (by omega) x hx
      have cc := HC1.out.cell (B + 1) (by rw [H1.out.1]; omega)
      have fc := HC1.out.free (B + 1)
      have hgc := block_lt HC1.out
      rw [hx] at cc
      rw [hB] at x1
      have hBi : (B : Int) < 256 := by omega
      have H2 := Lib.hid h2
      have HC2 := Lib.hid (show IsA 70 (wr.setCell ⟨gf, B + 1, none⟩ (.int .i64 ((x : Int) + 1))) gf (c.set (B + 1) (x + 1)) from HC1.out.set (B + 1) (x + 1))
      have HB2 := Lib.hid (HB1.out.setCell (p := ⟨gf, B + 1, none⟩) (Nat.le_refl _) (.int .i64 ((x : Int) + 1)))
      clear h2 hx hB hBl
      go_wp2_with fail
      go_roundw
      case rel => exact ⟨t + 1, _, by omega, by go_num, H2, HC2, HB2⟩
      case measure => simp [intOf]; omega
    · obtain rfl : t = L.length := by omega
      have hgc := block_lt HC1.out
      go_wp2_with fail
      have HR0 := Lib.hid (show IsA 52 (wr.alloc (.cells Z6 52)) wr.heap.size (List.replicate 256 0) by unfold IsA; rw [← HZ6.out]; exact heap_alloc_new _ _)
      have hbk := (Below.refl wr.heap.size wr).alloc (Nat.le_refl _) (.cells Z6 52)
      have HC2 := Lib.hid (HC1.out.kept hbk)
      have HB2 := Lib.hid (HB1.out.trans (hbk.mono (by omega)))
      have HN := Lib.hid H1.out.bytes
      have hne : gf ≠ wr.heap.size := by omega
      have hgk : gf ≤ wr.heap.size := by omega
      obtain ⟨gk, hk⟩ : ∃ gk, wr.heap.size = gk := ⟨_, rfl⟩
      rw [hk] at HR0 hne hgk ⊢
      clear hZ6 HZ6 hk hbk HC1 HB1 H1 hgc
      generalize wr.alloc (.cells Z6 52) = w2 at *
      clear wr
      go_loopw [7, 27] (fun uv bv wr => ∃ (b u : Nat) (c r : List Nat), b ≤ 256 ∧ bv = .int .i64 b ∧ uv = .int .i64 u ∧ u ≤ b ∧ Hid (usd (occ L) b = u) ∧ Hid (C2 (byteAt L) (List.range L.length) c 257 (b + 1)) ∧ Hid (r.length = 256 ∧ ∀ q, q < b → r.getD q 0 = usd (occ L) q) ∧ Hid (IsA 70 wr gf c) ∧ Hid (IsA 52 wr gk r) ∧ Hid (Below gf w wr)) (fun _ bv _ => 256 - (intOf bv).toNat)
      case atStart => exact ⟨0, 0, c, List.replicate 256 0, by decide, rfl, rfl, Nat.le_refl _, Lib.hid rfl, HN, Lib.hid ⟨List.length_replicate, fun q hq => by omega⟩, HC2, HR0, HB2⟩
      case round =>
        clear HN HC2 HR0 HB2
        obtain ⟨b, u, c, r, hb, rfl, rfl, hub, HU, H1, HRK, HC1, HR1, HB1⟩ := hrel
        by_cases hlt : b < 256
        · have hbi : (b : Int) < 256 := by omega
          have hgc := block_lt HC1.out
          have hgr := block_lt HR1.out
          have cr := HR1.out.cell b (by rw [HRK.out.1]; exact hlt)
          have fr := HR1.out.free b
          obtain ⟨x, hx⟩ : ∃ x, c.getD (b + 1) 0 = x := ⟨_, rfl⟩
          obtain ⟨y, hy⟩ : ∃ y, c.getD b 0 = y := ⟨_, rfl⟩
          have hxo : x = occ L b := by rw [← hx]; exact H1.out.2.2 (b + 1) (Nat.le_refl _) (by omega)
          obtain ⟨hxy, h2⟩ := H1.out.step (by omega) (by omega) x y hx hy
          rw [List.length_range] at hxy
          have cx := HC1.out.cell (b + 1) (by rw [H1.out.1]; omega)
          have cy := HC1.out.cell b (by rw [H1.out.1]; omega)
          have fc := HC1.out.free (b + 1)
          rw [hx] at cx
          rw [hy] at cy
          have cx2 := ((HC1.out.away (k := gk) (j := b) (u := .int .i64 (u : Int)) hne)).cell (b + 1) (by rw [H1.out.1]; omega)
          rw [hx] at cx2
          have H2 := Lib.hid h2
          have HRK2 := Lib.hid (show (r.set b u).length = 256 ∧ ∀ q, q < b + 1 → (r.set b u).getD q 0 = usd (occ L) q from ⟨by rw [List.length_set]; exact HRK.out.1, fun q hq => by
            rw [setN_getD _ _ _ _ (by rw [HRK.out.1]; exact hlt)]
            by_cases e : b = q
            · subst e; rw [if_pos rfl, HU.out]
            · rw [if_neg e]; exact HRK.out.2 q (by omega)⟩)
          have hne2 := hne.symm
          by_cases hx0 : 0 < x
          · have hx0i : (0 : Int) < x := by omega
            have HU2 := Lib.hid (show usd (occ L) (b + 1) = u + 1 by rw [usd, ← hxo, if_pos hx0, HU.out])
            clear h2 hx hy hxo hx0
            go_wp2_with fail
            go_region
            go_wp2_with fail
            go_roundw
            case rel => exact ⟨b + 1, u + 1, _, _, by omega, by go_num, by go_num, by omega, HU2, H2, HRK2, (HC1.out.away hne).set (b + 1) (x + y), (HR1.out.set b u).away hne2, Lib.hid ((HB1.out.setCell (p := ⟨gk, b, none⟩) hgk (.int .i64 (u : Int))).setCell (p := ⟨gf, b + 1, none⟩) (Nat.le_refl _) (.int .i64 ((x : Int) + y))).drew⟩
            case measure => simp [intOf]; omega
          · have hx0i : ¬ (0 : Int) < x := by omega
            have HU2 := Lib.hid (show usd (occ L) (b + 1) = u by rw [usd, ← hxo, if_neg hx0, HU.out, Nat.add_zero])
            clear h2 hx hy hxo hx0
            go_wp2_with fail
            go_region
            go_wp2_with fail
            go_roundw
            case rel => exact ⟨b + 1, u, _, _, by omega, by go_num, by go_num, by omega, HU2, H2, HRK2, (HC1.out.away hne).set (b + 1) (x + y), (HR1.out.set b u).away hne2, Lib.hid ((HB1.out.setCell (p := ⟨gk, b, none⟩) hgk (.int .i64 (u : Int))).setCell (p := ⟨gf, b + 1, none⟩) (Nat.le_refl _) (.int .i64 ((x : Int) + y))).drew⟩
            case measure => simp [intOf]; omega
        · obtain rfl : b = 256 := by omega
          have hgc := block_lt HC1.out
          have hgr := block_lt HR1.out
          have mk1 := mkI L.length (by omega)
          have H2 := Lib.hid (H1.out.done (o := List.replicate L.length 0) (by rw [List.length_replicate, List.length_range]))
          go_wp2_with fail
          go_region_held3 (fun _ => True) (trivial) (fail)
          all_goals go_wp2_with fail
          all_goals
            have hb3 := ((Below.refl wr.heap.size wr).alloc (Nat.le_refl _) (.cells (madeCells #[.int .i64 0] L.length) 3)).alloc (by simp) (.cells (madeCells #[.int .i64 0] L.length) 3)
            have HI1 := Lib.hid (show IsN ((wr.alloc (.cells (madeCells #[.int .i64 0] L.length) 3)).alloc (.cells (madeCells #[.int .i64 0] L.length) 3)).drew wr.heap.size (List.replicate L.length 0) by unfold IsN IsA; rw [← madeI]; exact heap_two_first wr _ _)
            have HI2 := Lib.hid (show IsN ((wr.alloc (.cells (madeCells #[.int .i64 0] L.length) 3)).alloc (.cells (madeCells #[.int .i64 0] L.length) 3)).drew (wr.heap.size + 1) (List.replicate L.length 0) by unfold IsN IsA; rw [← madeI]; exact heap_two_last wr _ _)
            have HC3 := Lib.hid (HC1.out.kept hb3.drew)
            have HR3 := Lib.hid (HR1.out.kept hb3.drew)
            have HB3 := Lib.hid (HB1.out.trans (hb3.drew.mono (by omega)))
            clear hb3 HC1 HR1 HB1 H1 HU mk1
            generalize ((wr.alloc (.cells (madeCells #[.int .i64 0] L.length) 3)).alloc (.cells (madeCells #[.int .i64 0] L.length) 3)).drew = w3 at *
            generalize wr.heap.size = q0 at *
            obtain ⟨q1, hq1⟩ : ∃ q1, q0 + 1 = q1 := ⟨_, rfl⟩
            rw [hq1] at HI2 ⊢
          · have hgab : q0 ≠ q1 := by omega
            have hfa : gf ≠ q0 := by omega
            have hfr : gf ≠ q1 := by omega
            have hka : gk ≠ q0 := by omega
            have hkr : gk ≠ q1 := by omega
            have hwa : gf ≤ q0 := by omega
            have hwr : gf ≤ q1 := by omega
            obtain ⟨ga, hga⟩ : ∃ ga, q0 = ga := ⟨_, rfl⟩
            obtain ⟨gr, hgr⟩ : ∃ gr, q1 = gr := ⟨_, rfl⟩
            rw [hga] at hgab hfa hka hwa ⊢
            rw [hgr] at hgab hfr hkr hwr ⊢
            have HU3 := Lib.hid (show IsN w3 ga (List.replicate L.length 0) by rw [← hga]; exact HI1.out)
            have HV3 := Lib.hid (show IsN w3 gr (List.replicate L.length 0) by rw [← hgr]; exact HI2.out)
            clear hga hgr HI1 HI2 hq1
            go_loopw [58] (fun tv wr => ∃ (t : Nat) (c a rl : List Nat), t ≤ L.length ∧ tv = .int .i64 t ∧ Hid (Laid (byteAt L) (List.range L.length) 257 t c a) ∧ Hid (rl.length = L.length ∧ ∀ i, i < t → rl.getD i 0 = usd (occ L) (byteAt L i)) ∧ Hid (IsA 70 wr gf c) ∧ Hid (IsA 52 wr gk r) ∧ Hid (IsN wr ga a) ∧ Hid (IsN wr gr rl) ∧ Hid (Below gf w wr)) (fun tv _ => L.length - (intOf tv).toNat)
            case atStart => exact ⟨0, c, _, _, Nat.zero_le _, rfl, H2, Lib.hid ⟨List.length_replicate, fun i hi => by omega⟩, HC3, HR3, HU3, HV3, HB3⟩
            case round =>
              clear H2 HC3 HR3 HU3 HV3 HB3
              obtain ⟨t, c, a, rl, ht, rfl, H1, HRL, HC1, HR1, HA1, HV1, HB1⟩ := hrel
              by_cases hlt : t < L.length
              · have hti : (t : Int) < L.length := by omega
                have x1 := ixM L (t : Int) t rfl hlt
                obtain ⟨B, hB⟩ : ∃ B, (L.getD t 0).toNat = B := ⟨_, rfl⟩
                have hBl : B < 256 := by rw [← hB]; exact (L.getD t 0).toNat_lt
                have hrt : (List.range L.length).getD t 0 = t := by simp [List.getD_eq_getElem?_getD, hlt]
                obtain ⟨C, hC⟩ : ∃ C, c.getD B 0 = C := ⟨_, rfl⟩
                obtain ⟨hCl, h2⟩ := H1.out.step (by rw [List.length_range]; exact hlt) B (by rw [hrt]; exact hB) (by omega) C hC
                rw [hrt] at h2
                have hal := H1.out.ol
                rw [List.length_range] at hal
                have hRB := HRK.out.2 B hBl
                have cc := HC1.out.cell B (by rw [H1.out.cl]; omega)
                have fc := HC1.out.free B
                have ca := HA1.out.cell C hCl
                have fa := HA1.out.free C
                have cr := HR1.out.cell B (by rw [HRK.out.1]; exact hBl)
                have cv := HV1.out.cell t (by rw [HRL.out.1]; exact hlt)
                have fv := HV1.out.free t
                obtain ⟨U, hU⟩ : ∃ U, r.getD B 0 = U := ⟨_, rfl⟩
                rw [hU] at cr hRB
                rw [hC] at cc
                rw [hB] at x1
                rw [hal] at hCl
                have hBi : (B : Int) < 256 := by omega
                have hCi : (C : Int) < L.length := by omega
                have l1 := block_lt HC1.out
                have l2 := block_lt HR1.out
                have l3 := block_lt HA1.out
                have l4 := block_lt HV1.out
                have H2 := Lib.hid h2
                have HRL2 := Lib.hid (show (rl.set t U).length = L.length ∧ ∀ i, i < t + 1 → (rl.set t U).getD i 0 = usd (occ L) (byteAt L i) from ⟨by rw [List.length_set]; exact HRL.out.1, fun i hi => by
                  rw [setN_getD _ _ _ _ (by rw [HRL.out.1]; exact hlt)]
                  by_cases e : t = i
                  · subst e; rw [if_pos rfl, hRB, byteAt, hB]
                  · rw [if_neg e]; exact HRL.out.2 i (by omega)⟩)
                have s1 := hfa.symm
                have s2 := hfr.symm
                have s3 := hka.symm
                have s4 := hkr.symm
                have s5 := hgab.symm
                have s6 := hne.symm
                clear h2 hC hRB hU hB hBl hrt hal
                go_wp2_with fail
                go_roundw
                case rel => exact ⟨t + 1, _, _, _, by omega, by go_num, H2, HRL2, ((HC1.out.away hfa).set B (C + 1)).away hfr, ((HR1.out.away hka).away s6).away hkr, ((HA1.out.set C t).away s1).away hgab, ((HV1.out.away s5).away s2).set t U, ((HB1.out.setCell (p := ⟨ga, C, none⟩) hwa (.int .i64 (t : Int))).setCell (p := ⟨gf, B, none⟩) (Nat.le_refl _) (.int .i64 ((C : Int) + 1))).setCell (p := ⟨gr, t, none⟩) hwr (.int .i64 (U : Int))⟩
                case measure => simp [intOf]; omega
              · obtain rfl : t = L.length := by omega
                have HK := Lib.hid (first_rkd H1.out HRL.out.1 (fun i hi => HRL.out.2 i hi))
                go_wp2_with fail
                go_ret2
                exact ⟨ga, gr, a, rl, rfl, HA1.out, HV1.out, HK.out, hgab, by rw [HGF.out]; exact hwa, by rw [HGF.out]; exact hwr, by rw [HGF.out]; exact HB1.out⟩
          · have hgab : q1 ≠ q0 := by omega
            have hfa : gf ≠ q1 := by omega
            have hfr : gf ≠ q0 := by omega
            have hka : gk ≠ q1 := by omega
            have hkr : gk ≠ q0 := by omega
            have hwa : gf ≤ q1 := by omega
            have hwr : gf ≤ q0 := by omega
            obtain ⟨ga, hga⟩ : ∃ ga, q1 = ga := ⟨_, rfl⟩
            obtain ⟨gr, hgr⟩ : ∃ gr, q0 = gr := ⟨_, rfl⟩
            rw [hga] at hgab hfa hka hwa ⊢
            rw [hgr] at hgab hfr hkr hwr ⊢
            have HU3 := Lib.hid (show IsN w3 ga (List.replicate L.length 0) by rw [← hga]; exact HI2.out)
            have HV3 := Lib.hid (show IsN w3 gr (List.replicate L.length 0) by rw [← hgr]; exact HI1.out)
            clear hga hgr HI1 HI2 hq1
            go_loopw [58] (fun tv wr => ∃ (t : Nat) (c a rl : List Nat), t ≤ L.length ∧ tv = .int .i64 t ∧ Hid (Laid (byteAt L) (List.range L.length) 257 t c a) ∧ Hid (rl.length = L.length ∧ ∀ i, i < t → rl.getD i 0 = usd (occ L) (byteAt L i)) ∧ Hid (IsA 70 wr gf c) ∧ Hid (IsA 52 wr gk r) ∧ Hid (IsN wr ga a) ∧ Hid (IsN wr gr rl) ∧ Hid (Below gf w wr)) (fun tv _ => L.length - (intOf tv).toNat)
            case atStart => exact ⟨0, c, _, _, Nat.zero_le _, rfl, H2, Lib.hid ⟨List.length_replicate, fun i hi => by omega⟩, HC3, HR3, HU3, HV3, HB3⟩
            case round =>
              clear H2 HC3 HR3 HU3 HV3 HB3
              obtain ⟨t, c, a, rl, ht, rfl, H1, HRL, HC1, HR1, HA1, HV1, HB1⟩ := hrel
              by_cases hlt : t < L.length
              · have hti : (t : Int) < L.length := by omega
                have x1 := ixM L (t : Int) t rfl hlt
                obtain ⟨B, hB⟩ : ∃ B, (L.getD t 0).toNat = B := ⟨_, rfl⟩
                have hBl : B < 256 := by rw [← hB]; exact (L.getD t 0).toNat_lt
                have hrt : (List.range L.length).getD t 0 = t := by simp [List.getD_eq_getElem?_getD, hlt]
                obtain ⟨C, hC⟩ : ∃ C, c.getD B 0 = C := ⟨_, rfl⟩
                obtain ⟨hCl, h2⟩ := H1.out.step (by rw [List.length_range]; exact hlt) B (by rw [hrt]; exact hB) (by omega) C hC
                rw [hrt] at h2
                have hal := H1.out.ol
                rw [List.length_range] at hal
                have hRB := HRK.out.2 B hBl
                have cc := HC1.out.cell B (by rw [H1.out.cl]; omega)
                have fc := HC1.out.free B
                have ca := HA1.out.cell C hCl
                have fa := HA1.out.free C
                have cr := HR1.out.cell B (by rw [HRK.out.1]; exact hBl)
                have cv := HV1.out.cell t (by rw [HRL.out.1]; exact hlt)
                have fv := HV1.out.free t
                obtain ⟨U, hU⟩ : ∃ U, r.getD B 0 = U := ⟨_, rfl⟩
                rw [hU] at cr hRB
                rw [hC] at cc
                rw [hB] at x1
                rw [hal] at hCl
                have hBi : (B : Int) < 256 := by omega
                have hCi : (C : Int) < L.length := by omega
                have l1 := block_lt HC1.out
                have l2 := block_lt HR1.out
                have l3 := block_lt HA1.out
                have l4 := block_lt HV1.out
                have H2 := Lib.hid h2
                have HRL2 := Lib.hid (show (rl.set t U).length = L.length ∧ ∀ i, i < t + 1 → (rl.set t U).getD i 0 = usd (occ L) (byteAt L i) from ⟨by rw [List.length_set]; exact HRL.out.1, fun i hi => by
                  rw [setN_getD _ _ _ _ (by rw [HRL.out.1]; exact hlt)]
                  by_cases e : t = i
                  · subst e; rw [if_pos rfl, hRB, byteAt, hB]
                  · rw [if_neg e]; exact HRL.out.2 i (by omega)⟩)
                have s1 := hfa.symm
                have s2 := hfr.symm
                have s3 := hka.symm
                have s4 := hkr.symm
                have s5 := hgab.symm
                have s6 := hne.symm
                clear h2 hC hRB hU hB hBl hrt hal
                go_wp2_with fail
                go_roundw
                case rel => exact ⟨t + 1, _, _, _, by omega, by go_num, H2, HRL2, ((HC1.out.away hfa).set B (C + 1)).away hfr, ((HR1.out.away hka).away s6).away hkr, ((HA1.out.set C t).away s1).away hgab, ((HV1.out.away s5).away s2).set t U, ((HB1.out.setCell (p := ⟨ga, C, none⟩) hwa (.int .i64 (t : Int))).setCell (p := ⟨gf, B, none⟩) (Nat.le_refl _) (.int .i64 ((C : Int) + 1))).setCell (p := ⟨gr, t, none⟩) hwr (.int .i64 (U : Int))⟩
                case measure => simp [intOf]; omega
              · obtain rfl : t = L.length := by omega
                have HK := Lib.hid (first_rkd H1.out HRL.out.1 (fun i hi => HRL.out.2 i hi))
                go_wp2_with fail
                go_ret2
                exact ⟨ga, gr, a, rl, rfl, HA1.out, HV1.out, HK.out, hgab, by rw [HGF.out]; exact hwa, by rw [HGF.out]; exact hwr, by rw [HGF.out]; exact HB1.out⟩
end Go.Proofs.Ytpkidedepcnoaaa
