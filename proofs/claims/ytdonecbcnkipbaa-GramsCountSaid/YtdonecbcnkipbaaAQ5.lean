/- Layer 43, the document's: put. -/
import Derived.Test.YtdonecbcnkipbaaAQ4
import Derived.Deep.RegionHeld3
namespace Go.Proofs.Ytdonecbcnkipbaa
open Go.ChangeShapes Go.WideShapes Go.ChangeAt Go.RowKit
set_option linter.unusedVariables false
set_option linter.unusedSimpArgs false
set_option maxRecDepth 100000
open RollMath Gm
theorem IsGr.alloc {w : World} {a : Option Addr} {l : List Gr} (h : IsGr w a l) (o : Obj) : IsGr (w.alloc o) a l := h.kept ((Below.refl _ _).alloc (Nat.le_refl _) o)
set_option maxHeartbeats 3200000 in
theorem dPutG (a : Option Addr) (c : Nat) (l : List Gr) (g : Gr) (w : World) (h : IsGr w a l) (hc : l.length ≤ c) (hl : l.length ≤ 100000) (hn : ∀ i, i < l.length → (l.getD i ([], 0)).2 ≤ 1000000) (hg : g.2 ≤ 1000000) :
    Calls Try.prog 22 #[.slice a l.length c, .agg #[.string (sT g.1), .int .i64 (g.2 : Int)]] w fun e w' => ∃ v, e = .returned v ∧ OwnG w.heap.size w' v (putL l g) ∧ Below w.heap.size w w' := by
  have HI := Lib.hid h
  have HN := Lib.hid hn
  obtain ⟨P, hP⟩ : ∃ P, atP l g l.length = P := ⟨_, rfl⟩
  have HPL := Lib.hid (show putL l g = l.take P ++ [g] ++ l.drop P by unfold putL; rw [hP])
  have HP := Lib.hid hP
  have hPl : P ≤ l.length := by rw [← hP]; exact atP_le _ _ _
  clear h hn hP
  go_enter Try.func22, Try.ntmps22
  go_wp2_with fail
  obtain ⟨w1, hw1⟩ : ∃ w1, w.alloc (.cells #[.string (sT g.1), .int .i64 (g.2 : Int)] 35) = w1 := ⟨_, rfl⟩
  have HX := Lib.hid (show w1.heap[w.heap.size]? = some (.cells #[.string (sT g.1), .int .i64 (g.2 : Int)] 35) by rw [← hw1]; exact heap_alloc_new w _)
  have HB1 := Lib.hid (show Below w.heap.size w w1 by rw [← hw1]; exact (Below.refl _ _).alloc (Nat.le_refl _) _)
  have HI1 := Lib.hid (HI.out.kept HB1.out)
  have hsz1 : w.heap.size < w1.heap.size := by rw [← hw1]; simp
  rw [hw1]
  clear hw1 HI
  go_loopw [5] (fun i wr => ∃ k : Nat, k ≤ l.length ∧ i = .int .i64 k ∧ Hid (atP l g k = P) ∧ Hid (Below w1.heap.size w1 wr)) (fun i _ => (intOf i).toNat)
  case atStart => exact ⟨l.length, Nat.le_refl _, rfl, HP, Lib.hid (Below.refl _ _)⟩
  case round =>
    obtain ⟨k, hk, rfl, hp, hb⟩ := hrel
    have hend : ∀ (wz : World), Hid (Below w1.heap.size w1 wz) → Hid (IsGr wz a l ∧ wz.cell? ⟨w.heap.size, 0, none⟩ = some (.string (sT g.1)) ∧ wz.cell? ⟨w.heap.size, 1, none⟩ = some (.int .i64 (g.2 : Int))) := by
      intro wz hz
      refine Lib.hid ⟨HI1.out.kept hz.out, ?_, ?_⟩
      · rw [hz.out.cell hsz1, cell_in HX.out]; rfl
      · rw [hz.out.cell hsz1, cell_in HX.out]; rfl
    by_cases hk0 : k = 0
    · have hP0 : k = P := by rw [← hp.out, hk0]; rfl
      subst hP0
      have hd : decide ((0 : Int) < (k : Int)) = false := decide_eq_false (by omega)
      have hd2 : decide (0 < k) = false := decide_eq_false (by omega)
      clear hk0
      go_wp2_with fail
      go_quiet (fail)
      obtain ⟨wz, hwz⟩ : ∃ wz, wr.drewN nq = wz := ⟨_, rfl⟩
      have HZ := Lib.hid (show Below w1.heap.size w1 wz by rw [← hwz]; exact below_dn hb.out _)
      rw [hwz]
      clear hwz hd hd2
      obtain ⟨hgr, hx0, hx1⟩ := (hend wz HZ).out
      have HGR := Lib.hid hgr
      have HBZ := HZ
      clear hgr hend
      have hsl := slTakeG a l.length c k (by omega)
      obtain ⟨vb, hsd, hdr⟩ := slDropG a l.length c k hPl
      have HDR := Lib.hid hdr
      have hLT : Hid (k = (l.take k).length) := Lib.hid (by rw [List.length_take]; omega)
      have hLD : Hid (l.length - k = (l.drop k).length) := Lib.hid (by rw [List.length_drop])
      clear hdr
      go_wp2_with (first | (at_builtin; refine app_rowG rfl (.tmp 22) (.tmp 25) rfl w1.heap.size _ [] (l.take k) rfl OwnS.nil a _ _ rfl hLT.out (HGR.out.take k) (by have := hLT.out; simp only [List.length_nil]; omega) HBZ.out.size ?_; intro v6 w6 ho6 hb6; have hy0 := (hb6.cell (p := ⟨w.heap.size, 0, none⟩) hsz1).trans hx0; have hy1 := (hb6.cell (p := ⟨w.heap.size, 1, none⟩) hsz1).trans hx1; have HB6 := Lib.hid (HBZ.out.trans hb6); have HO6 := Lib.hid (show OwnG w1.heap.size w6 v6 (l.take k) from by rw [List.nil_append] at ho6; exact ho6); clear ho6 hb6) | (at_builtin; refine app_gram rfl (.tmp 27) (.tmp 29) rfl w1.heap.size _ v6 (l.take k) g rfl HO6.out w6.heap.size 1 rfl rfl (by have := hLT.out; omega) HB6.out.size ?_; intro v7 w7 ho7 hb7 _; have HB7 := Lib.hid (HB6.out.trans hb7); have HO7 := Lib.hid ho7; clear ho7 hb7) | (at_builtin; refine app_rowG rfl (.tmp 31) (.tmp 34) rfl w1.heap.size v7 _ (l.drop k) rfl HO7.out vb _ _ rfl hLD.out (HDR.out w7 l rfl hc (HI1.out.kept HB7.out)) (by have h1 := hLT.out; have h2 := hLD.out; rw [List.length_append]; simp only [List.length_singleton]; omega) HB7.out.size ?_; intro v8 w8 ho8 hb8) | fail)
      have HB8 := Lib.hid (HB1.out.trans ((HB7.out.trans hb8).mono HB1.out.size))
      have HO8 := Lib.hid (show OwnG w.heap.size w8 v8 (putL l g) from by rw [HPL.out]; exact OwnS.base ho8 HB1.out.size)
      clear ho8 hb8 HO7 HB7 HO6 HB6
      go_wp2_with fail
      go_ret
      exact ⟨_, rfl, HO8.out, HB8.out⟩
    · obtain ⟨n, hn⟩ : ∃ n, k - 1 = n := ⟨_, rfl⟩
      have hkn : k = n + 1 := by omega
      obtain ⟨x, rfl, hxl, c0, c1⟩ := (HI1.out.kept hb.out).at n (by omega)
      have hnn := HN.out n (by omega)
      have hstep : atP l g k = if ahd g (l.getD n ([], 0)) = true then atP l g n else n + 1 := by rw [hkn]; rfl
      obtain ⟨G, hG⟩ : ∃ G, l.getD n ([], 0) = G := ⟨_, rfl⟩
      rw [hG] at c0 c1 hnn hstep
      obtain ⟨A, hA⟩ : ∃ A, ahd g G = A := ⟨_, rfl⟩
      have CA := Lib.hid (fun W => dAhead g G hg hnn W)
      rw [hA] at CA hstep
      have HST := Lib.hid hstep
      have HKN := Lib.hid hkn
      have eJ : (k : Int) - 1 = (n : Int) := by omega
      have wJ : IntKind.i64.wrap (n : Int) = n := IntWalk.i64_in _ (by omega)
      have hn1 : (n : Int) < (l.length : Int) := by omega
      have hkd : decide ((0 : Int) < (k : Int)) = true := decide_eq_true (by omega)
      have hkd' : decide (0 < k) = true := decide_eq_true (by omega)
      have hn0 : (0 : Int) ≤ (n : Int) := by omega
      have hx0 : wr.cell? ⟨w.heap.size, 0, none⟩ = some (.string (sT g.1)) := by rw [hb.out.cell hsz1, cell_in HX.out]; rfl
      have hx1 : wr.cell? ⟨w.heap.size, 1, none⟩ = some (.int .i64 (g.2 : Int)) := by rw [hb.out.cell hsz1, cell_in HX.out]; rfl
      have hyb : (x.add (n * 2)).block < wr.heap.size := by rw [add_block]; exact hxl
      have hgw : w.heap.size < wr.heap.size := by have := hb.out.size; omega
      have HS0 := Lib.hid (show (wr.cell? ⟨w.heap.size, 0, none⟩ = some (.string (sT g.1)) ∧ wr.cell? ⟨w.heap.size, 1, none⟩ = some (.int .i64 (g.2 : Int))) ∧ wr.cell? (x.add (n * 2)) = some (.string (sT G.1)) ∧ wr.cell? ⟨(x.add (n * 2)).block, (x.add (n * 2)).off + 1, none⟩ = some (.int .i64 (G.2 : Int)) from ⟨⟨hx0, hx1⟩, c0, c1⟩)
      clear hG hA hstep hnn hx0 hx1 c0 c1 hkn hn hk0 hxl
      go_wp2_with fail
      go_region_held3 (fun V => (V.cell? ⟨w.heap.size, 0, none⟩ = some (.string (sT g.1)) ∧ V.cell? ⟨w.heap.size, 1, none⟩ = some (.int .i64 (g.2 : Int))) ∧ V.cell? (x.add (n * 2)) = some (.string (sT G.1)) ∧ V.cell? ⟨(x.add (n * 2)).block, (x.add (n * 2)).off + 1, none⟩ = some (.int .i64 (G.2 : Int))) (first | exact HS0.out | exact HS1.out) (first | (go_at_call 32; (refine (CA.out _).mono ?_; rintro e w5 ⟨rfl, hb5⟩; have hb5' : Below wr.heap.size wr w5 := (Below.refl _ wr).drew.trans hb5; have HS1 := Lib.hid (show (w5.cell? ⟨w.heap.size, 0, none⟩ = some (.string (sT g.1)) ∧ w5.cell? ⟨w.heap.size, 1, none⟩ = some (.int .i64 (g.2 : Int))) ∧ w5.cell? (x.add (n * 2)) = some (.string (sT G.1)) ∧ w5.cell? ⟨(x.add (n * 2)).block, (x.add (n * 2)).off + 1, none⟩ = some (.int .i64 (G.2 : Int)) from ⟨⟨(hb5'.cell hgw).trans HS0.out.1.1, (hb5'.cell hgw).trans HS0.out.1.2⟩, (hb5'.cell hyb).trans HS0.out.2.1, (hb5'.cell (p := ⟨(x.add (n * 2)).block, (x.add (n * 2)).off + 1, none⟩) hyb).trans HS0.out.2.2⟩))) | fail)
      simp only [Exit.then]
      rename_i hK hHeld
      refine hK _ _ ?_
      have HB5 := Lib.hid (show Below w1.heap.size w1 w5 from hb.out.trans (((Below.refl _ wr).drew.trans hb5).mono hb.out.size))
      clear hK hHeld HS0 HS1 CA hb5
      cases A with
      | true =>
        have HP2 := Lib.hid (show atP l g n = P by rw [← hp.out, HST.out, if_pos rfl])
        clear hp
        go_wp2_with fail
        go_roundw
        case rel => exact ⟨n, by omega, rfl, HP2, HB5⟩
        case measure => simp [intOf]; have := HKN.out; omega
      | false =>
        obtain rfl : k = P := by rw [← hp.out, HST.out, if_neg (by decide)]; exact HKN.out
        clear hkd hkd' hn0 hn1 eJ wJ hyb hgw HST
        obtain ⟨hgr, hx0, hx1⟩ := (hend w5 HB5).out
        have HGR := Lib.hid hgr
        have HBZ := HB5
        clear hgr hend
        have hsl := slTakeG (some x) l.length c k (by omega)
        obtain ⟨vb, hsd, hdr⟩ := slDropG (some x) l.length c k hPl
        have HDR := Lib.hid hdr
        have hLT : Hid (k = (l.take k).length) := Lib.hid (by rw [List.length_take]; omega)
        have hLD : Hid (l.length - k = (l.drop k).length) := Lib.hid (by rw [List.length_drop])
        clear hdr
        go_wp2_with (first | (at_builtin; refine app_rowG rfl (.tmp 22) (.tmp 25) rfl w1.heap.size _ [] (l.take k) rfl OwnS.nil (some x) _ _ rfl hLT.out (HGR.out.take k) (by have := hLT.out; simp only [List.length_nil]; omega) HBZ.out.size ?_; intro v6 w6 ho6 hb6; have hy0 := (hb6.cell (p := ⟨w.heap.size, 0, none⟩) hsz1).trans hx0; have hy1 := (hb6.cell (p := ⟨w.heap.size, 1, none⟩) hsz1).trans hx1; have HB6 := Lib.hid (HBZ.out.trans hb6); have HO6 := Lib.hid (show OwnG w1.heap.size w6 v6 (l.take k) from by rw [List.nil_append] at ho6; exact ho6); clear ho6 hb6) | (at_builtin; refine app_gram rfl (.tmp 27) (.tmp 29) rfl w1.heap.size _ v6 (l.take k) g rfl HO6.out w6.heap.size 1 rfl rfl (by have := hLT.out; omega) HB6.out.size ?_; intro v7 w7 ho7 hb7 _; have HB7 := Lib.hid (HB6.out.trans hb7); have HO7 := Lib.hid ho7; clear ho7 hb7) | (at_builtin; refine app_rowG rfl (.tmp 31) (.tmp 34) rfl w1.heap.size v7 _ (l.drop k) rfl HO7.out vb _ _ rfl hLD.out (HDR.out w7 l rfl hc (HI1.out.kept HB7.out)) (by have h1 := hLT.out; have h2 := hLD.out; rw [List.length_append]; simp only [List.length_singleton]; omega) HB7.out.size ?_; intro v8 w8 ho8 hb8) | fail)
        have HB8 := Lib.hid (HB1.out.trans ((HB7.out.trans hb8).mono HB1.out.size))
        have HO8 := Lib.hid (show OwnG w.heap.size w8 v8 (putL l g) from by rw [HPL.out]; exact OwnS.base ho8 HB1.out.size)
        clear ho8 hb8 HO7 HB7 HO6 HB6
        go_wp2_with fail
        go_ret
        exact ⟨_, rfl, HO8.out, HB8.out⟩
end Go.Proofs.Ytdonecbcnkipbaa
