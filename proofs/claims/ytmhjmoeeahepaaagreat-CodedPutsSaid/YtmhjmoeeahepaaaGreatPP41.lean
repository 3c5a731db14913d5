import Derived.Test.YtmhjmoeeahepaaaGreatPP40
import Derived.Defers
import Derived.Recover
import Derived.Test.YtmhjmoeeahepaaaGreatPP33
/- Layer 27: reading: all tokens. -/
namespace Go.Proofs.YtmhjmoeeahepaaaGreat
open Go.ChangeShapes Go.WideShapes Go.ChangeAt Go.RowKit
set_option linter.unusedVariables false
set_option linter.unusedSimpArgs false
set_option maxRecDepth 100000
open Bits hiding packF pack_length
open RunsMath KraftMath CanonMath TurnMath Pm Two
set_option maxHeartbeats 3200000 in
theorem read27No3 (w0 : World) (g raw : Nat) (s : List UInt8) (hr : IsReader w0 g s 0) (r1 : List Run) (t1 : Nat) (M : List Int) (C1 : Rdt g 0 401 s (.good r1 t1)) (hM : (unpack r1 401).2 = M) (lm : M.length = 401) (hEM : check M 15 = 0) (hin : t1 + 1 ≤ 8 * s.length) (hV : peek ((spread s).drop t1) 1 = 1) (E : Int) (hE : E ≠ 0) (C3 : Rdt g (t1 + 1) 52 s (.bad E)) :
    Calls Tryz.prog 32 #[.pointer (some ⟨g, 0, none⟩), .int .i64 raw] w0 (EndF (.bad (musE E)) w0 g) := by
  have CF := Lib.hid (fun W gr (hp : W.cell? ⟨gr, 0, none⟩ = some (.pointer (some ⟨g, 0, none⟩))) (h : IsReader W g s t1) => show Calls Tryz.prog 57 #[.pointer (some ⟨gr, 0, none⟩), .int .i64 1] W _ from rdTakeIn W gr g t1 1 s hp h (by decide) hin)
  rw [hV] at CF
  have CT2 := Lib.hid (fun W gr (hp : W.cell? ⟨gr, 0, none⟩ = some (.pointer (some ⟨g, 0, none⟩))) (h : IsReader W g s (t1 + 1)) => show Calls Tryz.prog 56 #[.pointer (some ⟨gr, 0, none⟩), .int .i64 52, .int .i64 7] W _ from tab27No W gr g (t1 + 1) 52 7 s hp h E hE C3)
  clear hin hV C3 hE
  have HR := Lib.hid hr
  have hgl : g < w0.heap.size := hr.lt
  have CT := Lib.hid (fun W gr (hp : W.cell? ⟨gr, 0, none⟩ = some (.pointer (some ⟨g, 0, none⟩))) (h : IsReader W g s 0) => show Calls Tryz.prog 56 #[.pointer (some ⟨gr, 0, none⟩), .int .i64 401, .int .i64 10] W _ from tab27Ok W gr g 0 401 10 s hp h r1 t1 C1 M hM lm (fun e => by rw [e] at lm; simp at lm) (by decide) (by decide) (by decide) hEM)
  clear C1 hr hM hEM
  go_enter Tryz.func32, Tryz.ntmps32
  go_wp2_with fail
  have hb := (Below.refl w0.heap.size w0).alloc (Nat.le_refl _) (.cells (rdA g (.pointer none) (.pointer none)) 99)
  have hx := heap_alloc_new w0 (.cells (rdA g (.pointer none) (.pointer none)) 99)
  have C2 := Lib.hid (CT.out _ w0.heap.size (cell_in hx 0) (HR.out.kept hb))
  obtain ⟨w1, hw1⟩ : ∃ w1, w0.alloc (.cells (rdA g (.pointer none) (.pointer none)) 99) = w1 := ⟨_, rfl⟩
  change Calls Tryz.prog _ _ (w0.alloc (.cells (rdA g (.pointer none) (.pointer none)) 99)) _
  rw [hw1] at C2 ⊢
  obtain ⟨gr, hgr⟩ : ∃ gr, w0.heap.size = gr := ⟨_, rfl⟩
  rw [hgr] at C2 ⊢
  clear hb hx CT HR
  refine C2.out.mono ?_; rintro e w2 ⟨gm, rfl, hr2, hk2, hT2⟩
  have HT := Lib.hid (tb1_start hgr hgl hw1 hr2 hk2 hT2 lm)
  have hgr1 : w2.heap.size ≤ w2.heap.size := Nat.le_refl _
  have hgrl : gr < w2.heap.size := by
    have h1 := block_lt HT.out.rd.bk
    simpa using h1
  have hf1 : w2.frozen? ⟨gr, 1, none⟩ = false := by
    have hx1 : w1.heap[gr]? = some (.cells (rdA g (.pointer none) (.pointer none)) 99 (0, 0)) := by rw [← hw1, ← hgr]; exact heap_alloc_new w0 _
    exact free_in (hk2.heap hx1 (by omega)) 1
  have hc1 : w2.cell? ⟨gr, 1, none⟩ = some (.pointer none) := by
    have hx1 : w1.heap[gr]? = some (.cells (rdA g (.pointer none) (.pointer none)) 99 (0, 0)) := by rw [← hw1, ← hgr]; exact heap_alloc_new w0 _
    exact cell_in (hk2.heap hx1 (by omega)) 1
  clear hw1 hgr hgl hr2 hk2 hT2 C2
  go_wp2_with fail
  obtain ⟨w3, hw3⟩ : ∃ w3, w2.setCell ⟨gr, 1, none⟩ (.pointer (some ⟨gm, 0, none⟩)) = w3 := ⟨_, rfl⟩
  rw [hw3] at HT ⊢
  clear hw3 hf1 hc1 hgr1 hgrl
  refine (CF.out w3 gr HT.out.rd.c0 HT.out.at').mono ?_; rintro e w4 ⟨rfl, hr4, hk4, hF4⟩
  have HT := Lib.hid (tb1_go HT.out hr4 hk4)
  clear hr4 hk4 hF4 CF
  go_wp2_with fail
  refine (CT2.out w4 gr HT.out.rd.c0 HT.out.at').mono ?_; rintro e w5 ⟨rfl, hk5⟩
  have HK := Lib.hid (HT.out.kp.trans hk5)
  clear hk5 HT CT2
  go_wp2_with fail
  exact ⟨rfl, rfl, HK.out⟩
set_option maxHeartbeats 6400000 in
theorem read27Far (w0 : World) (g raw : Nat) (s : List UInt8) (hr : IsReader w0 g s 0) (r1 : List Run) (t1 : Nat) (M : List Int) (C1 : Rdt g 0 401 s (.good r1 t1)) (hM : (unpack r1 401).2 = M) (lm : M.length = 401) (hEM : check M 15 = 0) (hin : t1 + 1 ≤ 8 * s.length) (hV : peek ((spread s).drop t1) 1 = 1) (r3 : List Run) (t3 : Nat) (d : List Int) (C3 : Rdt g (t1 + 1) 52 s (.good r3 t3)) (hd : (unpack r3 52).2 = d) (ld : d.length = 52) (hED : check d 15 = 0) (hraw : raw ≤ 65536) (R : FR) (hL : loopR M (some d) (spread s) (raw + 1) raw t3 [] = R) :
    Calls Tryz.prog 32 #[.pointer (some ⟨g, 0, none⟩), .int .i64 raw] w0 (EndF R w0 g) := by
  have CF := Lib.hid (fun W gr (hp : W.cell? ⟨gr, 0, none⟩ = some (.pointer (some ⟨g, 0, none⟩))) (h : IsReader W g s t1) => show Calls Tryz.prog 57 #[.pointer (some ⟨gr, 0, none⟩), .int .i64 1] W _ from rdTakeIn W gr g t1 1 s hp h (by decide) hin)
  rw [hV] at CF
  have CT2 := Lib.hid (fun W gr (hp : W.cell? ⟨gr, 0, none⟩ = some (.pointer (some ⟨g, 0, none⟩))) (h : IsReader W g s (t1 + 1)) => show Calls Tryz.prog 56 #[.pointer (some ⟨gr, 0, none⟩), .int .i64 52, .int .i64 7] W _ from tab27Ok W gr g (t1 + 1) 52 7 s hp h r3 t3 C3 d hd ld (fun e => by rw [e] at ld; simp at ld) (by decide) (by decide) (by decide) hED)
  have HL := Lib.hid hL
  have HLD := Lib.hid ld
  clear hin hL hV C3 hED hd
  have HR := Lib.hid hr
  have hgl : g < w0.heap.size := hr.lt
  have CT := Lib.hid (fun W gr (hp : W.cell? ⟨gr, 0, none⟩ = some (.pointer (some ⟨g, 0, none⟩))) (h : IsReader W g s 0) => show Calls Tryz.prog 56 #[.pointer (some ⟨gr, 0, none⟩), .int .i64 401, .int .i64 10] W _ from tab27Ok W gr g 0 401 10 s hp h r1 t1 C1 M hM lm (fun e => by rw [e] at lm; simp at lm) (by decide) (by decide) (by decide) hEM)
  clear C1 hr hM hEM
  go_enter Tryz.func32, Tryz.ntmps32
  go_wp2_with fail
  have hb := (Below.refl w0.heap.size w0).alloc (Nat.le_refl _) (.cells (rdA g (.pointer none) (.pointer none)) 99)
  have hx := heap_alloc_new w0 (.cells (rdA g (.pointer none) (.pointer none)) 99)
  have C2 := Lib.hid (CT.out _ w0.heap.size (cell_in hx 0) (HR.out.kept hb))
  obtain ⟨w1, hw1⟩ : ∃ w1, w0.alloc (.cells (rdA g (.pointer none) (.pointer none)) 99) = w1 := ⟨_, rfl⟩
  change Calls Tryz.prog _ _ (w0.alloc (.cells (rdA g (.pointer none) (.pointer none)) 99)) _
  rw [hw1] at C2 ⊢
  obtain ⟨gr, hgr⟩ : ∃ gr, w0.heap.size = gr := ⟨_, rfl⟩
  rw [hgr] at C2 ⊢
  clear hb hx CT HR
  refine C2.out.mono ?_; rintro e w2 ⟨gm, rfl, hr2, hk2, hT2⟩
  have HT := Lib.hid (tb1_start hgr hgl hw1 hr2 hk2 hT2 lm)
  have hgr1 : w2.heap.size ≤ w2.heap.size := Nat.le_refl _
  have hgrl : gr < w2.heap.size := by
    have h1 := block_lt HT.out.rd.bk
    simpa using h1
  have hf1 : w2.frozen? ⟨gr, 1, none⟩ = false := by
    have hx1 : w1.heap[gr]? = some (.cells (rdA g (.pointer none) (.pointer none)) 99 (0, 0)) := by rw [← hw1, ← hgr]; exact heap_alloc_new w0 _
    exact free_in (hk2.heap hx1 (by omega)) 1
  have hc1 : w2.cell? ⟨gr, 1, none⟩ = some (.pointer none) := by
    have hx1 : w1.heap[gr]? = some (.cells (rdA g (.pointer none) (.pointer none)) 99 (0, 0)) := by rw [← hw1, ← hgr]; exact heap_alloc_new w0 _
    exact cell_in (hk2.heap hx1 (by omega)) 1
  clear hw1 hgr hgl hr2 hk2 hT2 C2
  go_wp2_with fail
  obtain ⟨w3, hw3⟩ : ∃ w3, w2.setCell ⟨gr, 1, none⟩ (.pointer (some ⟨gm, 0, none⟩)) = w3 := ⟨_, rfl⟩
  rw [hw3] at HT ⊢
  clear hw3 hf1 hc1 hgr1 hgrl
  refine (CF.out w3 gr HT.out.rd.c0 HT.out.at').mono ?_; rintro e w4 ⟨rfl, hr4, hk4, hF4⟩
  have HT := Lib.hid (tb1_go HT.out hr4 hk4)
  clear hr4 hk4 hF4 CF
  go_wp2_with fail
  refine (CT2.out w4 gr HT.out.rd.c0 HT.out.at').mono ?_; rintro e w5 ⟨gd, rfl, hr5, hk5, hT5⟩
  have hb5 := hk5.heap HT.out.rd.bk HT.out.rd.ne
  have hc2 : w5.cell? ⟨gr, 2, none⟩ = some (.pointer none) := cell_in hb5 2
  have hf2 : w5.frozen? ⟨gr, 2, none⟩ = false := free_in hb5 2
  have HT := Lib.hid (tb1_far HT.out hr5 hk5 hT5 HLD.out)
  clear hr5 hk5 hT5 CT2 hb5 HLD
  go_wp2_with fail
  obtain ⟨w6, hw6⟩ : ∃ w6, w5.setCell ⟨gr, 2, none⟩ (.pointer (some ⟨gd, 0, none⟩)) = w6 := ⟨_, rfl⟩
  rw [hw6] at HT ⊢
  clear hw6 hc2 hf2
  obtain ⟨D0, hD0⟩ : ∃ D0, w6.heap.size = D0 := ⟨_, rfl⟩
  have hw0 : w0.heap.size ≤ D0 := by rw [← hD0]; exact HT.out.kp.size
  have HRS := Lib.hid (Rs.start HT.out.at')
  have HTK := Lib.hid (fun (W : World) t (h : Rs w6 W g s t) => tok27 W gr g gm (.pointer (some ⟨gd, 0, none⟩)) M (some d) s t (HT.out.rd.keeps h.keep) h.rd)
  have HOK := Lib.hid (fun t p k (ht : t ≤ (spread s).length) (h : tokR M (some d) (spread s) t = .good k p) => tokR_ok (M := M) (D := (some d)) HT.out.rd.lm (fun d' e => by injection e with e; rw [← e]; exact ld) ht h)
  have HKW := Lib.hid (fun (W : World) t (h : Rs w6 W g s t) => HT.out.kp.trans' h.keep (fun j _ e => e))
  have CM4 := Lib.hid (fun W => m27No 4 (by decide) W)
  have htl := HT.out.at'.le
  have HD0 := Lib.hid hD0
  have HSL := Lib.hid (spread_length s)
  clear HT hD0
  go_wp2_with fail
  go_loopw [1, 6] (fun rv ov wr => ∃ (m t f : Nat) (a : List Tk), rv = .int .i64 m ∧ m ≤ 65536 ∧ m < f ∧ a.length + m ≤ 65536 ∧ t ≤ (spread s).length ∧ Hid (loopR M (some d) (spread s) f m t a = R) ∧ D0 ≤ wr.heap.size ∧ Hid (Rs w6 wr g s t) ∧ Hid (OwnK D0 wr ov a)) (fun rv _ _ => (intOf rv).toNat)
  case atStart => exact ⟨raw, _, _, [], rfl, hraw, Nat.lt_succ_self _, by simpa using hraw, htl, HL, by rw [HD0.out]; exact Nat.le_refl _, HRS, Lib.hid OwnS.nil⟩
  case round =>
    clear HL HRS htl hraw
    obtain ⟨m, t, f, a, rfl, hm, hf, ham, htl, hl, hDs, hs, ho⟩ := hrel
    obtain ⟨f, rfl⟩ : ∃ f', f = f' + 1 := ⟨f - 1, by omega⟩
    by_cases hm0 : m = 0
    · subst hm0
      have hR := hl.out
      unfold loopR at hR
      rw [if_pos rfl] at hR
      unfold endR at hR
      rw [HSL.out] at hR
      have CL := Lib.hid (rLeft wr g t s hs.out.rd)
      obtain ⟨q, hq⟩ : ∃ q, 8 * s.length - t = q := ⟨_, rfl⟩
      rw [hq] at CL hR
      have CP := Lib.hid (fun k (h8 : q < 8) => rPeek (wr.drewN k) g t q s (by have := hs.out.rd.kept (below_dn (Below.refl _ wr) k); exact this) (by omega))
      have HK := Lib.hid (fun k => (HKW.out wr t hs.out).drewN k)
      by_cases h8 : 8 ≤ q
      · rw [if_pos (.inl h8)] at hR
        have HRR := Lib.hid hR
        have h8i : decide ((8 : Int) ≤ (q : Int)) = true := by simp; omega
        clear hl hR CP hq hs ho HKW
        go_wp2_with fail
        refine CL.out.mono ?_; rintro e w5 ⟨rfl, k, rfl⟩
        go_wp2_with fail
        refine (CM4.out _).mono ?_; rintro e w6 ⟨rfl, h6⟩; rw [h6]; clear h6 w6
        go_wp2_with fail
        exact ⟨rfl, by rw [← HRR.out]; exact ⟨rfl, HK.out k⟩⟩
      · have h8i : decide ((8 : Int) ≤ (q : Int)) = false := by simp; omega
        have CPP := Lib.hid (fun k => CP.out k (by omega))
        obtain ⟨P, hP⟩ : ∃ P, peek ((spread s).drop t) q = P := ⟨_, rfl⟩
        rw [hP] at hR CPP
        have HO := Lib.hid (fun k => ho.out.kept (below_dn (Below.refl _ wr) k))
        by_cases hP0 : P = 0
        · subst hP0
          rw [if_neg (by omega)] at hR
          have HRR := Lib.hid hR
          clear hl hR CP hq hs ho HKW hP
          go_wp2_with fail
          refine CL.out.mono ?_; rintro e w5 ⟨rfl, k, rfl⟩
          go_wp2_with fail
          refine (CPP.out k).mono ?_; rintro e w6 ⟨rfl, k2, rfl⟩
          have HKE := Lib.hid (HK.out (k + k2))
          have HOE := Lib.hid ((HO.out k).kept (below_dn (Below.refl _ (wr.drewN k)) k2))
          go_wp2_with fail
          go_ret
          rw [← HRR.out]
          exact ⟨_, rfl, HOE.out.base hw0, HKE.out⟩
        · rw [if_pos (.inr hP0)] at hR
          have HRR := Lib.hid hR
          have hPb : ((P : Int) != 0) = true := by rw [bne_iff_ne]; omega
          clear hl hR CP hq hs ho HKW hP
          go_wp2_with fail
          refine CL.out.mono ?_; rintro e w5 ⟨rfl, k, rfl⟩
          go_wp2_with fail
          refine (CPP.out k).mono ?_; rintro e w6 ⟨rfl, k2, rfl⟩
          have HKE := Lib.hid (HK.out (k + k2))
          go_wp2_with fail
          refine (CM4.out _).mono ?_; rintro e w7 ⟨rfl, h7⟩; rw [h7]; clear h7 w7
          go_wp2_with fail
          exact ⟨rfl, by rw [← HRR.out]; exact ⟨rfl, HKE.out⟩⟩
    · have hmi : (0 : Int) < (m : Int) := by omega
      have hR := hl.out
      unfold loopR at hR
      rw [if_neg hm0] at hR
      have CT := Lib.hid (HTK.out wr t hs.out)
      cases hT : tokR M (some d) (spread s) t with
      | bad E =>
        rw [hT] at CT hR
        simp only at hR
        have HRR := Lib.hid hR
        have HK := Lib.hid (HKW.out wr t hs.out)
        clear hl hR hs ho HTK HKW hT
        go_wp2_with fail
        refine CT.out.mono ?_; rintro e w5 ⟨rfl, hk5⟩
        have HKE := Lib.hid (HK.out.trans hk5)
        clear hk5 CT
        go_wp2_with fail
        exact ⟨rfl, by rw [← HRR.out]; exact ⟨rfl, HKE.out⟩⟩
      | good k p =>
        rw [hT] at CT hR
        simp only at hR
        obtain ⟨hko, hpl⟩ := HOK.out t p k htl hT
        obtain ⟨hz1, hz2, hz3⟩ := sz_ok hko
        have CS := Lib.hid (fun W => Tok.size_any k.k k.b k.l k.d k.r W)
        rw [hz1] at CS
        obtain ⟨z, hz⟩ : ∃ z, szN k = z := ⟨_, rfl⟩
        rw [hz] at CS hR hz2 hz3
        obtain ⟨tk, tb, tn, td, tr⟩ := k
        simp only at CS
        have HRR := Lib.hid hR
        obtain ⟨pv, cv, hov⟩ := OwnS.slice ho.out
        subst hov
        have hgl : g < wr.heap.size := hs.out.rd.lt
        have hgD : g < D0 := by rw [← HD0.out]; exact hs.out.far.1
        clear hl hR hT hko hz1 hz
        go_wp2_with fail
        refine CT.out.mono ?_; rintro e w5 ⟨rfl, hr5, hk5, hF5⟩
        have HS5 := Lib.hid (hs.out.step hr5 hk5 hF5)
        have HO5 := Lib.hid (own_keeps ho.out hk5 hgD)
        have hD5 : D0 ≤ w5.heap.size := Nat.le_trans hDs hk5.size
        clear hr5 hk5 hF5 CT hs ho hDs hgl
        simp only [tkV]
        have HBX := Lib.hid (box_new w5 tk tb tn td tr)
        have hb6 := (Below.refl w5.heap.size w5).alloc (Nat.le_refl _) (.cells #[.int .i64 tk, .int .i64 tb, .int .i64 tn, .int .i64 td, .int .i64 tr] 35)
        have HS6 := Lib.hid (HS5.out.below (hb6.mono (by rw [HD0.out]; exact hD5)))
        have HO6 := Lib.hid (OwnS.kept HO5.out hb6)
        have hD6 : D0 ≤ (w5.alloc (.cells #[.int .i64 tk, .int .i64 tb, .int .i64 tn, .int .i64 td, .int .i64 tr] 35)).heap.size := Nat.le_trans hD5 hb6.size
        have HHB := Lib.hid hb6
        clear hb6
        go_wp2_with fail
        obtain ⟨w6, hw6⟩ : ∃ w6, w5.alloc (.cells #[.int .i64 tk, .int .i64 tb, .int .i64 tn, .int .i64 td, .int .i64 tr] 35) = w6 := ⟨_, rfl⟩
        obtain ⟨gx, hgx⟩ : ∃ gx, w5.heap.size = gx := ⟨_, rfl⟩
        rw [hw6] at HBX HS6 HO6 hD6 ⊢
        rw [hgx] at HBX ⊢
        clear hw6 hgx HHB HS5 HO5 hD5
        refine (CS.out w6).mono ?_; rintro e w7 ⟨rfl, hb7⟩
        obtain ⟨⟨b0, b1, b2, b3, b4⟩, -, hxl⟩ := box_cell ((hb7.block gx (block_lt HBX.out)).trans HBX.out)
        have HS7 := Lib.hid (HS6.out.below (hb7.mono (by rw [HD0.out]; exact hD6)))
        have HO7 := Lib.hid (OwnS.kept HO6.out hb7)
        have hD7 : D0 ≤ w7.heap.size := Nat.le_trans hD6 hb7.size
        clear hb7 HS6 HO6 hD6 HBX CS
        by_cases hov : m < z
        · have hovi : (m : Int) < (z : Int) := by omega
          have hR := HRR.out
          rw [if_pos hov] at hR
          have HRE := Lib.hid hR
          have HKE := Lib.hid (HKW.out w7 p HS7.out)
          clear hR HRR HS7 HO7 HKW HTK
          go_wp2_with fail
          refine (CM4.out _).mono ?_; rintro e w8 ⟨rfl, h8⟩; rw [h8]; clear h8 w8
          go_wp2_with fail
          exact ⟨rfl, by rw [← HRE.out]; exact ⟨rfl, HKE.out⟩⟩
        · have hovi : ¬ (m : Int) < (z : Int) := by omega
          have hR := HRR.out
          rw [if_neg hov] at hR
          have HRE := Lib.hid hR
          obtain ⟨N, hN⟩ : ∃ N, m - z = N := ⟨_, rfl⟩
          rw [hN] at HRE
          have hwN : IntKind.i64.wrap ((m : Int) - (z : Int)) = (N : Int) := by rw [IntKind.wrap_i64]; omega
          have HLN := Lib.hid (show a.length ≤ 1099511627776 by omega)
          have HBZ := Lib.hid hD7
          have HSB := Lib.hid (fun W (h : Below D0 w7 W) => HS7.out.below (w' := W) (by rw [HD0.out]; exact h))
          clear hR HRR HKW HTK HS7
          go_wp2_with (at_builtin; refine app_tk rfl (.tmp 39) (.tmp 41) rfl _ _ _ a tk tb tn td tr rfl HO7.out w7.heap.size 1 rfl rfl HLN.out HBZ.out ?_; intro v2 w8 hown2 hb2 hgr2; have HO8 := Lib.hid hown2; have HS8 := Lib.hid (HSB.out w8 hb2); have hD8 := Nat.le_trans HBZ.out hb2.size; clear hown2 hb2 hgr2 b0 b1 b2 b3 b4 hxl)
          go_roundw
          case rel => exact ⟨N, p, f, _, rfl, by omega, by omega, by rw [List.length_append, List.length_singleton]; omega, hpl, HRE, hD8, HS8, HO8⟩
          case measure => simp [intOf]; omega
end Go.Proofs.YtmhjmoeeahepaaaGreat

/- Layer 27: Tokens: faults caught. -/
namespace Go.Proofs.YtmhjmoeeahepaaaGreat
open Go.ChangeShapes Go.WideShapes Go.ChangeAt Go.RowKit
set_option linter.unusedVariables false
set_option linter.unusedSimpArgs false
set_option maxRecDepth 100000
open Bits hiding packF pack_length
open RunsMath KraftMath CanonMath TurnMath Pm Two
theorem catch27_no (p q : Addr) (w : World) :
    CallsD Tryz.prog 30 #[.pointer (some p), .pointer (some q)] .returning w fun e u' w' => e = .returned (.tuple #[]) ∧ u' = .returning ∧ w' = w := by
  refine callsD_of_wpS Tryz.func30 rfl fun c₀ cs hu => ?_
  apply wpS_seq
  apply wpS_region
  simp [wpOpsS, go_sem, recoverD, hu, Tryz.ntmps30, Exit.thenS]
  refine wpS_of_wp ?_
  go_wp2_with fail
  cases c₀
  simp_all [bodyPostS, results, Tryz.results30]
theorem catch27_yes (gl ge : Nat) (x y : Value) (E : Int) (older : List PanicEntry) (w : World) (tl te : TypeId) (hl : w.heap[gl]? = some (.cells #[x] tl (0, 0))) (he : w.heap[ge]? = some (.cells #[y] te (0, 0))) (hne : gl ≠ ge) :
    CallsD Tryz.prog 30 #[.pointer (some ⟨gl, 0, none⟩), .pointer (some ⟨ge, 0, none⟩)] (.panicking (flt27 E :: older)) w fun e u' w' =>
      e = .returned (.tuple #[]) ∧ u' = .panicking ({ flt27 E with recovered := true } :: older) ∧ ∃ wz, Below w.heap.size w wz ∧ w' = (wz.setCell ⟨gl, 0, none⟩ (.slice none 0 0)).setCell ⟨ge, 0, none⟩ (.int .i64 E) := by
  refine callsD_of_wpS Tryz.func30 rfl fun c₀ cs hu => ?_
  apply wpS_seq
  apply wpS_region
  unfold flt27 at hu
  simp [wpOpsS, go_sem, recoverD, hu, Tryz.ntmps30, Exit.thenS, flt27]
  refine wpS_of_wp ?_
  have CT := Lib.hid (fun W => t27Told E W)
  go_wp2_with fail
  refine (CT.out _).mono ?_; rintro e w1 ⟨rfl, hb1⟩
  have h1 := (hb1.block gl (block_lt hl)).trans hl
  have h2 := (hb1.block ge (block_lt he)).trans he
  have c0 := cell_in h1 0
  have c1 := cell_in h2 0
  have f0 := free_in h1 0
  have f1 := free_in h2 0
  have hne' : ¬ ge = gl := fun e => hne e.symm
  simp only [List.getElem?_toArray, List.getElem?_cons_zero] at c0 c1
  have HB := Lib.hid hb1
  clear hb1 h1 h2 hl he CT
  go_wp2_with fail
  refine ⟨rfl, _, rfl, .tuple #[], ?_, rfl, rfl, w1, HB.out, rfl⟩
  simp [results, Tryz.results30, go_sem]
set_option maxHeartbeats 1600000 in
theorem cTokArg (S : ByteArray) (raw : Int) (hraw : raw < 1 ∨ 65536 < raw) (w : World) :
    Calls Tryz.prog 13 #[.string S, .int .i64 raw] w fun e w' => e = .returned (.tuple #[.slice none 0 0, .int .i64 1]) ∧ Below w.heap.size w w' := by
  have hmf : ∀ (fn : Fn) (first cap : Array Value) (w : World), (Instr.makeFunc fn first cap).run Tryz.prog w = .ok (.func fn first cap) w := fun _ _ _ _ => rfl
  have q0 := cell_in (heap_two_first w (.cells #[.slice none 0 0] 22) (.cells #[.int .i64 1] 24)) 0
  have q1 := cell_in (heap_two_last w (.cells #[.slice none 0 0] 22) (.cells #[.int .i64 1] 24)) 0
  simp only [List.getElem?_toArray, List.getElem?_cons_zero] at q0 q1
  have HB := Lib.hid (((Below.refl _ w).alloc (Nat.le_refl _) (.cells #[.slice none 0 0] 22)).alloc (by simp) (.cells #[.int .i64 1] 24))
  by_cases h1 : raw < 1
  · have hd : decide (raw < 1) = true := by simpa using h1
    go_enter_defers Tryz.func13, Tryz.ntmps13
    go_wp2
    simp [bodyPostD, Leaves, settle, results, Tryz.results13, go_sem, q0, q1]
    exact HB.out
  · have h2 : 65536 < raw := by omega
    have hd : decide (raw < 1) = false := by simpa using h1
    have hd2 : decide (65536 < raw) = true := by simpa using h2
    go_enter_defers Tryz.func13, Tryz.ntmps13
    go_wp2
    simp [bodyPostD, Leaves, settle, results, Tryz.results13, go_sem, q0, q1]
    exact HB.out
def EndK (R : FR) (w0 : World) (v : Value) (E : Int) (w' : World) : Prop :=
  match R with
  | .bad F => v = .slice none 0 0 ∧ E = F
  | .good l => E = 0 ∧ OwnK w0.heap.size w' v l
set_option maxHeartbeats 3200000 in
theorem cTokAll (w0 : World) (S : ByteArray) (hS : S.size ≤ maxLen / 16) (raw : Nat) (h1 : 1 ≤ raw) (h2 : raw ≤ 65536) (R : FR)
    (C : ∀ W g, IsReader W g S.data.toList 0 → Calls Tryz.prog 32 #[.pointer (some ⟨g, 0, none⟩), .int .i64 raw] W (EndF R W g)) :
    Calls Tryz.prog 13 #[.string S, .int .i64 raw] w0 fun e w' => ∃ v E, e = .returned (.tuple #[v, .int .i64 E]) ∧ Below w0.heap.size w0 w' ∧ EndK R w0 v E w' := by
  have hmf : ∀ (fn : Fn) (first cap : Array Value) (w : World), (Instr.makeFunc fn first cap).run Tryz.prog w = .ok (.func fn first cap) w := fun _ _ _ _ => rfl
  have HC := Lib.hid C
  have CN := Lib.hid (fun W => rNew S hS W)
  have h3 : ¬ (raw : Int) < 1 := by omega
  have h4 : ¬ (65536 : Int) < (raw : Int) := by omega
  clear C hS
  go_enter_defers Tryz.func13, Tryz.ntmps13
  go_wp2_with fail
  have hx := heap_two_first w0 (.cells #[.slice none 0 0] 22) (.cells #[.int .i64 0] 24)
  have hy := heap_two_last w0 (.cells #[.slice none 0 0] 22) (.cells #[.int .i64 0] 24)
  have hb1 : Below w0.heap.size w0 ((w0.alloc (.cells #[.slice none 0 0] 22)).alloc (.cells #[.int .i64 0] 24)) := ((Below.refl _ w0).alloc (Nat.le_refl _) _).alloc (by simp) _
  obtain ⟨w1, hw1⟩ : ∃ w1, (w0.alloc (.cells #[.slice none 0 0] 22)).alloc (.cells #[.int .i64 0] 24) = w1 := ⟨_, rfl⟩
  have hsz : w1.heap.size = w0.heap.size + 2 := by rw [← hw1]; simp
  rw [hw1] at hx hy hb1 ⊢
  obtain ⟨gl, hgl2⟩ : ∃ gl, w0.heap.size = gl := ⟨_, rfl⟩
  have hy2 := hy
  rw [hgl2] at hx hy2 ⊢
  have HB1 := Lib.hid hb1
  have HGL := Lib.hid hgl2
  have HSZ := Lib.hid hsz
  clear hw1 hy hb1 hgl2 hsz
  refine (CN.out w1).mono ?_; rintro e w2 ⟨rfl, hr2, hb2, hz2⟩
  have hx := (hb2.block gl (block_lt hx)).trans hx
  have hy2 := (hb2.block (gl + 1) (block_lt hy2)).trans hy2
  have HB1 := Lib.hid (HB1.out.trans (hb2.mono HB1.out.size))
  have hgl : gl + 1 < w1.heap.size := by have := HSZ.out; have := HGL.out; omega
  obtain ⟨g, hg⟩ : ∃ g, w1.heap.size + 1 = g := ⟨_, rfl⟩
  rw [hg] at hr2 ⊢
  have hgl : gl + 1 < g := by omega
  have hgw : w0.heap.size ≤ g := by have := HGL.out; omega
  have C1 := Lib.hid (HC.out w2 g hr2)
  clear hr2 hb2 hz2 hg CN HC HSZ
  go_wp2_with fail
  cases R with
  | bad F =>
    refine C1.out.mono ?_; rintro e w3 ⟨rfl, hk2⟩
    have hx2 := (hk2.block gl (block_lt hx) (by show ¬ gl = g; omega)).trans hx
    have hy3 := (hk2.block (gl + 1) (block_lt hy2) (by show ¬ gl + 1 = g; omega)).trans hy2
    have HK := Lib.hid hk2
    have HX2 := Lib.hid hx2
    have HY2 := Lib.hid hy3
    clear hx2 hy3 hk2 C1 hx hy2
    go_wp2_with fail
    refine leaves_cons (f := 30) (args := #[.pointer (some ⟨gl, 0, none⟩), .pointer (some ⟨gl + 1, 0, none⟩)]) (by simp) (by simp [go_sem]) ?_
    refine (catch27_yes gl (gl + 1) _ _ F [] w3 _ _ HX2.out HY2.out (by omega)).mono ?_
    rintro e u' w4 ⟨rfl, rfl, wz, hbz, rfl⟩
    have hxz := (hbz.block gl (block_lt HX2.out)).trans HX2.out
    have hyz := (hbz.block (gl + 1) (block_lt HY2.out)).trans HY2.out
    have hx4 := (heap_setCell_other (wz.setCell ⟨gl, 0, none⟩ (.slice none 0 0)) ⟨gl + 1, 0, none⟩ gl (.int .i64 F) (by show gl ≠ gl + 1; omega)).trans (block_set hxz 0 (.slice none 0 0))
    have hy4 := block_set ((heap_setCell_other wz ⟨gl, 0, none⟩ (gl + 1) (.slice none 0 0) (by show gl + 1 ≠ gl; omega)).trans hyz) 0 (.int .i64 F)
    have q0 : ((wz.setCell ⟨gl, 0, none⟩ (.slice none 0 0)).setCell ⟨gl + 1, 0, none⟩ (.int .i64 F)).cell? ⟨gl, 0, none⟩ = some (.slice none 0 0) := cell_in hx4 0
    have q1 : ((wz.setCell ⟨gl, 0, none⟩ (.slice none 0 0)).setCell ⟨gl + 1, 0, none⟩ (.int .i64 F)).cell? ⟨gl + 1, 0, none⟩ = some (.int .i64 F) := cell_in hy4 0
    have HKE := Lib.hid (show Below w0.heap.size w0 ((wz.setCell ⟨gl, 0, none⟩ (.slice none 0 0)).setCell ⟨gl + 1, 0, none⟩ (.int .i64 F)) from by
      have h1 : Keeps (fun k => k = g) w0 w3 := (show Keeps (fun k => k = g) w0 w2 from Keeps.of_below HB1.out).trans HK.out
      have h2 : Below w0.heap.size w0 w3 := h1.below (fun k hk => ⟨hk, by show ¬ k = g; omega⟩)
      have h3 : Below w0.heap.size w0 wz := h2.trans (hbz.mono h1.size)
      exact (h3.setCell (p := ⟨gl, 0, none⟩) (by show w0.heap.size ≤ gl; have := HGL.out; omega) _).setCell (p := ⟨gl + 1, 0, none⟩) (by show w0.heap.size ≤ gl + 1; have := HGL.out; omega) _)
    clear hxz hyz hx4 hy4
    simp [Leaves, settle, results, Tryz.results13, go_sem, q0, q1, flt27]
    exact ⟨_, _, ⟨rfl, rfl⟩, HKE.out, rfl, rfl⟩
  | good l =>
    refine C1.out.mono ?_; rintro e w3 ⟨v, rfl, ho3, hk2⟩
    obtain ⟨pv, cv, hv⟩ := OwnS.slice ho3
    obtain ⟨lv, hlv⟩ : ∃ lv, l.length = lv := ⟨_, rfl⟩
    rw [hlv] at hv
    subst hv
    clear hlv
    have hx2 := (hk2.block gl (block_lt hx) (by show ¬ gl = g; omega)).trans hx
    have hy3 := (hk2.block (gl + 1) (block_lt hy2) (by show ¬ gl + 1 = g; omega)).trans hy2
    have c0 := cell_in hx2 0
    have c1 := cell_in hy3 0
    have f0 := free_in hx2 0
    have f1 := free_in hy3 0
    simp only [List.getElem?_toArray, List.getElem?_cons_zero] at c0 c1
    have hx4 := (heap_setCell_other (w3.setCell ⟨gl, 0, none⟩ (.slice pv lv cv)) ⟨gl + 1, 0, none⟩ gl (.int .i64 0) (by show gl ≠ gl + 1; omega)).trans (block_set hx2 0 (.slice pv lv cv))
    have hy4 := block_set ((heap_setCell_other w3 ⟨gl, 0, none⟩ (gl + 1) (.slice pv lv cv) (by show gl + 1 ≠ gl; omega)).trans hy3) 0 (.int .i64 0)
    have q0 : ((w3.setCell ⟨gl, 0, none⟩ (.slice pv lv cv)).setCell ⟨gl + 1, 0, none⟩ (.int .i64 0)).cell? ⟨gl, 0, none⟩ = some (.slice pv lv cv) := cell_in hx4 0
    have q1 : ((w3.setCell ⟨gl, 0, none⟩ (.slice pv lv cv)).setCell ⟨gl + 1, 0, none⟩ (.int .i64 0)).cell? ⟨gl + 1, 0, none⟩ = some (.int .i64 0) := cell_in hy4 0
    have HKE := Lib.hid (show Below w0.heap.size w0 ((w3.setCell ⟨gl, 0, none⟩ (.slice pv lv cv)).setCell ⟨gl + 1, 0, none⟩ (.int .i64 0)) from by
      have h1 : Keeps (fun k => k = g) w0 w3 := (show Keeps (fun k => k = g) w0 w2 from Keeps.of_below HB1.out).trans hk2
      have h2 : Below w0.heap.size w0 w3 := h1.below (fun k hk => ⟨hk, by show ¬ k = g; omega⟩)
      exact (h2.setCell (p := ⟨gl, 0, none⟩) (by show w0.heap.size ≤ gl; have := HGL.out; omega) _).setCell (p := ⟨gl + 1, 0, none⟩) (by show w0.heap.size ≤ gl + 1; have := HGL.out; omega) _)
    have hlo := block_lt hy2
    have HO5 := Lib.hid (show OwnK w0.heap.size ((w3.setCell ⟨gl, 0, none⟩ (.slice pv lv cv)).setCell ⟨gl + 1, 0, none⟩ (.int .i64 0)) (.slice pv lv cv) l from ((ho3.setLow (p := ⟨gl, 0, none⟩) (by show gl < w2.heap.size; omega) (.slice pv lv cv)).setLow (p := ⟨gl + 1, 0, none⟩) (by show gl + 1 < w2.heap.size; omega) _).base HB1.out.size)
    clear hx4 hy4 hx2 hy3 hk2 ho3 C1 hx hy2
    go_wp2_with fail
    refine leaves_cons (f := 30) (args := #[.pointer (some ⟨gl, 0, none⟩), .pointer (some ⟨gl + 1, 0, none⟩)]) (by simp) (by simp [go_sem]) ?_
    refine (catch27_no ⟨gl, 0, none⟩ ⟨gl + 1, 0, none⟩ _).mono ?_
    rintro e u' w4 ⟨rfl, rfl, rfl⟩
    simp [Leaves, settle, results, Tryz.results13, go_sem, q0, q1]
    exact ⟨_, _, ⟨rfl, rfl⟩, HKE.out, rfl, HO5.out⟩
end Go.Proofs.YtmhjmoeeahepaaaGreat

/- Layer 27: mathematics: what is written is read back; what lacks its end is too short. -/
namespace Go.Proofs.YtmhjmoeeahepaaaGreat
set_option linter.unusedVariables false
set_option linter.unusedSimpArgs false
set_option maxRecDepth 100000
open Bits hiding packF pack_length
open RunsMath KraftMath CanonMath TurnMath Pm
/-- A code is met. -/
theorem next_hit {l : List Int} {L s : Nat} (h : check l 16 = 0) (hL : ∀ s, s < l.length → len l s ≤ L) (hL16 : L ≤ 16) (hL1 : 1 ≤ L) (hs : s < l.length) (h0 : len l s ≠ 0) (rest : List Bool) :
    nextL l L (msb (code l s) (len l s) ++ rest) = (((s : Nat) : Int), ((len l s : Nat) : Int), 0) := by
  rw [next_dec h hL hL16 hL1 _ (fun _ _ => trivial)]
  refine decL_hit h ⟨hs, h0, ?_⟩
  unfold begL
  have e : (msb (code l s) (len l s) ++ rest).take (msb (code l s) (len l s)).length = msb (code l s) (len l s) := List.take_left' rfl
  rw [e, decide_eq_true rfl, decide_eq_true (by rw [List.length_append]; omega)]
  rfl
/-- A code that lacks its end. -/
theorem next_cut {l : List Int} {L s c : Nat} (h : check l 16 = 0) (hL : ∀ s, s < l.length → len l s ≤ L) (hL16 : L ≤ 16) (hL1 : 1 ≤ L) (hs : s < l.length) (hc : c < len l s) :
    nextL l L ((msb (code l s) (len l s)).take c) = (0, 0, 3) := by
  rw [next_dec h hL hL16 hL1 _ (fun _ _ => trivial)]
  have hlc : ((msb (code l s) (len l s)).take c).length = c := by rw [List.length_take, msb_len]; omega
  refine dec_short9 h (fun t ht => ?_) hs (by rw [hlc]; exact hc)
  obtain ⟨t1, t2, t3, t4⟩ := (hit_iff h).1 ht
  rw [hlc] at t3
  rw [List.take_take, Nat.min_eq_left t3] at t4
  have h1 : Hit l (msb (code l s) (len l s)) t := (hit_iff h).2 ⟨t1, t2, by rw [msb_len]; omega, t4⟩
  have h2 : Hit l (msb (code l s) (len l s)) s := (hit_iff h).2 ⟨hs, by omega, by rw [msb_len]; exact Nat.le_refl _, by
    have e : (msb (code l s) (len l s)).take (len l s) = msb (code l s) (len l s) := List.take_of_length_le (by rw [msb_len]; exact Nat.le_refl _)
    rw [e, val_msb _ _ (ok_c h hs)]⟩
  have := hit_one h h1 h2
  subst this
  omega
theorem take_lo {α : Type} {a b : List α} {n : Nat} (h : n ≤ a.length) : (a ++ b).take n = a.take n := by rw [List.take_append_of_le_length h]
theorem take_hi {α : Type} {a b : List α} {n : Nat} (h : a.length ≤ n) : (a ++ b).take n = a ++ b.take (n - a.length) := by
  rw [List.take_append]
  rw [List.take_of_length_le h]
/-- Runs that lack their end. -/
theorem rd_cut {r : List Run} (h : RunsOk r) (n : Nat) : ∀ (q p : List Run) (A : List Bool) (m f c : Nat), p ++ q = r → m + sumM q = n → q.length < f → (p = [] → ∀ x ∈ q.head?, x.1 ≠ 16) → c < (q.flatMap (runB (ofR r))).length →
    rdR (ofR r) (A ++ (q.flatMap (runB (ofR r))).take c) n f A.length m p = .bad 3 := by
  intro q
  induction q with
  | nil => intro p A m f c hp hm hf h16 hc; simp at hc
  | cons x q ih =>
    intro p A m f c hp hm hf h16 hc
    obtain ⟨f, rfl⟩ : ∃ f', f = f' + 1 := ⟨f - 1, by simp at hf; omega⟩
    have hx : x ∈ r := by rw [← hp]; simp
    have h1 := many_1 h hx
    rw [sumM_cons] at hm
    obtain ⟨s, hs, hs19, hl1, hl7, k, hk, hkE, -⟩ := h.sym hx
    have hc16 := h.chk16
    have hrl := run_len h hx
    have hmi : ¬ n ≤ m := by omega
    rw [List.flatMap_cons] at hc ⊢
    rw [List.length_append] at hc
    by_cases hcr : (runB (ofR r) x).length ≤ c
    · rw [take_hi hcr]
      obtain ⟨T, hT⟩ : ∃ T, (q.flatMap (runB (ofR r))).take (c - (runB (ofR r) x).length) = T := ⟨_, rfl⟩
      have hN := next_run h hx T
      have hd : nextL (ofR r) 7 ((A ++ (runB (ofR r) x ++ T)).drop A.length) = (x.1, ((len (ofR r) x.1.toNat : Nat) : Int), 0) := by rw [List.drop_left]; exact hN
      have hpk : ((peek ((A ++ (runB (ofR r) x ++ T)).drop (A.length + ((len (ofR r) x.1.toNat : Nat) : Int).toNat)) (extra x.1) : Nat) : Int) = x.2 := by
        rw [Int.toNat_natCast, ← List.drop_drop, List.drop_left]
        unfold runB bitsS
        rw [List.append_assoc, drop_len _ _ _ (msb_len _ _), peek_put _ _ _ (by rw [hk, Int.toNat_natCast]; exact hkE), hk, Int.toNat_natCast]
      rw [hT, rdR_step _ _ _ _ _ _ _ hmi _ _ _ hd, if_neg (by simp), hpk, if_neg (by
        rw [List.length_append, List.length_append, hrl, Int.toNat_natCast]; omega), if_neg (by
        rintro ⟨e1, e2⟩
        exact h16 e2 x (by simp) e1), if_neg (by show ¬ n < m + many x; omega)]
      have ih := ih (p ++ [x]) (A ++ runB (ofR r) x) (m + many x) f (c - (runB (ofR r) x).length) (by simpa using hp) (by omega) (by simp at hf; omega) (fun e => by simp at e) (by omega)
      rw [List.length_append, hrl] at ih
      have e1 : A.length + ((len (ofR r) x.1.toNat : Nat) : Int).toNat + extra x.1 = A.length + (len (ofR r) x.1.toNat + extra x.1) := by rw [Int.toNat_natCast]; omega
      rw [e1, ← List.append_assoc]
      rw [hrl] at hT
      rw [hT] at ih
      exact ih
    · have hcr : c < (runB (ofR r) x).length := by omega
      rw [take_lo (by omega)]
      have hsl : s < (ofR r).length := by rw [ofR_len]; exact hs19
      rw [hrl, hs, Int.toNat_natCast] at hcr
      by_cases hcc : c < len (ofR r) s
      · have e : (runB (ofR r) x).take c = (msb (code (ofR r) s) (len (ofR r) s)).take c := by
          unfold runB bitsS
          rw [hs, Int.toNat_natCast, take_lo (by rw [msb_len]; omega)]
        have hN := next_cut hc16.1 hc16.2 (by decide) (by decide) hsl hcc
        rw [e, rdR_step _ _ _ _ _ _ _ hmi 0 0 3 (by rw [List.drop_left]; exact hN), if_pos (by decide)]
      · have e : (runB (ofR r) x).take c = msb (code (ofR r) s) (len (ofR r) s) ++ (bitsOf x.2.toNat (extra x.1)).take (c - len (ofR r) s) := by
          unfold runB bitsS
          rw [hs, Int.toNat_natCast, take_hi (by rw [msb_len]; omega), msb_len]
        obtain ⟨T, hT⟩ : ∃ T, (bitsOf x.2.toNat (extra x.1)).take (c - len (ofR r) s) = T := ⟨_, rfl⟩
        have hTl : T.length ≤ c - len (ofR r) s := by rw [← hT, List.length_take]; omega
        have hN := next_hit hc16.1 hc16.2 (by decide) (by decide) hsl (by omega) T
        have hd2 : nextL (ofR r) 7 ((A ++ (msb (code (ofR r) s) (len (ofR r) s) ++ T)).drop A.length) = ((s : Int), ((len (ofR r) s : Nat) : Int), 0) := by rw [List.drop_left]; exact hN
        rw [e, hT, rdR_step _ _ _ _ _ _ _ hmi _ _ _ hd2, if_neg (by simp), if_pos]
        rw [List.length_append, List.length_append, msb_len, Int.toNat_natCast]
        omega
/-- The head of a table, anywhere. -/
theorem head_at {r : List Run} (hR : RunsOk r) (P T : List Bool) :
    peek ((P ++ (headB (ofR r) ++ T)).drop P.length) 4 + 4 = headN (ofR r) 19 ∧ headO ((P ++ (headB (ofR r) ++ T)).drop (P.length + 4)) (headN (ofR r) 19) = ofR r ∧ (headB (ofR r)).length = 4 + 3 * headN (ofR r) 19 := by
  obtain ⟨k, hk⟩ : ∃ k, headN (ofR r) 19 = k := ⟨_, rfl⟩
  have hk4 : 4 ≤ k := by rw [← hk]; exact headN_ge (ofR r) 19 (by decide)
  have hk19 : k ≤ 19 := by rw [← hk]; exact headN_le (ofR r) 19
  have hW : headB (ofR r) ++ T = bitsOf (k - 4) 4 ++ ((List.range k).flatMap (lenB (ofR r)) ++ T) := by
    unfold headB headTo
    rw [hk]
    simp only [List.append_assoc]
  refine ⟨?_, ?_, headTo_len _ _ _⟩
  · rw [List.drop_left, hW, peek_put _ _ _ (by omega), hk]; omega
  · rw [← List.drop_drop, List.drop_left, hW, drop_len _ _ _ (by rw [bitsOf_length])]
    rw [← hk]
    exact headO_of hR _
theorem read_facts {l : List Int} (h0 : l ≠ []) (hl : l.length ≤ 1024) (hok : okB l = true) (r : List Run) (hr : packL l = r) :
    RunsOk r ∧ unpack r l.length = (0, l) ∧ sumM r = l.length ∧ r.length ≤ l.length ∧ ∀ x ∈ r.head?, x.1 ≠ 16 := by
  have hR : RunsOk r := by rw [← hr]; exact pack_ok h0 hl hok
  have hbd := (okB_iff l).1 hok
  have hpl : packL l = packF l.length (-1) l := by unfold packL; rw [if_pos hok]
  have hun : unpack r l.length = (0, l) := by
    unfold unpack
    rw [if_neg (by omega), Int.toNat_natCast, ← hr]
    have := unp_pack l.length l.length [] (-1) 0 l (Nat.le_refl _) hbd (by simp) (.inr rfl)
    rw [hpl]
    simpa using this
  have hsum := unp_sum l.length r [] 0 l (by
    have := hun
    unfold unpack at this
    rw [if_neg (by omega), Int.toNat_natCast] at this
    exact this) (by simp)
  refine ⟨hR, hun, by simpa using hsum, by rw [← hr, hpl]; exact RunsMath.pack_length _ _ _ (Nat.le_refl _) hbd, by rw [← hr, hpl]; exact pack_head hbd⟩
/-- Runs of 24 lengths or more have eight bits at least. -/
theorem runs_8 {r : List Run} (h : RunsOk r) (hn : 24 ≤ sumM r) : 8 ≤ (r.flatMap (runB (ofR r))).length := by
  have key : ∀ q : List Run, (∀ x ∈ q, x ∈ r) → 8 ≤ (q.flatMap (runB (ofR r))).length ∨ sumM q ≤ 3 * (q.flatMap (runB (ofR r))).length := by
    intro q
    induction q with
    | nil => intro _; exact .inr (by simp [sumM])
    | cons x q ih =>
      intro hq
      have hx : x ∈ r := hq x (by simp)
      have ih := ih (fun y hy => hq y (by simp [hy]))
      have hrl := run_len h hx
      obtain ⟨s, hs, hs19, hl1, hl7, k, hk, hkE, -⟩ := h.sym hx
      rw [hs, Int.toNat_natCast] at hrl
      rw [List.flatMap_cons, List.length_append, sumM_cons, hrl]
      rcases ih with ih | ih
      · exact .inl (by omega)
      · have hE : many x ≤ 3 * (len (ofR r) s + extra (s : Int)) ∨ 8 ≤ len (ofR r) s + extra (s : Int) := by
          rw [hs] at hkE
          have hmE : many x = if (s : Int) = 16 ∨ (s : Int) = 17 then 3 + k else if (s : Int) = 18 then 11 + k else 1 := by unfold many; rw [hs, hk, Int.toNat_natCast]
          rw [hmE]
          by_cases e16 : s = 16
          · subst e16
            have : extra ((16 : Nat) : Int) = 2 := by decide
            rw [this] at hkE ⊢; rw [if_pos (by decide)]; omega
          · by_cases e17 : s = 17
            · subst e17
              have : extra ((17 : Nat) : Int) = 3 := by decide
              rw [this] at hkE ⊢; rw [if_pos (by decide)]; omega
            · by_cases e18 : s = 18
              · subst e18
                have : extra ((18 : Nat) : Int) = 7 := by decide
                rw [this]; omega
              · rw [if_neg (by omega), if_neg (by omega)]; omega
        omega
  rcases key r (fun x h => h) with h | h <;> omega
end Go.Proofs.YtmhjmoeeahepaaaGreat

/- Layer 27: mathematics: tokens are read back. -/
namespace Go.Proofs.YtmhjmoeeahepaaaGreat
set_option linter.unusedVariables false
set_option linter.unusedSimpArgs false
set_option maxRecDepth 100000
open Bits hiding packF pack_length
open RunsMath KraftMath CanonMath TurnMath Pm
theorem numR_back {ex tb wide : Nat → Nat} (A rest : List Bool) (k v : Nat) (hv : v < 2 ^ ex k) (hw : wide k = 2 ^ ex k) : numR ex tb wide (A ++ (bitsOf v (ex k) ++ rest)) A.length k = .good (tb k + v) (A.length + ex k) := by
  have hp : peek ((A ++ (bitsOf v (ex k) ++ rest)).drop A.length) (ex k) = v := by rw [List.drop_left, peek_put _ _ _ hv]
  unfold numR
  rw [if_neg (by rw [List.length_append, List.length_append, bitsOf_length]; omega), hp, if_pos (by omega)]
theorem numR_cut {ex tb wide : Nat → Nat} (A : List Bool) (k v c : Nat) (hc : c < ex k) : numR ex tb wide (A ++ (bitsOf v (ex k)).take c) A.length k = .bad 3 := by
  unfold numR
  rw [if_pos]
  rw [List.length_append, List.length_take]; omega
theorem tokR_hit {M : List Int} {D : Option (List Int)} {L : List Bool} {t : Nat} {X Y : Int} (hX : nextL M 15 (L.drop t) = (X, Y, 0)) :
    tokR M D L t = if X < 256 then .good ⟨0, X, 0, 0, 0⟩ (t + Y.toNat) else match numL L (t + Y.toNat) (Tok.ofS X).toNat with
      | .bad E => .bad E
      | .good n p => if X < 285 then (match D with
          | none => .bad 4
          | some d => farR d L n p)
        else .good ⟨2, 0, (n : Int), 0, (X - 285) / 29⟩ p := by
  unfold tokR
  rw [hX]
  simp only [ne_eq, not_true_eq_false, if_false]
  rfl
theorem tokR_err {M : List Int} {D : Option (List Int)} {L : List Bool} {t : Nat} {X Y E : Int} (hX : nextL M 15 (L.drop t) = (X, Y, E)) (hE : E ≠ 0) : tokR M D L t = .bad (musE E) := by
  unfold tokR
  rw [hX]
  simp only
  rw [if_pos hE]
theorem farR_hit {d : List Int} {L : List Bool} {n t : Nat} {X Y : Int} (hX : nextL d 15 (L.drop t) = (X, Y, 0)) :
    farR d L n t = match numD L (t + Y.toNat) X.toNat with
      | .bad E => .bad E
      | .good m p => .good ⟨1, 0, (n : Int), (m : Int), 0⟩ p := by
  unfold farR
  rw [hX]
  simp only [ne_eq, not_true_eq_false, if_false]
  rfl
theorem farR_err {d : List Int} {L : List Bool} {n t : Nat} {X Y E : Int} (hX : nextL d 15 (L.drop t) = (X, Y, E)) (hE : E ≠ 0) : farR d L n t = .bad (musE E) := by
  unfold farR
  rw [hX]
  simp only
  rw [if_pos hE]
theorem farR_short {d : List Int} {L : List Bool} {n t : Nat} (hX : nextL d 15 (L.drop t) = (0, 0, 3)) : farR d L n t = .bad 3 := (farR_err hX (by decide)).trans rfl
theorem tokR_short {M : List Int} {D : Option (List Int)} {L : List Bool} {t : Nat} (hX : nextL M 15 (L.drop t) = (0, 0, 3)) : tokR M D L t = .bad 3 := (tokR_err hX (by decide)).trans rfl
theorem ok_copy {l d : Nat} (hl : 2 ≤ l ∧ l ≤ 258) (hd : 1 ≤ d ∧ d ≤ 67108864) : Tok.OkTok 1 0 (l : Int) (d : Int) 0 := .inr (.inl ⟨rfl, by omega, by omega, by omega, by omega, rfl, rfl⟩)
theorem ok_rep {l r : Nat} (hl : 2 ≤ l ∧ l ≤ 258) (hr : r ≤ 3) : Tok.OkTok 2 0 (l : Int) 0 (r : Int) := .inr (.inr ⟨rfl, by omega, by omega, by omega, by omega, rfl, rfl⟩)
theorem bitsS_at (l : List Int) (s : Nat) : bitsS l (s : Int) = msb (code l s) (len l s) := by unfold bitsS; rw [Int.toNat_natCast]
theorem hit15 {l : List Int} {s : Nat} (h : check l 15 = 0) (hs : s < l.length) (h0 : 0 < len l s) (rest : List Bool) : nextL l 15 (bitsS l (s : Int) ++ rest) = (((s : Nat) : Int), ((len l s : Nat) : Int), 0) := by
  have h16 := check_16 h
  rw [bitsS_at]
  exact next_hit h16.1 h16.2.1 (by decide) (by decide) hs (by omega) rest
theorem cut15 {l : List Int} {s c : Nat} (h : check l 15 = 0) (hs : s < l.length) (hc : c < (bitsS l (s : Int)).length) : nextL l 15 ((bitsS l (s : Int)).take c) = (0, 0, 3) := by
  have h16 := check_16 h
  rw [bitsS_at] at hc ⊢
  rw [msb_len] at hc
  exact next_cut h16.1 h16.2.1 (by decide) (by decide) hs hc
theorem bitsS_len (l : List Int) (s : Nat) : (bitsS l (s : Int)).length = len l s := by rw [bitsS_at, msb_len]
theorem extD_eq (d : Nat) (h1 : 1 ≤ d) (h : d ≤ 67108864) : Slo.tbD (Slo.slotD d) + (d - Slo.tbD (Slo.slotD d)) = d := by have := (Slo.slotD_facts d h1 h).2.1; omega
theorem extL_eq (l : Nat) (h2 : 2 ≤ l) (h : l ≤ 258) : Slo.tbL (Tok.slotL l) + (l - Tok.tbL (Tok.slotL l)) = l := by
  have hf := Tok.slotL_facts ⟨l, by omega⟩ h2
  simp only at hf
  rw [tb_same]
  have := hf.2.1
  omega
theorem numL_back (A rest : List Bool) (l : Nat) (h2 : 2 ≤ l) (h : l ≤ 258) : numL (A ++ (extL l ++ rest)) A.length (Tok.slotL l) = .good l (A.length + (extL l).length) := by
  obtain ⟨e1, -, -⟩ := extL_lt l h2 h
  have := numR_back (ex := Tok.exL) (tb := Slo.tbL) (wide := Slo.wideL) A rest (Tok.slotL l) _ e1 rfl
  rw [extL_eq l h2 h] at this
  unfold numL extL
  rw [this, bitsOf_length]
theorem numD_back (A rest : List Bool) (d : Nat) (h1 : 1 ≤ d) (h : d ≤ 67108864) : numD (A ++ (extD d ++ rest)) A.length (Slo.slotD d) = .good d (A.length + (extD d).length) := by
  obtain ⟨e1, -, -⟩ := extD_lt d h1 h
  have := numR_back (ex := Slo.exD) (tb := Slo.tbD) (wide := Slo.wideD) A rest (Slo.slotD d) _ e1 rfl
  rw [extD_eq d h1 h] at this
  unfold numD extD
  rw [this, bitsOf_length]
theorem farR_back {D : List Int} (hD : check D 15 = 0) (ld : D.length = 52) (A rest : List Bool) (n d : Nat) (h1 : 1 ≤ d) (h : d ≤ 67108864) (hp : 0 < len D (Slo.slotD d)) :
    farR D (A ++ (bitsS D (Slo.slotD d : Int) ++ (extD d ++ rest))) n A.length = .good ⟨1, 0, (n : Int), (d : Int), 0⟩ (A.length + ((bitsS D (Slo.slotD d : Int)).length + (extD d).length)) := by
  have hs := (Slo.slotD_facts d h1 h).1
  rw [farR_hit (by rw [List.drop_left]; exact hit15 hD (by omega) hp _)]
  have e : A.length + ((len D (Slo.slotD d) : Nat) : Int).toNat = (A ++ bitsS D (Slo.slotD d : Int)).length := by rw [List.length_append, bitsS_len, Int.toNat_natCast]
  rw [e, Int.toNat_natCast, ← List.append_assoc A, numD_back _ _ d h1 h]
  simp only [List.length_append, Nat.add_assoc]
theorem farR_cut {D : List Int} (hD : check D 15 = 0) (ld : D.length = 52) (A : List Bool) (n d c : Nat) (h1 : 1 ≤ d) (h : d ≤ 67108864) (hp : 0 < len D (Slo.slotD d)) (hc : c < (bitsS D (Slo.slotD d : Int)).length + (extD d).length) :
    farR D (A ++ (bitsS D (Slo.slotD d : Int) ++ extD d).take c) n A.length = .bad 3 := by
  have hs := (Slo.slotD_facts d h1 h).1
  by_cases hcc : c < (bitsS D (Slo.slotD d : Int)).length
  · rw [take_lo (by omega), farR_short (by rw [List.drop_left]; exact cut15 hD (by omega) hcc)]
  · rw [take_hi (by omega), farR_hit (by rw [List.drop_left]; exact hit15 hD (by omega) hp _)]
    have e : A.length + ((len D (Slo.slotD d) : Nat) : Int).toNat = (A ++ bitsS D (Slo.slotD d : Int)).length := by rw [List.length_append, bitsS_len, Int.toNat_natCast]
    rw [e, Int.toNat_natCast, ← List.append_assoc A]
    unfold extD at hc ⊢
    rw [bitsOf_length] at hc
    unfold numD
    rw [numR_cut _ _ _ _ (by omega)]
theorem sym_lit {b : Int} (h : 0 ≤ b ∧ b ≤ 255) : (symN ⟨0, b, 0, 0, 0⟩ : Int) = b := by
  unfold symN Tok.symTok
  rw [if_pos (.inl ⟨rfl, h.1, h.2, rfl, rfl, rfl⟩)]
  show ((b.toNat : Nat) : Int) = b
  omega
theorem sym_copy {l d : Nat} (hl : 2 ≤ l ∧ l ≤ 258) (hd : 1 ≤ d ∧ d ≤ 67108864) : symN ⟨1, 0, (l : Int), (d : Int), 0⟩ = 256 + Tok.slotL l := by
  unfold symN Tok.symTok
  show (if Tok.OkTok 1 0 (l : Int) (d : Int) 0 then (if (1 : Int) = 0 then (0 : Int) else if (1 : Int) = 1 then 256 + (Tok.slotL (l : Int).toNat : Int) else 285 + 29 * 0 + (Tok.slotL (l : Int).toNat : Int)) else 0).toNat = _
  rw [if_pos (ok_copy hl hd), if_neg (by decide), if_pos rfl, Int.toNat_natCast]
  omega
theorem sym_rep {l r : Nat} (hl : 2 ≤ l ∧ l ≤ 258) (hr : r ≤ 3) : symN ⟨2, 0, (l : Int), 0, (r : Int)⟩ = 285 + 29 * r + Tok.slotL l := by
  unfold symN Tok.symTok
  show (if Tok.OkTok 2 0 (l : Int) 0 (r : Int) then (if (2 : Int) = 0 then (0 : Int) else if (2 : Int) = 1 then 256 + (Tok.slotL (l : Int).toNat : Int) else 285 + 29 * (r : Int) + (Tok.slotL (l : Int).toNat : Int)) else 0).toNat = _
  rw [if_pos (ok_rep hl hr), if_neg (by decide), if_neg (by decide), Int.toNat_natCast]
  omega
theorem ofS_copy {k : Nat} (h : k ≤ 28) : (Tok.ofS ((256 + k : Nat) : Int)).toNat = k := by
  unfold Tok.ofS
  rw [if_neg (by omega), if_neg (by omega), if_pos (by omega)]
  omega
theorem ofS_rep {k r : Nat} (h : k ≤ 28) (hr : r ≤ 3) : (Tok.ofS ((285 + 29 * r + k : Nat) : Int)).toNat = k := by
  unfold Tok.ofS
  rw [if_neg (by omega), if_neg (by omega), if_neg (by omega)]
  omega
/-- A token that was written is read. -/
theorem tok_back {l : List Tk} {M D : List Int} (T : Tabs l M D) {t : Tk} (ht : t ∈ l) (hok : t.ok) (D' : Option (List Int)) (hD : t.k = 1 → D' = some D) (A rest : List Bool) :
    tokR M D' (A ++ (tokB M D t ++ rest)) A.length = .good t (A.length + (tokB M D t).length) := by
  have hsM := T.sM t ht
  have hs4 := (sym_ok t hok).2.1
  have hN : ∀ r2, nextL M 15 ((A ++ (bitsS M (symN t : Int) ++ r2)).drop A.length) = (((symN t : Nat) : Int), ((len M (symN t) : Nat) : Int), 0) := fun r2 => by
    rw [List.drop_left]; exact hit15 T.okM (by rw [T.lm]; omega) hsM r2
  have hAL : A.length + ((len M (symN t) : Nat) : Int).toNat = (A ++ bitsS M (symN t : Int)).length := by rw [List.length_append, bitsS_len, Int.toNat_natCast]
  rcases tok_cases hok with ⟨b, hb, rfl⟩ | ⟨n, d, hn, hd, rfl⟩ | ⟨n, r, hn, hr, rfl⟩
  · have e : tokB M D ⟨0, b, 0, 0, 0⟩ = bitsS M (symN ⟨0, b, 0, 0, 0⟩ : Int) := by unfold tokB; rw [if_pos rfl, List.append_nil]
    rw [e, tokR_hit (hN rest), hAL, sym_lit hb, if_pos (by omega), List.length_append]
  · have hs := sym_copy hn hd
    have hk := (extL_lt n hn.1 hn.2).2.2
    rw [tokB_copy M D n d (symN ⟨1, 0, (n : Int), (d : Int), 0⟩) 0 0 rfl]
    rw [show A ++ ((bitsS M ((symN ⟨1, 0, (n : Int), (d : Int), 0⟩ : Nat) : Int) ++ extL n ++ bitsS D (Slo.slotD d : Int) ++ extD d) ++ rest) = A ++ (bitsS M ((symN ⟨1, 0, (n : Int), (d : Int), 0⟩ : Nat) : Int) ++ (extL n ++ (bitsS D (Slo.slotD d : Int) ++ (extD d ++ rest)))) by simp only [List.append_assoc]]
    rw [tokR_hit (hN _), hAL, if_neg (by rw [hs]; omega), ← List.append_assoc A]
    rw [show (Tok.ofS ((symN ⟨1, 0, (n : Int), (d : Int), 0⟩ : Nat) : Int)).toNat = Tok.slotL n by rw [hs]; exact ofS_copy hk]
    rw [numL_back _ _ n hn.1 hn.2]
    simp only
    rw [if_pos (by rw [hs]; omega), hD rfl]
    simp only
    obtain ⟨f1, f2⟩ := T.far ⟨_, ht, rfl⟩
    have fp := f2 _ ht rfl
    simp only [Int.toNat_natCast] at fp
    rw [← List.length_append, ← List.append_assoc _ (extL n)]
    rw [farR_back f1 T.ld _ _ n d hd.1 hd.2 fp]
    simp only [List.length_append, Nat.add_assoc]
  · have hs := sym_rep hn hr
    have hk := (extL_lt n hn.1 hn.2).2.2
    rw [tokB_rep M D n (symN ⟨2, 0, (n : Int), 0, (r : Int)⟩) 0 0 (r : Int) rfl]
    rw [show A ++ ((bitsS M ((symN ⟨2, 0, (n : Int), 0, (r : Int)⟩ : Nat) : Int) ++ extL n) ++ rest) = A ++ (bitsS M ((symN ⟨2, 0, (n : Int), 0, (r : Int)⟩ : Nat) : Int) ++ (extL n ++ rest)) by simp only [List.append_assoc]]
    rw [tokR_hit (hN _), hAL, if_neg (by rw [hs]; omega), ← List.append_assoc A]
    rw [show (Tok.ofS ((symN ⟨2, 0, (n : Int), 0, (r : Int)⟩ : Nat) : Int)).toNat = Tok.slotL n by rw [hs]; exact ofS_rep hk hr]
    rw [numL_back _ _ n hn.1 hn.2]
    simp only
    rw [if_neg (by rw [hs]; omega), show (((symN ⟨2, 0, (n : Int), 0, (r : Int)⟩ : Nat) : Int) - 285) / 29 = (r : Int) by rw [hs]; omega]
    simp only [List.length_append, Nat.add_assoc]
/-- A token that lacks its end. -/
theorem tok_cut {l : List Tk} {M D : List Int} (T : Tabs l M D) {t : Tk} (ht : t ∈ l) (hok : t.ok) (D' : Option (List Int)) (hD : t.k = 1 → D' = some D) (A : List Bool) (c : Nat) (hc : c < (tokB M D t).length) :
    tokR M D' (A ++ (tokB M D t).take c) A.length = .bad 3 := by
  have hsM := T.sM t ht
  have hs4 := (sym_ok t hok).2.1
  have hN : ∀ r2, nextL M 15 ((A ++ (bitsS M (symN t : Int) ++ r2)).drop A.length) = (((symN t : Nat) : Int), ((len M (symN t) : Nat) : Int), 0) := fun r2 => by
    rw [List.drop_left]; exact hit15 T.okM (by rw [T.lm]; omega) hsM r2
  have hAL : A.length + ((len M (symN t) : Nat) : Int).toNat = (A ++ bitsS M (symN t : Int)).length := by rw [List.length_append, bitsS_len, Int.toNat_natCast]
  obtain ⟨S, hS⟩ : ∃ S, tokB M D t = bitsS M (symN t : Int) ++ S := ⟨_, rfl⟩
  by_cases hc1 : c < (bitsS M (symN t : Int)).length
  · rw [hS, take_lo (by omega), tokR_short (by rw [List.drop_left]; exact cut15 T.okM (by rw [T.lm]; omega) hc1)]
  rcases tok_cases hok with ⟨b, hb, rfl⟩ | ⟨n, d, hn, hd, rfl⟩ | ⟨n, r, hn, hr, rfl⟩
  · have e : tokB M D ⟨0, b, 0, 0, 0⟩ = bitsS M (symN ⟨0, b, 0, 0, 0⟩ : Int) := by unfold tokB; rw [if_pos rfl, List.append_nil]
    rw [e] at hc
    omega
  · have hs := sym_copy hn hd
    have hk := (extL_lt n hn.1 hn.2).2.2
    rw [tokB_copy M D n d (symN ⟨1, 0, (n : Int), (d : Int), 0⟩) 0 0 rfl] at hc ⊢
    simp only [List.append_assoc] at hc ⊢
    rw [take_hi (by omega), tokR_hit (hN _), hAL, if_neg (by rw [hs]; omega), ← List.append_assoc A]
    rw [show (Tok.ofS ((symN ⟨1, 0, (n : Int), (d : Int), 0⟩ : Nat) : Int)).toNat = Tok.slotL n by rw [hs]; exact ofS_copy hk]
    obtain ⟨c1, hc1'⟩ : ∃ c1, c - (bitsS M ((symN ⟨1, 0, (n : Int), (d : Int), 0⟩ : Nat) : Int)).length = c1 := ⟨_, rfl⟩
    rw [List.length_append, List.length_append] at hc
    rw [hc1']
    by_cases hc2 : c1 < (extL n).length
    · rw [take_lo (by omega)]
      unfold extL at hc2 ⊢
      rw [bitsOf_length] at hc2
      unfold numL
      rw [numR_cut _ _ _ _ hc2]
    · rw [take_hi (by omega), numL_back _ _ n hn.1 hn.2]
      simp only
      rw [if_pos (by rw [hs]; omega), hD rfl]
      simp only
      obtain ⟨f1, f2⟩ := T.far ⟨_, ht, rfl⟩
      have fp := f2 _ ht rfl
      simp only [Int.toNat_natCast] at fp
      rw [← List.length_append, ← List.append_assoc _ (extL n)]
      rw [List.length_append] at hc
      rw [farR_cut f1 T.ld _ n d _ hd.1 hd.2 fp (by omega)]
  · have hs := sym_rep hn hr
    have hk := (extL_lt n hn.1 hn.2).2.2
    rw [tokB_rep M D n (symN ⟨2, 0, (n : Int), 0, (r : Int)⟩) 0 0 (r : Int) rfl] at hc ⊢
    rw [take_hi (by omega), tokR_hit (hN _), hAL, if_neg (by rw [hs]; omega), ← List.append_assoc A]
    rw [show (Tok.ofS ((symN ⟨2, 0, (n : Int), 0, (r : Int)⟩ : Nat) : Int)).toNat = Tok.slotL n by rw [hs]; exact ofS_rep hk hr]
    rw [List.length_append] at hc
    unfold extL at hc ⊢
    rw [bitsOf_length] at hc
    unfold numL
    rw [numR_cut _ _ _ _ (by omega)]
end Go.Proofs.YtmhjmoeeahepaaaGreat
