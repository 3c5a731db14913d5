import Derived.Test.YtipcdkemokkdfaaGreatK41
import Derived.Defers
import Derived.Recover
import Derived.Test.YtipcdkemokkdfaaGreatK35
/- Layer 27: reading: tokens one by one. -/
namespace Go.Proofs.YtipcdkemokkdfaaGreat
open Go.ChangeShapes Go.WideShapes Go.ChangeAt Go.RowKit
set_option linter.unusedVariables false
set_option linter.unusedSimpArgs false
set_option maxRecDepth 100000
open Bits hiding packF pack_length
open RunsMath KraftMath CanonMath TurnMath Pm Two
def EndF (R : FR) (w0 : World) (g : Nat) (e : Ending) (w' : World) : Prop :=
  match R with
  | .bad E => e = .panicked [flt27 E] ∧ Keeps (fun k => k = g) w0 w'
  | .good l => ∃ v, e = .returned v ∧ OwnK w0.heap.size w' v l ∧ Keeps (fun k => k = g) w0 w'
theorem T27.mono {w : World} {S S' : Nat → Prop} {gt : Nat} {l : List Int} (h : T27 w S gt l) (hS : ∀ k, S' k → S k) : T27 w S' gt l := by
  obtain ⟨B, gs, R, root, N, C, ao, short, long, hs, h1, h3, ⟨h4, h5, h6⟩, h7⟩ := h
  exact ⟨B, gs, R, root, N, C, ao, short, long, hs, h1, h3, ⟨fun e => h4 (hS _ e), fun e => h5 (hS _ e), fun k hk e => h6 k hk (hS _ e)⟩, h7⟩
theorem reader_box {w w' : World} {g a gx : Nat} {s : List UInt8} {cs : Array Value} {t : TypeId} (h : IsReader w g s a) (hx : w.heap[gx]? = some (.cells cs t (0, 0))) (hns : ∀ (j : Nat) (x : Int), cs[j]? ≠ some (Value.int .u8 x)) (hne : gx ≠ g) (hK : Keeps (fun b => b = gx) w w') : IsReader w' g s a := by
  refine reader_away h (k := gx) (fun j x e => ?_) hne hK
  rw [cell_in hx j] at e
  exact hns j x e
def rdA (g : Nat) (a b : Value) : Array Value := #[.pointer (some ⟨g, 0, none⟩), a, b]
theorem rdA_no (g : Nat) (a b : Option Addr) : ∀ (j : Nat) (x : Int), (rdA g (.pointer a) (.pointer b))[j]? ≠ some (Value.int .u8 x) := by
  intro j x e
  unfold rdA at e
  rcases j with _ | _ | _ | j <;> simp at e
/-- How the reader stands with its first table. -/
structure Tb1 (w0 w : World) (g gr gm t : Nat) (s : List UInt8) (M : List Int) (dv : Value) (D : Option (List Int)) : Prop where
  rd : Rd27 w gr g gm dv M D
  at' : IsReader w g s t
  kp : Keeps (fun k => k = g) w0 w
  new : w0.heap.size ≤ gr
theorem tb1_start {w0 w1 w2 : World} {g gr gm t : Nat} {s : List UInt8} {M : List Int} (hgr : w0.heap.size = gr) (hg : g < w0.heap.size) (h1 : w0.alloc (.cells (rdA g (.pointer none) (.pointer none)) 114) = w1) (hr : IsReader w2 g s t) (hk : Keeps (fun k => k = g) w1 w2) (hT : T27 w2 (fun k => k < w1.heap.size) gm M) (lm : M.length = 401) :
    Tb1 w0 (w2.setCell ⟨gr, 1, none⟩ (.pointer (some ⟨gm, 0, none⟩))) g gr gm t s M (.pointer none) none := by
  have hne : gr ≠ g := by omega
  have hx1 : w1.heap[gr]? = some (.cells (rdA g (.pointer none) (.pointer none)) 114 (0, 0)) := by rw [← h1, ← hgr]; exact heap_alloc_new w0 _
  have hx2 := hk.heap hx1 hne
  have hs1 : gr < w1.heap.size := block_lt hx1
  have hkg : Keeps (fun j => j = gr) w2 (w2.setCell ⟨gr, 1, none⟩ (.pointer (some ⟨gm, 0, none⟩))) := (Keeps.refl (fun j => j = gr) w2).setCell (p := ⟨gr, 1, none⟩) (.inr rfl) _
  refine ⟨⟨block_set hx2 1 _, hne, (hT.mono (S' := feet27 g gr) (fun k hk => ?_)).keeps (hkg.mono (fun k _ e => .inr e)), rfl, lm⟩, reader_box hr hx2 (rdA_no g none none) hne hkg, ?_, by omega⟩
  · rcases hk with e | e
    · show k < w1.heap.size; omega
    · show k < w1.heap.size; omega
  · have hb : Below w0.heap.size w0 w1 := by rw [← h1]; exact (Below.refl _ w0).alloc (Nat.le_refl _) _
    exact ((show Keeps (fun k => k = g) w0 w1 from Keeps.of_below hb).trans hk).setCell (.inl (by show w0.heap.size ≤ gr; omega)) _
theorem tb1_go {w0 w w' : World} {g gr gm t t' : Nat} {s : List UInt8} {M : List Int} {dv : Value} {D : Option (List Int)} (h : Tb1 w0 w g gr gm t s M dv D) (hr : IsReader w' g s t') (hk : Keeps (fun k => k = g) w w') : Tb1 w0 w' g gr gm t' s M dv D :=
  ⟨h.rd.keeps hk, hr, h.kp.trans hk, h.new⟩
theorem tb1_far {w0 w w' : World} {g gr gm gd t t' : Nat} {s : List UInt8} {M d : List Int} (h : Tb1 w0 w g gr gm t s M (.pointer none) none) (hr : IsReader w' g s t') (hk : Keeps (fun k => k = g) w w') (hT : T27 w' (fun k => k < w.heap.size) gd d) (ld : d.length = 52) :
    Tb1 w0 (w'.setCell ⟨gr, 2, none⟩ (.pointer (some ⟨gd, 0, none⟩))) g gr gm t' s M (.pointer (some ⟨gd, 0, none⟩)) (some d) := by
  have h' := tb1_go h hr hk
  have hgl : g < w.heap.size := h.at'.lt
  have hgrl : gr < w.heap.size := block_lt h.rd.bk
  have hkg : Keeps (fun j => j = gr) w' (w'.setCell ⟨gr, 2, none⟩ (.pointer (some ⟨gd, 0, none⟩))) := (Keeps.refl (fun j => j = gr) w').setCell (p := ⟨gr, 2, none⟩) (.inr rfl) _
  refine ⟨⟨block_set h'.rd.bk 2 _, h'.rd.ne, h'.rd.tm.keeps (hkg.mono (fun k _ e => .inr e)), ⟨gd, rfl, (hT.mono (S' := feet27 g gr) (fun k hk => ?_)).keeps (hkg.mono (fun k _ e => .inr e)), ld⟩, h'.rd.lm⟩, reader_box hr (show w'.heap[gr]? = some (.cells (rdA g (.pointer (some ⟨gm, 0, none⟩)) (.pointer none)) 114 (0, 0)) from h'.rd.bk) (rdA_no g _ none) h'.rd.ne hkg, h'.kp.setCell (.inl h'.new) _, h'.new⟩
  rcases hk with e | e
  · show k < w.heap.size; omega
  · show k < w.heap.size; omega
set_option maxHeartbeats 3200000 in
theorem read27No1 (w0 : World) (g raw : Nat) (s : List UInt8) (hr : IsReader w0 g s 0) (E : Int) (hE : E ≠ 0) (C : Rdt g 0 401 s (.bad E)) :
    Calls Tryz.prog 31 #[.pointer (some ⟨g, 0, none⟩), .int .i64 raw] w0 (EndF (.bad (musE E)) w0 g) := by
  have HC := Lib.hid C
  have HR := Lib.hid hr
  clear C hr
  go_enter Tryz.func31, Tryz.ntmps31
  go_wp2_with fail
  have hb := (Below.refl w0.heap.size w0).alloc (Nat.le_refl _) (.cells (rdA g (.pointer none) (.pointer none)) 114)
  have HX := Lib.hid (heap_alloc_new w0 (.cells (rdA g (.pointer none) (.pointer none)) 114))
  have C1 := Lib.hid (tab27No _ w0.heap.size g 0 401 10 s (cell_in HX.out 0) (HR.out.kept hb) E hE HC.out)
  have HB := Lib.hid hb
  clear hb
  refine C1.out.mono ?_; rintro e w1 ⟨rfl, hk⟩
  have HK := Lib.hid ((show Keeps (fun k => k = g) w0 _ from Keeps.of_below HB.out).trans hk)
  clear hk C1 HB HX HR HC
  go_wp2_with fail
  exact ⟨rfl, rfl, HK.out⟩
end Go.Proofs.YtipcdkemokkdfaaGreat

/- Layer 27: reading: all tokens. -/
namespace Go.Proofs.YtipcdkemokkdfaaGreat
open Go.ChangeShapes Go.WideShapes Go.ChangeAt Go.RowKit
set_option linter.unusedVariables false
set_option linter.unusedSimpArgs false
set_option maxRecDepth 100000
open Bits hiding packF pack_length
open RunsMath KraftMath CanonMath TurnMath Pm Two
set_option maxHeartbeats 6400000 in
theorem read27Near (w0 : World) (g raw : Nat) (s : List UInt8) (hr : IsReader w0 g s 0) (r1 : List Run) (t1 : Nat) (M : List Int) (C1 : Rdt g 0 401 s (.good r1 t1)) (hM : (unpack r1 401).2 = M) (lm : M.length = 401) (hEM : check M 15 = 0) (hin : t1 + 1 ≤ 8 * s.length) (hV : peek ((spread s).drop t1) 1 = 0) (hraw : raw ≤ 65536) (R : FR) (hL : loopR M none (spread s) (raw + 1) raw (t1 + 1) [] = R) :
    Calls Tryz.prog 31 #[.pointer (some ⟨g, 0, none⟩), .int .i64 raw] w0 (EndF R w0 g) := by
  have CF := Lib.hid (fun W gr (hp : W.cell? ⟨gr, 0, none⟩ = some (.pointer (some ⟨g, 0, none⟩))) (h : IsReader W g s t1) => show Calls Tryz.prog 52 #[.pointer (some ⟨gr, 0, none⟩), .int .i64 1] W _ from rdTakeIn W gr g t1 1 s hp h (by decide) hin)
  rw [hV] at CF
  have HL := Lib.hid hL
  clear hin hL hV
  have HR := Lib.hid hr
  have hgl : g < w0.heap.size := hr.lt
  have CT := Lib.hid (fun W gr (hp : W.cell? ⟨gr, 0, none⟩ = some (.pointer (some ⟨g, 0, none⟩))) (h : IsReader W g s 0) => show Calls Tryz.prog 51 #[.pointer (some ⟨gr, 0, none⟩), .int .i64 401, .int .i64 10] W _ from tab27Ok W gr g 0 401 10 s hp h r1 t1 C1 M hM lm (fun e => by rw [e] at lm; simp at lm) (by decide) (by decide) (by decide) hEM)
  clear C1 hr hM hEM
  go_enter Tryz.func31, Tryz.ntmps31
  go_wp2_with fail
  have hb := (Below.refl w0.heap.size w0).alloc (Nat.le_refl _) (.cells (rdA g (.pointer none) (.pointer none)) 114)
  have hx := heap_alloc_new w0 (.cells (rdA g (.pointer none) (.pointer none)) 114)
  have C2 := Lib.hid (CT.out _ w0.heap.size (cell_in hx 0) (HR.out.kept hb))
  obtain ⟨w1, hw1⟩ : ∃ w1, w0.alloc (.cells (rdA g (.pointer none) (.pointer none)) 114) = w1 := ⟨_, rfl⟩
  change Calls Tryz.prog _ _ (w0.alloc (.cells (rdA g (.pointer none) (.pointer none)) 114)) _
  rw [hw1] at C2 ⊢
  obtain ⟨gr, hgr⟩ : ∃ gr, w0.heap.size = gr := ⟨_, rfl⟩
  rw [hgr] at C2 ⊢
  clear hb hx CT HR
  refine C2.out.mono ?_; rintro e w2 ⟨gm, rfl, hr2, hk2, hT2⟩
  have HT := Lib.hid (tb1_start hgr hgl hw1 hr2 hk2 hT2 lm)
  have hgr1 : w2.heap.size ≤ w2.heap.size := Nat.le_refl _
  have hgrl : gr < w2.heap.size := by
    have h1 := block_lt HT.out.rd.bk
    simpa using h1
  have hf1 : w2.frozen? ⟨gr, 1, none⟩ = false := by
    have hx1 : w1.heap[gr]? = some (.cells (rdA g (.pointer none) (.pointer none)) 114 (0, 0)) := by rw [← hw1, ← hgr]; exact heap_alloc_new w0 _
    exact free_in (hk2.heap hx1 (by omega)) 1
  have hc1 : w2.cell? ⟨gr, 1, none⟩ = some (.pointer none) := by
    have hx1 : w1.heap[gr]? = some (.cells (rdA g (.pointer none) (.pointer none)) 114 (0, 0)) := by rw [← hw1, ← hgr]; exact heap_alloc_new w0 _
    exact cell_in (hk2.heap hx1 (by omega)) 1
  clear hw1 hgr hgl hr2 hk2 hT2 C2
  go_wp2_with fail
  obtain ⟨w3, hw3⟩ : ∃ w3, w2.setCell ⟨gr, 1, none⟩ (.pointer (some ⟨gm, 0, none⟩)) = w3 := ⟨_, rfl⟩
  rw [hw3] at HT ⊢
  clear hw3 hf1 hc1 hgr1 hgrl
  refine (CF.out w3 gr HT.out.rd.c0 HT.out.at').mono ?_; rintro e w4 ⟨rfl, hr4, hk4, hF4⟩
  have HT := Lib.hid (tb1_go HT.out hr4 hk4)
  clear hr4 hk4 hF4 CF
  obtain ⟨D0, hD0⟩ : ∃ D0, w4.heap.size = D0 := ⟨_, rfl⟩
  have hw0 : w0.heap.size ≤ D0 := by rw [← hD0]; exact HT.out.kp.size
  have HRS := Lib.hid (Rs.start HT.out.at')
  have HTK := Lib.hid (fun (W : World) t (h : Rs w4 W g s t) => tok27 W gr g gm (.pointer none) M none s t (HT.out.rd.keeps h.keep) h.rd)
  have HOK := Lib.hid (fun t p k (ht : t ≤ (spread s).length) (h : tokR M none (spread s) t = .good k p) => tokR_ok (M := M) (D := none) HT.out.rd.lm (fun d e => by cases e) ht h)
  have HKW := Lib.hid (fun (W : World) t (h : Rs w4 W g s t) => HT.out.kp.trans' h.keep (fun j _ e => e))
  have CM4 := Lib.hid (fun W => m27No 4 (by decide) W)
  have htl := HT.out.at'.le
  have HD0 := Lib.hid hD0
  have HSL := Lib.hid (spread_length s)
  clear HT hD0
  go_wp2_with fail
  go_loopw [1, 6] (fun rv ov wr => ∃ (m t f : Nat) (a : List Tk), rv = .int .i64 m ∧ m ≤ 65536 ∧ m < f ∧ a.length + m ≤ 65536 ∧ t ≤ (spread s).length ∧ Hid (loopR M none (spread s) f m t a = R) ∧ D0 ≤ wr.heap.size ∧ Hid (Rs w4 wr g s t) ∧ Hid (OwnK D0 wr ov a)) (fun rv _ _ => (intOf rv).toNat)
  case atStart => exact ⟨raw, _, _, [], rfl, hraw, Nat.lt_succ_self _, by simpa using hraw, htl, HL, by rw [HD0.out]; exact Nat.le_refl _, HRS, Lib.hid OwnS.nil⟩
  case round =>
    clear HL HRS htl hraw
    obtain ⟨m, t, f, a, rfl, hm, hf, ham, htl, hl, hDs, hs, ho⟩ := hrel
    obtain ⟨f, rfl⟩ : ∃ f', f = f' + 1 := ⟨f - 1, by omega⟩
    by_cases hm0 : m = 0
    · subst hm0
      have hR := hl.out
      unfold loopR at hR
      rw [if_pos rfl] at hR
      unfold endR at hR
      rw [HSL.out] at hR
      have CL := Lib.hid (rLeft wr g t s hs.out.rd)
      obtain ⟨q, hq⟩ : ∃ q, 8 * s.length - t = q := ⟨_, rfl⟩
      rw [hq] at CL hR
      have CP := Lib.hid (fun k (h8 : q < 8) => rPeek (wr.drewN k) g t q s (by have := hs.out.rd.kept (below_dn (Below.refl _ wr) k); exact this) (by omega))
      have HK := Lib.hid (fun k => (HKW.out wr t hs.out).drewN k)
      by_cases h8 : 8 ≤ q
      · rw [if_pos (.inl h8)] at hR
        have HRR := Lib.hid hR
        have h8i : decide ((8 : Int) ≤ (q : Int)) = true := by simp; omega
        clear hl hR CP hq hs ho HKW
        go_wp2_with fail
        refine CL.out.mono ?_; rintro e w5 ⟨rfl, k, rfl⟩
        go_wp2_with fail
        refine (CM4.out _).mono ?_; rintro e w6 ⟨rfl, h6⟩; rw [h6]; clear h6 w6
        go_wp2_with fail
        exact ⟨rfl, by rw [← HRR.out]; exact ⟨rfl, HK.out k⟩⟩
      · have h8i : decide ((8 : Int) ≤ (q : Int)) = false := by simp; omega
        have CPP := Lib.hid (fun k => CP.out k (by omega))
        obtain ⟨P, hP⟩ : ∃ P, peek ((spread s).drop t) q = P := ⟨_, rfl⟩
        rw [hP] at hR CPP
        have HO := Lib.hid (fun k => ho.out.kept (below_dn (Below.refl _ wr) k))
        by_cases hP0 : P = 0
        · subst hP0
          rw [if_neg (by omega)] at hR
          have HRR := Lib.hid hR
          clear hl hR CP hq hs ho HKW hP
          go_wp2_with fail
          refine CL.out.mono ?_; rintro e w5 ⟨rfl, k, rfl⟩
          go_wp2_with fail
          refine (CPP.out k).mono ?_; rintro e w6 ⟨rfl, k2, rfl⟩
          have HKE := Lib.hid (HK.out (k + k2))
          have HOE := Lib.hid ((HO.out k).kept (below_dn (Below.refl _ (wr.drewN k)) k2))
          go_wp2_with fail
          go_ret
          rw [← HRR.out]
          exact ⟨_, rfl, HOE.out.base hw0, HKE.out⟩
        · rw [if_pos (.inr hP0)] at hR
          have HRR := Lib.hid hR
          have hPb : ((P : Int) != 0) = true := by rw [bne_iff_ne]; omega
          clear hl hR CP hq hs ho HKW hP
          go_wp2_with fail
          refine CL.out.mono ?_; rintro e w5 ⟨rfl, k, rfl⟩
          go_wp2_with fail
          refine (CPP.out k).mono ?_; rintro e w6 ⟨rfl, k2, rfl⟩
          have HKE := Lib.hid (HK.out (k + k2))
          go_wp2_with fail
          refine (CM4.out _).mono ?_; rintro e w7 ⟨rfl, h7⟩; rw [h7]; clear h7 w7
          go_wp2_with fail
          exact ⟨rfl, by rw [← HRR.out]; exact ⟨rfl, HKE.out⟩⟩
    · have hmi : (0 : Int) < (m : Int) := by omega
      have hR := hl.out
      unfold loopR at hR
      rw [if_neg hm0] at hR
      have CT := Lib.hid (HTK.out wr t hs.out)
      cases hT : tokR M none (spread s) t with
      | bad E =>
        rw [hT] at CT hR
        simp only at hR
        have HRR := Lib.hid hR
        have HK := Lib.hid (HKW.out wr t hs.out)
        clear hl hR hs ho HTK HKW hT
        go_wp2_with fail
        refine CT.out.mono ?_; rintro e w5 ⟨rfl, hk5⟩
        have HKE := Lib.hid (HK.out.trans hk5)
        clear hk5 CT
        go_wp2_with fail
        exact ⟨rfl, by rw [← HRR.out]; exact ⟨rfl, HKE.out⟩⟩
      | good k p =>
        rw [hT] at CT hR
        simp only at hR
        obtain ⟨hko, hpl⟩ := HOK.out t p k htl hT
        obtain ⟨hz1, hz2, hz3⟩ := sz_ok hko
        have CS := Lib.hid (fun W => Tok.size_any k.k k.b k.l k.d k.r W)
        rw [hz1] at CS
        obtain ⟨z, hz⟩ : ∃ z, szN k = z := ⟨_, rfl⟩
        rw [hz] at CS hR hz2 hz3
        obtain ⟨tk, tb, tn, td, tr⟩ := k
        simp only at CS
        have HRR := Lib.hid hR
        obtain ⟨pv, cv, hov⟩ := OwnS.slice ho.out
        subst hov
        have hgl : g < wr.heap.size := hs.out.rd.lt
        have hgD : g < D0 := by rw [← HD0.out]; exact hs.out.far.1
        clear hl hR hT hko hz1 hz
        go_wp2_with fail
        refine CT.out.mono ?_; rintro e w5 ⟨rfl, hr5, hk5, hF5⟩
        have HS5 := Lib.hid (hs.out.step hr5 hk5 hF5)
        have HO5 := Lib.hid (own_keeps ho.out hk5 hgD)
        have hD5 : D0 ≤ w5.heap.size := Nat.le_trans hDs hk5.size
        clear hr5 hk5 hF5 CT hs ho hDs hgl
        simp only [tkV]
        have HBX := Lib.hid (box_new w5 tk tb tn td tr)
        have hb6 := (Below.refl w5.heap.size w5).alloc (Nat.le_refl _) (.cells #[.int .i64 tk, .int .i64 tb, .int .i64 tn, .int .i64 td, .int .i64 tr] 42)
        have HS6 := Lib.hid (HS5.out.below (hb6.mono (by rw [HD0.out]; exact hD5)))
        have HO6 := Lib.hid (OwnS.kept HO5.out hb6)
        have hD6 : D0 ≤ (w5.alloc (.cells #[.int .i64 tk, .int .i64 tb, .int .i64 tn, .int .i64 td, .int .i64 tr] 42)).heap.size := Nat.le_trans hD5 hb6.size
        have HHB := Lib.hid hb6
        clear hb6
        go_wp2_with fail
        obtain ⟨w6, hw6⟩ : ∃ w6, w5.alloc (.cells #[.int .i64 tk, .int .i64 tb, .int .i64 tn, .int .i64 td, .int .i64 tr] 42) = w6 := ⟨_, rfl⟩
        obtain ⟨gx, hgx⟩ : ∃ gx, w5.heap.size = gx := ⟨_, rfl⟩
        rw [hw6] at HBX HS6 HO6 hD6 ⊢
        rw [hgx] at HBX ⊢
        clear hw6 hgx HHB HS5 HO5 hD5
        refine (CS.out w6).mono ?_; rintro e w7 ⟨rfl, hb7⟩
        obtain ⟨⟨b0, b1, b2, b3, b4⟩, -, hxl⟩ := box_cell ((hb7.block gx (block_lt HBX.out)).trans HBX.out)
        have HS7 := Lib.hid (HS6.out.below (hb7.mono (by rw [HD0.out]; exact hD6)))
        have HO7 := Lib.hid (OwnS.kept HO6.out hb7)
        have hD7 : D0 ≤ w7.heap.size := Nat.le_trans hD6 hb7.size
        clear hb7 HS6 HO6 hD6 HBX CS
        by_cases hov : m < z
        · have hovi : (m : Int) < (z : Int) := by omega
          have hR := HRR.out
          rw [if_pos hov] at hR
          have HRE := Lib.hid hR
          have HKE := Lib.hid (HKW.out w7 p HS7.out)
          clear hR HRR HS7 HO7 HKW HTK
          go_wp2_with fail
          refine (CM4.out _).mono ?_; rintro e w8 ⟨rfl, h8⟩; rw [h8]; clear h8 w8
          go_wp2_with fail
          exact ⟨rfl, by rw [← HRE.out]; exact ⟨rfl, HKE.out⟩⟩
        · have hovi : ¬ (m : Int) < (z : Int) := by omega
          have hR := HRR.out
          rw [if_neg hov] at hR
          have HRE := Lib.hid hR
          obtain ⟨N, hN⟩ : ∃ N, m - z = N := ⟨_, rfl⟩
          rw [hN] at HRE
          have hwN : IntKind.i64.wrap ((m : Int) - (z : Int)) = (N : Int) := by rw [IntKind.wrap_i64]; omega
          have HLN := Lib.hid (show a.length ≤ 1099511627776 by omega)
          have HBZ := Lib.hid hD7
          have HSB := Lib.hid (fun W (h : Below D0 w7 W) => HS7.out.below (w' := W) (by rw [HD0.out]; exact h))
          clear hR HRR HKW HTK HS7
          go_wp2_with (at_builtin; refine app_tk rfl (.tmp 39) (.tmp 41) rfl _ _ _ a tk tb tn td tr rfl HO7.out w7.heap.size 1 rfl rfl HLN.out HBZ.out ?_; intro v2 w8 hown2 hb2 hgr2; have HO8 := Lib.hid hown2; have HS8 := Lib.hid (HSB.out w8 hb2); have hD8 := Nat.le_trans HBZ.out hb2.size; clear hown2 hb2 hgr2 b0 b1 b2 b3 b4 hxl)
          go_roundw
          case rel => exact ⟨N, p, f, _, rfl, by omega, by omega, by rw [List.length_append, List.length_singleton]; omega, hpl, HRE, hD8, HS8, HO8⟩
          case measure => simp [intOf]; omega
end Go.Proofs.YtipcdkemokkdfaaGreat

/- Layer 27: reading: all tokens. -/
namespace Go.Proofs.YtipcdkemokkdfaaGreat
open Go.ChangeShapes Go.WideShapes Go.ChangeAt Go.RowKit
set_option linter.unusedVariables false
set_option linter.unusedSimpArgs false
set_option maxRecDepth 100000
open Bits hiding packF pack_length
open RunsMath KraftMath CanonMath TurnMath Pm Two
set_option maxHeartbeats 6400000 in
theorem read27Far (w0 : World) (g raw : Nat) (s : List UInt8) (hr : IsReader w0 g s 0) (r1 : List Run) (t1 : Nat) (M : List Int) (C1 : Rdt g 0 401 s (.good r1 t1)) (hM : (unpack r1 401).2 = M) (lm : M.length = 401) (hEM : check M 15 = 0) (hin : t1 + 1 ≤ 8 * s.length) (hV : peek ((spread s).drop t1) 1 = 1) (r3 : List Run) (t3 : Nat) (d : List Int) (C3 : Rdt g (t1 + 1) 52 s (.good r3 t3)) (hd : (unpack r3 52).2 = d) (ld : d.length = 52) (hED : check d 15 = 0) (hraw : raw ≤ 65536) (R : FR) (hL : loopR M (some d) (spread s) (raw + 1) raw t3 [] = R) :
    Calls Tryz.prog 31 #[.pointer (some ⟨g, 0, none⟩), .int .i64 raw] w0 (EndF R w0 g) := by
  have CF := Lib.hid (fun W gr (hp : W.cell? ⟨gr, 0, none⟩ = some (.pointer (some ⟨g, 0, none⟩))) (h : IsReader W g s t1) => show Calls Tryz.prog 52 #[.pointer (some ⟨gr, 0, none⟩), .int .i64 1] W _ from rdTakeIn W gr g t1 1 s hp h (by decide) hin)
  rw [hV] at CF
  have CT2 := Lib.hid (fun W gr (hp : W.cell? ⟨gr, 0, none⟩ = some (.pointer (some ⟨g, 0, none⟩))) (h : IsReader W g s (t1 + 1)) => show Calls Tryz.prog 51 #[.pointer (some ⟨gr, 0, none⟩), .int .i64 52, .int .i64 7] W _ from tab27Ok W gr g (t1 + 1) 52 7 s hp h r3 t3 C3 d hd ld (fun e => by rw [e] at ld; simp at ld) (by decide) (by decide) (by decide) hED)
  have HL := Lib.hid hL
  have HLD := Lib.hid ld
  clear hin hL hV C3 hED hd
  have HR := Lib.hid hr
  have hgl : g < w0.heap.size := hr.lt
  have CT := Lib.hid (fun W gr (hp : W.cell? ⟨gr, 0, none⟩ = some (.pointer (some ⟨g, 0, none⟩))) (h : IsReader W g s 0) => show Calls Tryz.prog 51 #[.pointer (some ⟨gr, 0, none⟩), .int .i64 401, .int .i64 10] W _ from tab27Ok W gr g 0 401 10 s hp h r1 t1 C1 M hM lm (fun e => by rw [e] at lm; simp at lm) (by decide) (by decide) (by decide) hEM)
  clear C1 hr hM hEM
  go_enter Tryz.func31, Tryz.ntmps31
  go_wp2_with fail
  have hb := (Below.refl w0.heap.size w0).alloc (Nat.le_refl _) (.cells (rdA g (.pointer none) (.pointer none)) 114)
  have hx := heap_alloc_new w0 (.cells (rdA g (.pointer none) (.pointer none)) 114)
  have C2 := Lib.hid (CT.out _ w0.heap.size (cell_in hx 0) (HR.out.kept hb))
  obtain ⟨w1, hw1⟩ : ∃ w1, w0.alloc (.cells (rdA g (.pointer none) (.pointer none)) 114) = w1 := ⟨_, rfl⟩
  change Calls Tryz.prog _ _ (w0.alloc (.cells (rdA g (.pointer none) (.pointer none)) 114)) _
  rw [hw1] at C2 ⊢
  obtain ⟨gr, hgr⟩ : ∃ gr, w0.heap.size = gr := ⟨_, rfl⟩
  rw [hgr] at C2 ⊢
  clear hb hx CT HR
  refine C2.out.mono ?_; rintro e w2 ⟨gm, rfl, hr2, hk2, hT2⟩
  have HT := Lib.hid (tb1_start hgr hgl hw1 hr2 hk2 hT2 lm)
  have hgr1 : w2.heap.size ≤ w2.heap.size := Nat.le_refl _
  have hgrl : gr < w2.heap.size := by
    have h1 := block_lt HT.out.rd.bk
    simpa using h1
  have hf1 : w2.frozen? ⟨gr, 1, none⟩ = false := by
    have hx1 : w1.heap[gr]? = some (.cells (rdA g (.pointer none) (.pointer none)) 114 (0, 0)) := by rw [← hw1, ← hgr]; exact heap_alloc_new w0 _
    exact free_in (hk2.heap hx1 (by omega)) 1
  have hc1 : w2.cell? ⟨gr, 1, none⟩ = some (.pointer none) := by
    have hx1 : w1.heap[gr]? = some (.cells (rdA g (.pointer none) (.pointer none)) 114 (0, 0)) := by rw [← hw1, ← hgr]; exact heap_alloc_new w0 _
    exact cell_in (hk2.heap hx1 (by omega)) 1
  clear hw1 hgr hgl hr2 hk2 hT2 C2
  go_wp2_with fail
  obtain ⟨w3, hw3⟩ : ∃ w3, w2.setCell ⟨gr, 1, none⟩ (.pointer (some ⟨gm, 0, none⟩)) = w3 := ⟨_, rfl⟩
  rw [hw3] at HT ⊢
  clear hw3 hf1 hc1 hgr1 hgrl
  refine (CF.out w3 gr HT.out.rd.c0 HT.out.at').mono ?_; rintro e w4 ⟨rfl, hr4, hk4, hF4⟩
  have HT := Lib.hid (tb1_go HT.out hr4 hk4)
  clear hr4 hk4 hF4 CF
  go_wp2_with fail
  refine (CT2.out w4 gr HT.out.rd.c0 HT.out.at').mono ?_; rintro e w5 ⟨gd, rfl, hr5, hk5, hT5⟩
  have hb5 := hk5.heap HT.out.rd.bk HT.out.rd.ne
  have hc2 : w5.cell? ⟨gr, 2, none⟩ = some (.pointer none) := cell_in hb5 2
  have hf2 : w5.frozen? ⟨gr, 2, none⟩ = false := free_in hb5 2
  have HT := Lib.hid (tb1_far HT.out hr5 hk5 hT5 HLD.out)
  clear hr5 hk5 hT5 CT2 hb5 HLD
  go_wp2_with fail
  obtain ⟨w6, hw6⟩ : ∃ w6, w5.setCell ⟨gr, 2, none⟩ (.pointer (some ⟨gd, 0, none⟩)) = w6 := ⟨_, rfl⟩
  rw [hw6] at HT ⊢
  clear hw6 hc2 hf2
  obtain ⟨D0, hD0⟩ : ∃ D0, w6.heap.size = D0 := ⟨_, rfl⟩
  have hw0 : w0.heap.size ≤ D0 := by rw [← hD0]; exact HT.out.kp.size
  have HRS := Lib.hid (Rs.start HT.out.at')
  have HTK := Lib.hid (fun (W : World) t (h : Rs w6 W g s t) => tok27 W gr g gm (.pointer (some ⟨gd, 0, none⟩)) M (some d) s t (HT.out.rd.keeps h.keep) h.rd)
  have HOK := Lib.hid (fun t p k (ht : t ≤ (spread s).length) (h : tokR M (some d) (spread s) t = .good k p) => tokR_ok (M := M) (D := (some d)) HT.out.rd.lm (fun d' e => by injection e with e; rw [← e]; exact ld) ht h)
  have HKW := Lib.hid (fun (W : World) t (h : Rs w6 W g s t) => HT.out.kp.trans' h.keep (fun j _ e => e))
  have CM4 := Lib.hid (fun W => m27No 4 (by decide) W)
  have htl := HT.out.at'.le
  have HD0 := Lib.hid hD0
  have HSL := Lib.hid (spread_length s)
  clear HT hD0
  go_wp2_with fail
  go_loopw [1, 6] (fun rv ov wr => ∃ (m t f : Nat) (a : List Tk), rv = .int .i64 m ∧ m ≤ 65536 ∧ m < f ∧ a.length + m ≤ 65536 ∧ t ≤ (spread s).length ∧ Hid (loopR M (some d) (spread s) f m t a = R) ∧ D0 ≤ wr.heap.size ∧ Hid (Rs w6 wr g s t) ∧ Hid (OwnK D0 wr ov a)) (fun rv _ _ => (intOf rv).toNat)
  case atStart => exact ⟨raw, _, _, [], rfl, hraw, Nat.lt_succ_self _, by simpa using hraw, htl, HL, by rw [HD0.out]; exact Nat.le_refl _, HRS, Lib.hid OwnS.nil⟩
  case round =>
    clear HL HRS htl hraw
    obtain ⟨m, t, f, a, rfl, hm, hf, ham, htl, hl, hDs, hs, ho⟩ := hrel
    obtain ⟨f, rfl⟩ : ∃ f', f = f' + 1 := ⟨f - 1, by omega⟩
    by_cases hm0 : m = 0
    · subst hm0
      have hR := hl.out
      unfold loopR at hR
      rw [if_pos rfl] at hR
      unfold endR at hR
      rw [HSL.out] at hR
      have CL := Lib.hid (rLeft wr g t s hs.out.rd)
      obtain ⟨q, hq⟩ : ∃ q, 8 * s.length - t = q := ⟨_, rfl⟩
      rw [hq] at CL hR
      have CP := Lib.hid (fun k (h8 : q < 8) => rPeek (wr.drewN k) g t q s (by have := hs.out.rd.kept (below_dn (Below.refl _ wr) k); exact this) (by omega))
      have HK := Lib.hid (fun k => (HKW.out wr t hs.out).drewN k)
      by_cases h8 : 8 ≤ q
      · rw [if_pos (.inl h8)] at hR
        have HRR := Lib.hid hR
        have h8i : decide ((8 : Int) ≤ (q : Int)) = true := by simp; omega
        clear hl hR CP hq hs ho HKW
        go_wp2_with fail
        refine CL.out.mono ?_; rintro e w5 ⟨rfl, k, rfl⟩
        go_wp2_with fail
        refine (CM4.out _).mono ?_; rintro e w6 ⟨rfl, h6⟩; rw [h6]; clear h6 w6
        go_wp2_with fail
        exact ⟨rfl, by rw [← HRR.out]; exact ⟨rfl, HK.out k⟩⟩
      · have h8i : decide ((8 : Int) ≤ (q : Int)) = false := by simp; omega
        have CPP := Lib.hid (fun k => CP.out k (by omega))
        obtain ⟨P, hP⟩ : ∃ P, peek ((spread s).drop t) q = P := ⟨_, rfl⟩
        rw [hP] at hR CPP
        have HO := Lib.hid (fun k => ho.out.kept (below_dn (Below.refl _ wr) k))
        by_cases hP0 : P = 0
        · subst hP0
          rw [if_neg (by omega)] at hR
          have HRR := Lib.hid hR
          clear hl hR CP hq hs ho HKW hP
          go_wp2_with fail
          refine CL.out.mono ?_; rintro e w5 ⟨rfl, k, rfl⟩
          go_wp2_with fail
          refine (CPP.out k).mono ?_; rintro e w6 ⟨rfl, k2, rfl⟩
          have HKE := Lib.hid (HK.out (k + k2))
          have HOE := Lib.hid ((HO.out k).kept (below_dn (Below.refl _ (wr.drewN k)) k2))
          go_wp2_with fail
          go_ret
          rw [← HRR.out]
          exact ⟨_, rfl, HOE.out.base hw0, HKE.out⟩
        · rw [if_pos (.inr hP0)] at hR
          have HRR := Lib.hid hR
          have hPb : ((P : Int) != 0) = true := by rw [bne_iff_ne]; omega
          clear hl hR CP hq hs ho HKW hP
          go_wp2_with fail
          refine CL.out.mono ?_; rintro e w5 ⟨rfl, k, rfl⟩
          go_wp2_with fail
          refine (CPP.out k).mono ?_; rintro e w6 ⟨rfl, k2, rfl⟩
          have HKE := Lib.hid (HK.out (k + k2))
          go_wp2_with fail
          refine (CM4.out _).mono ?_; rintro e w7 ⟨rfl, h7⟩; rw [h7]; clear h7 w7
          go_wp2_with fail
          exact ⟨rfl, by rw [← HRR.out]; exact ⟨rfl, HKE.out⟩⟩
    · have hmi : (0 : Int) < (m : Int) := by omega
      have hR := hl.out
      unfold loopR at hR
      rw [if_neg hm0] at hR
      have CT := Lib.hid (HTK.out wr t hs.out)
      cases hT : tokR M (some d) (spread s) t with
      | bad E =>
        rw [hT] at CT hR
        simp only at hR
        have HRR := Lib.hid hR
        have HK := Lib.hid (HKW.out wr t hs.out)
        clear hl hR hs ho HTK HKW hT
        go_wp2_with fail
        refine CT.out.mono ?_; rintro e w5 ⟨rfl, hk5⟩
        have HKE := Lib.hid (HK.out.trans hk5)
        clear hk5 CT
        go_wp2_with fail
        exact ⟨rfl, by rw [← HRR.out]; exact ⟨rfl, HKE.out⟩⟩
      | good k p =>
        rw [hT] at CT hR
        simp only at hR
        obtain ⟨hko, hpl⟩ := HOK.out t p k htl hT
        obtain ⟨hz1, hz2, hz3⟩ := sz_ok hko
        have CS := Lib.hid (fun W => Tok.size_any k.k k.b k.l k.d k.r W)
        rw [hz1] at CS
        obtain ⟨z, hz⟩ : ∃ z, szN k = z := ⟨_, rfl⟩
        rw [hz] at CS hR hz2 hz3
        obtain ⟨tk, tb, tn, td, tr⟩ := k
        simp only at CS
        have HRR := Lib.hid hR
        obtain ⟨pv, cv, hov⟩ := OwnS.slice ho.out
        subst hov
        have hgl : g < wr.heap.size := hs.out.rd.lt
        have hgD : g < D0 := by rw [← HD0.out]; exact hs.out.far.1
        clear hl hR hT hko hz1 hz
        go_wp2_with fail
        refine CT.out.mono ?_; rintro e w5 ⟨rfl, hr5, hk5, hF5⟩
        have HS5 := Lib.hid (hs.out.step hr5 hk5 hF5)
        have HO5 := Lib.hid (own_keeps ho.out hk5 hgD)
        have hD5 : D0 ≤ w5.heap.size := Nat.le_trans hDs hk5.size
        clear hr5 hk5 hF5 CT hs ho hDs hgl
        simp only [tkV]
        have HBX := Lib.hid (box_new w5 tk tb tn td tr)
        have hb6 := (Below.refl w5.heap.size w5).alloc (Nat.le_refl _) (.cells #[.int .i64 tk, .int .i64 tb, .int .i64 tn, .int .i64 td, .int .i64 tr] 42)
        have HS6 := Lib.hid (HS5.out.below (hb6.mono (by rw [HD0.out]; exact hD5)))
        have HO6 := Lib.hid (OwnS.kept HO5.out hb6)
        have hD6 : D0 ≤ (w5.alloc (.cells #[.int .i64 tk, .int .i64 tb, .int .i64 tn, .int .i64 td, .int .i64 tr] 42)).heap.size := Nat.le_trans hD5 hb6.size
        have HHB := Lib.hid hb6
        clear hb6
        go_wp2_with fail
        obtain ⟨w6, hw6⟩ : ∃ w6, w5.alloc (.cells #[.int .i64 tk, .int .i64 tb, .int .i64 tn, .int .i64 td, .int .i64 tr] 42) = w6 := ⟨_, rfl⟩
        obtain ⟨gx, hgx⟩ : ∃ gx, w5.heap.size = gx := ⟨_, rfl⟩
        rw [hw6] at HBX HS6 HO6 hD6 ⊢
        rw [hgx] at HBX ⊢
        clear hw6 hgx HHB HS5 HO5 hD5
        refine (CS.out w6).mono ?_; rintro e w7 ⟨rfl, hb7⟩
        obtain ⟨⟨b0, b1, b2, b3, b4⟩, -, hxl⟩ := box_cell ((hb7.block gx (block_lt HBX.out)).trans HBX.out)
        have HS7 := Lib.hid (HS6.out.below (hb7.mono (by rw [HD0.out]; exact hD6)))
        have HO7 := Lib.hid (OwnS.kept HO6.out hb7)
        have hD7 : D0 ≤ w7.heap.size := Nat.le_trans hD6 hb7.size
        clear hb7 HS6 HO6 hD6 HBX CS
        by_cases hov : m < z
        · have hovi : (m : Int) < (z : Int) := by omega
          have hR := HRR.out
          rw [if_pos hov] at hR
          have HRE := Lib.hid hR
          have HKE := Lib.hid (HKW.out w7 p HS7.out)
          clear hR HRR HS7 HO7 HKW HTK
          go_wp2_with fail
          refine (CM4.out _).mono ?_; rintro e w8 ⟨rfl, h8⟩; rw [h8]; clear h8 w8
          go_wp2_with fail
          exact ⟨rfl, by rw [← HRE.out]; exact ⟨rfl, HKE.out⟩⟩
        · have hovi : ¬ (m : Int) < (z : Int) := by omega
          have hR := HRR.out
          rw [if_neg hov] at hR
          have HRE := Lib.hid hR
          obtain ⟨N, hN⟩ : ∃ N, m - z = N := ⟨_, rfl⟩
          rw [hN] at HRE
          have hwN : IntKind.i64.wrap ((m : Int) - (z : Int)) = (N : Int) := by rw [IntKind.wrap_i64]; omega
          have HLN := Lib.hid (show a.length ≤ 1099511627776 by omega)
          have HBZ := Lib.hid hD7
          have HSB := Lib.hid (fun W (h : Below D0 w7 W) => HS7.out.below (w' := W) (by rw [HD0.out]; exact h))
          clear hR HRR HKW HTK HS7
          go_wp2_with (at_builtin; refine app_tk rfl (.tmp 39) (.tmp 41) rfl _ _ _ a tk tb tn td tr rfl HO7.out w7.heap.size 1 rfl rfl HLN.out HBZ.out ?_; intro v2 w8 hown2 hb2 hgr2; have HO8 := Lib.hid hown2; have HS8 := Lib.hid (HSB.out w8 hb2); have hD8 := Nat.le_trans HBZ.out hb2.size; clear hown2 hb2 hgr2 b0 b1 b2 b3 b4 hxl)
          go_roundw
          case rel => exact ⟨N, p, f, _, rfl, by omega, by omega, by rw [List.length_append, List.length_singleton]; omega, hpl, HRE, hD8, HS8, HO8⟩
          case measure => simp [intOf]; omega
end Go.Proofs.YtipcdkemokkdfaaGreat

/- Layer 27: Tokens: faults caught. -/
namespace Go.Proofs.YtipcdkemokkdfaaGreat
open Go.ChangeShapes Go.WideShapes Go.ChangeAt Go.RowKit
set_option linter.unusedVariables false
set_option linter.unusedSimpArgs false
set_option maxRecDepth 100000
open Bits hiding packF pack_length
open RunsMath KraftMath CanonMath TurnMath Pm Two
theorem catch27_no (p q : Addr) (w : World) :
    CallsD Tryz.prog 29 #[.pointer (some p), .pointer (some q)] .returning w fun e u' w' => e = .returned (.tuple #[]) ∧ u' = .returning ∧ w' = w := by
  refine callsD_of_wpS Tryz.func29 rfl fun c₀ cs hu => ?_
  apply wpS_seq
  apply wpS_region
  simp [wpOpsS, go_sem, recoverD, hu, Tryz.ntmps29, Exit.thenS]
  refine wpS_of_wp ?_
  go_wp2_with fail
  cases c₀
  simp_all [bodyPostS, results, Tryz.results29]
theorem catch27_yes (gl ge : Nat) (x y : Value) (E : Int) (older : List PanicEntry) (w : World) (tl te : TypeId) (hl : w.heap[gl]? = some (.cells #[x] tl (0, 0))) (he : w.heap[ge]? = some (.cells #[y] te (0, 0))) (hne : gl ≠ ge) :
    CallsD Tryz.prog 29 #[.pointer (some ⟨gl, 0, none⟩), .pointer (some ⟨ge, 0, none⟩)] (.panicking (flt27 E :: older)) w fun e u' w' =>
      e = .returned (.tuple #[]) ∧ u' = .panicking ({ flt27 E with recovered := true } :: older) ∧ ∃ wz, Below w.heap.size w wz ∧ w' = (wz.setCell ⟨gl, 0, none⟩ (.slice none 0 0)).setCell ⟨ge, 0, none⟩ (.int .i64 E) := by
  refine callsD_of_wpS Tryz.func29 rfl fun c₀ cs hu => ?_
  apply wpS_seq
  apply wpS_region
  unfold flt27 at hu
  simp [wpOpsS, go_sem, recoverD, hu, Tryz.ntmps29, Exit.thenS, flt27]
  refine wpS_of_wp ?_
  have CT := Lib.hid (fun W => t27Told E W)
  go_wp2_with fail
  refine (CT.out _).mono ?_; rintro e w1 ⟨rfl, hb1⟩
  have h1 := (hb1.block gl (block_lt hl)).trans hl
  have h2 := (hb1.block ge (block_lt he)).trans he
  have c0 := cell_in h1 0
  have c1 := cell_in h2 0
  have f0 := free_in h1 0
  have f1 := free_in h2 0
  have hne' : ¬ ge = gl := fun e => hne e.symm
  simp only [List.getElem?_toArray, List.getElem?_cons_zero] at c0 c1
  have HB := Lib.hid hb1
  clear hb1 h1 h2 hl he CT
  go_wp2_with fail
  refine ⟨rfl, _, rfl, .tuple #[], ?_, rfl, rfl, w1, HB.out, rfl⟩
  simp [results, Tryz.results29, go_sem]
def EndK (R : FR) (w0 : World) (v : Value) (E : Int) (w' : World) : Prop :=
  match R with
  | .bad F => v = .slice none 0 0 ∧ E = F
  | .good l => E = 0 ∧ OwnK w0.heap.size w' v l
set_option maxHeartbeats 3200000 in
theorem cTokAll (w0 : World) (S : ByteArray) (hS : S.size ≤ maxLen / 16) (raw : Nat) (h1 : 1 ≤ raw) (h2 : raw ≤ 65536) (R : FR)
    (C : ∀ W g, IsReader W g S.data.toList 0 → Calls Tryz.prog 31 #[.pointer (some ⟨g, 0, none⟩), .int .i64 raw] W (EndF R W g)) :
    Calls Tryz.prog 18 #[.string S, .int .i64 raw] w0 fun e w' => ∃ v E, e = .returned (.tuple #[v, .int .i64 E]) ∧ Below w0.heap.size w0 w' ∧ EndK R w0 v E w' := by
  have hmf : ∀ (fn : Fn) (first cap : Array Value) (w : World), (Instr.makeFunc fn first cap).run Tryz.prog w = .ok (.func fn first cap) w := fun _ _ _ _ => rfl
  have HC := Lib.hid C
  have CN := Lib.hid (fun W => rNew S hS W)
  have h3 : ¬ (raw : Int) < 1 := by omega
  have h4 : ¬ (65536 : Int) < (raw : Int) := by omega
  clear C hS
  go_enter_defers Tryz.func18, Tryz.ntmps18
  go_wp2_with fail
  have hx := heap_two_first w0 (.cells #[.slice none 0 0] 26) (.cells #[.int .i64 0] 29)
  have hy := heap_two_last w0 (.cells #[.slice none 0 0] 26) (.cells #[.int .i64 0] 29)
  have hb1 : Below w0.heap.size w0 ((w0.alloc (.cells #[.slice none 0 0] 26)).alloc (.cells #[.int .i64 0] 29)) := ((Below.refl _ w0).alloc (Nat.le_refl _) _).alloc (by simp) _
  obtain ⟨w1, hw1⟩ : ∃ w1, (w0.alloc (.cells #[.slice none 0 0] 26)).alloc (.cells #[.int .i64 0] 29) = w1 := ⟨_, rfl⟩
  have hsz : w1.heap.size = w0.heap.size + 2 := by rw [← hw1]; simp
  rw [hw1] at hx hy hb1 ⊢
  obtain ⟨gl, hgl2⟩ : ∃ gl, w0.heap.size = gl := ⟨_, rfl⟩
  have hy2 := hy
  rw [hgl2] at hx hy2 ⊢
  have HB1 := Lib.hid hb1
  have HGL := Lib.hid hgl2
  have HSZ := Lib.hid hsz
  clear hw1 hy hb1 hgl2 hsz
  refine (CN.out w1).mono ?_; rintro e w2 ⟨rfl, hr2, hb2, hz2⟩
  have hx := (hb2.block gl (block_lt hx)).trans hx
  have hy2 := (hb2.block (gl + 1) (block_lt hy2)).trans hy2
  have HB1 := Lib.hid (HB1.out.trans (hb2.mono HB1.out.size))
  have hgl : gl + 1 < w1.heap.size := by have := HSZ.out; have := HGL.out; omega
  obtain ⟨g, hg⟩ : ∃ g, w1.heap.size + 1 = g := ⟨_, rfl⟩
  rw [hg] at hr2 ⊢
  have hgl : gl + 1 < g := by omega
  have hgw : w0.heap.size ≤ g := by have := HGL.out; omega
  have C1 := Lib.hid (HC.out w2 g hr2)
  clear hr2 hb2 hz2 hg CN HC HSZ
  go_wp2_with fail
  cases R with
  | bad F =>
    refine C1.out.mono ?_; rintro e w3 ⟨rfl, hk2⟩
    have hx2 := (hk2.block gl (block_lt hx) (by show ¬ gl = g; omega)).trans hx
    have hy3 := (hk2.block (gl + 1) (block_lt hy2) (by show ¬ gl + 1 = g; omega)).trans hy2
    have HK := Lib.hid hk2
    have HX2 := Lib.hid hx2
    have HY2 := Lib.hid hy3
    clear hx2 hy3 hk2 C1 hx hy2
    go_wp2_with fail
    refine leaves_cons (f := 29) (args := #[.pointer (some ⟨gl, 0, none⟩), .pointer (some ⟨gl + 1, 0, none⟩)]) (by simp) (by simp [go_sem]) ?_
    refine (catch27_yes gl (gl + 1) _ _ F [] w3 _ _ HX2.out HY2.out (by omega)).mono ?_
    rintro e u' w4 ⟨rfl, rfl, wz, hbz, rfl⟩
    have hxz := (hbz.block gl (block_lt HX2.out)).trans HX2.out
    have hyz := (hbz.block (gl + 1) (block_lt HY2.out)).trans HY2.out
    have hx4 := (heap_setCell_other (wz.setCell ⟨gl, 0, none⟩ (.slice none 0 0)) ⟨gl + 1, 0, none⟩ gl (.int .i64 F) (by show gl ≠ gl + 1; omega)).trans (block_set hxz 0 (.slice none 0 0))
    have hy4 := block_set ((heap_setCell_other wz ⟨gl, 0, none⟩ (gl + 1) (.slice none 0 0) (by show gl + 1 ≠ gl; omega)).trans hyz) 0 (.int .i64 F)
    have q0 : ((wz.setCell ⟨gl, 0, none⟩ (.slice none 0 0)).setCell ⟨gl + 1, 0, none⟩ (.int .i64 F)).cell? ⟨gl, 0, none⟩ = some (.slice none 0 0) := cell_in hx4 0
    have q1 : ((wz.setCell ⟨gl, 0, none⟩ (.slice none 0 0)).setCell ⟨gl + 1, 0, none⟩ (.int .i64 F)).cell? ⟨gl + 1, 0, none⟩ = some (.int .i64 F) := cell_in hy4 0
    have HKE := Lib.hid (show Below w0.heap.size w0 ((wz.setCell ⟨gl, 0, none⟩ (.slice none 0 0)).setCell ⟨gl + 1, 0, none⟩ (.int .i64 F)) from by
      have h1 : Keeps (fun k => k = g) w0 w3 := (show Keeps (fun k => k = g) w0 w2 from Keeps.of_below HB1.out).trans HK.out
      have h2 : Below w0.heap.size w0 w3 := h1.below (fun k hk => ⟨hk, by show ¬ k = g; omega⟩)
      have h3 : Below w0.heap.size w0 wz := h2.trans (hbz.mono h1.size)
      exact (h3.setCell (p := ⟨gl, 0, none⟩) (by show w0.heap.size ≤ gl; have := HGL.out; omega) _).setCell (p := ⟨gl + 1, 0, none⟩) (by show w0.heap.size ≤ gl + 1; have := HGL.out; omega) _)
    clear hxz hyz hx4 hy4
    simp [Leaves, settle, results, Tryz.results18, go_sem, q0, q1, flt27]
    exact ⟨_, _, ⟨rfl, rfl⟩, HKE.out, rfl, rfl⟩
  | good l =>
    refine C1.out.mono ?_; rintro e w3 ⟨v, rfl, ho3, hk2⟩
    obtain ⟨pv, cv, hv⟩ := OwnS.slice ho3
    obtain ⟨lv, hlv⟩ : ∃ lv, l.length = lv := ⟨_, rfl⟩
    rw [hlv] at hv
    subst hv
    clear hlv
    have hx2 := (hk2.block gl (block_lt hx) (by show ¬ gl = g; omega)).trans hx
    have hy3 := (hk2.block (gl + 1) (block_lt hy2) (by show ¬ gl + 1 = g; omega)).trans hy2
    have c0 := cell_in hx2 0
    have c1 := cell_in hy3 0
    have f0 := free_in hx2 0
    have f1 := free_in hy3 0
    simp only [List.getElem?_toArray, List.getElem?_cons_zero] at c0 c1
    have hx4 := (heap_setCell_other (w3.setCell ⟨gl, 0, none⟩ (.slice pv lv cv)) ⟨gl + 1, 0, none⟩ gl (.int .i64 0) (by show gl ≠ gl + 1; omega)).trans (block_set hx2 0 (.slice pv lv cv))
    have hy4 := block_set ((heap_setCell_other w3 ⟨gl, 0, none⟩ (gl + 1) (.slice pv lv cv) (by show gl + 1 ≠ gl; omega)).trans hy3) 0 (.int .i64 0)
    have q0 : ((w3.setCell ⟨gl, 0, none⟩ (.slice pv lv cv)).setCell ⟨gl + 1, 0, none⟩ (.int .i64 0)).cell? ⟨gl, 0, none⟩ = some (.slice pv lv cv) := cell_in hx4 0
    have q1 : ((w3.setCell ⟨gl, 0, none⟩ (.slice pv lv cv)).setCell ⟨gl + 1, 0, none⟩ (.int .i64 0)).cell? ⟨gl + 1, 0, none⟩ = some (.int .i64 0) := cell_in hy4 0
    have HKE := Lib.hid (show Below w0.heap.size w0 ((w3.setCell ⟨gl, 0, none⟩ (.slice pv lv cv)).setCell ⟨gl + 1, 0, none⟩ (.int .i64 0)) from by
      have h1 : Keeps (fun k => k = g) w0 w3 := (show Keeps (fun k => k = g) w0 w2 from Keeps.of_below HB1.out).trans hk2
      have h2 : Below w0.heap.size w0 w3 := h1.below (fun k hk => ⟨hk, by show ¬ k = g; omega⟩)
      exact (h2.setCell (p := ⟨gl, 0, none⟩) (by show w0.heap.size ≤ gl; have := HGL.out; omega) _).setCell (p := ⟨gl + 1, 0, none⟩) (by show w0.heap.size ≤ gl + 1; have := HGL.out; omega) _)
    have hlo := block_lt hy2
    have HO5 := Lib.hid (show OwnK w0.heap.size ((w3.setCell ⟨gl, 0, none⟩ (.slice pv lv cv)).setCell ⟨gl + 1, 0, none⟩ (.int .i64 0)) (.slice pv lv cv) l from ((ho3.setLow (p := ⟨gl, 0, none⟩) (by show gl < w2.heap.size; omega) (.slice pv lv cv)).setLow (p := ⟨gl + 1, 0, none⟩) (by show gl + 1 < w2.heap.size; omega) _).base HB1.out.size)
    clear hx4 hy4 hx2 hy3 hk2 ho3 C1 hx hy2
    go_wp2_with fail
    refine leaves_cons (f := 29) (args := #[.pointer (some ⟨gl, 0, none⟩), .pointer (some ⟨gl + 1, 0, none⟩)]) (by simp) (by simp [go_sem]) ?_
    refine (catch27_no ⟨gl, 0, none⟩ ⟨gl + 1, 0, none⟩ _).mono ?_
    rintro e u' w4 ⟨rfl, rfl, rfl⟩
    simp [Leaves, settle, results, Tryz.results18, go_sem, q0, q1]
    exact ⟨_, _, ⟨rfl, rfl⟩, HKE.out, rfl, HO5.out⟩
end Go.Proofs.YtipcdkemokkdfaaGreat

/- Layer 27: mathematics: what is written is read back; what lacks its end is too short. -/
namespace Go.Proofs.YtipcdkemokkdfaaGreat
set_option linter.unusedVariables false
set_option linter.unusedSimpArgs false
set_option maxRecDepth 100000
open Bits hiding packF pack_length
open RunsMath KraftMath CanonMath TurnMath Pm
/-- A code is met. -/
theorem next_hit {l : List Int} {L s : Nat} (h : check l 16 = 0) (hL : ∀ s, s < l.length → len l s ≤ L) (hL16 : L ≤ 16) (hL1 : 1 ≤ L) (hs : s < l.length) (h0 : len l s ≠ 0) (rest : List Bool) :
    nextL l L (msb (code l s) (len l s) ++ rest) = (((s : Nat) : Int), ((len l s : Nat) : Int), 0) := by
  rw [next_dec h hL hL16 hL1 _ (fun _ _ => trivial)]
  refine decL_hit h ⟨hs, h0, ?_⟩
  unfold begL
  have e : (msb (code l s) (len l s) ++ rest).take (msb (code l s) (len l s)).length = msb (code l s) (len l s) := List.take_left' rfl
  rw [e, decide_eq_true rfl, decide_eq_true (by rw [List.length_append]; omega)]
  rfl
/-- The head of a table, anywhere. -/
theorem head_at {r : List Run} (hR : RunsOk r) (P T : List Bool) :
    peek ((P ++ (headB (ofR r) ++ T)).drop P.length) 4 + 4 = headN (ofR r) 19 ∧ headO ((P ++ (headB (ofR r) ++ T)).drop (P.length + 4)) (headN (ofR r) 19) = ofR r ∧ (headB (ofR r)).length = 4 + 3 * headN (ofR r) 19 := by
  obtain ⟨k, hk⟩ : ∃ k, headN (ofR r) 19 = k := ⟨_, rfl⟩
  have hk4 : 4 ≤ k := by rw [← hk]; exact headN_ge (ofR r) 19 (by decide)
  have hk19 : k ≤ 19 := by rw [← hk]; exact headN_le (ofR r) 19
  have hW : headB (ofR r) ++ T = bitsOf (k - 4) 4 ++ ((List.range k).flatMap (lenB (ofR r)) ++ T) := by
    unfold headB headTo
    rw [hk]
    simp only [List.append_assoc]
  refine ⟨?_, ?_, headTo_len _ _ _⟩
  · rw [List.drop_left, hW, peek_put _ _ _ (by omega), hk]; omega
  · rw [← List.drop_drop, List.drop_left, hW, drop_len _ _ _ (by rw [bitsOf_length])]
    rw [← hk]
    exact headO_of hR _
theorem read_facts {l : List Int} (h0 : l ≠ []) (hl : l.length ≤ 1024) (hok : okB l = true) (r : List Run) (hr : packL l = r) :
    RunsOk r ∧ unpack r l.length = (0, l) ∧ sumM r = l.length ∧ r.length ≤ l.length ∧ ∀ x ∈ r.head?, x.1 ≠ 16 := by
  have hR : RunsOk r := by rw [← hr]; exact pack_ok h0 hl hok
  have hbd := (okB_iff l).1 hok
  have hpl : packL l = packF l.length (-1) l := by unfold packL; rw [if_pos hok]
  have hun : unpack r l.length = (0, l) := by
    unfold unpack
    rw [if_neg (by omega), Int.toNat_natCast, ← hr]
    have := unp_pack l.length l.length [] (-1) 0 l (Nat.le_refl _) hbd (by simp) (.inr rfl)
    rw [hpl]
    simpa using this
  have hsum := unp_sum l.length r [] 0 l (by
    have := hun
    unfold unpack at this
    rw [if_neg (by omega), Int.toNat_natCast] at this
    exact this) (by simp)
  refine ⟨hR, hun, by simpa using hsum, by rw [← hr, hpl]; exact RunsMath.pack_length _ _ _ (Nat.le_refl _) hbd, by rw [← hr, hpl]; exact pack_head hbd⟩
end Go.Proofs.YtipcdkemokkdfaaGreat
