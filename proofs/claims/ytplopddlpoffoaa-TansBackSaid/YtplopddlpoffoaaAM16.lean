/- Layer 59: Encode. -/
import Derived.Test.YtplopddlpoffoaaAM15
import Derived.Test.YtplopddlpoffoaaBwa
import Derived.Test.YtplopddlpoffoaaJ3
namespace Go.Proofs.Ytplopddlpoffoaa
open Go.ChangeShapes Go.WideShapes Go.ChangeAt Go.RowKit
set_option linter.unusedVariables false
set_option linter.unusedSimpArgs false
set_option maxRecDepth 100000
open Bits
def fP (p : Nat × Nat) : List Value := [.int .i64 p.1, .int .i64 p.2]
theorem flatP : Flat fP 2 := fun x => ⟨rfl, by intro u hu; simp [fP] at hu; rcases hu with rfl | rfl <;> rfl⟩
theorem info_part : (Try.prog.info? 77).map (fun i => (i.zero, i.size, i.bytes)) = some (some (.agg #[.int .i64 0, .int .i64 0]), 2, 16) := by kernel_rfl
abbrev OwnP (B : Nat) (w : World) (v : Value) (l : List (Nat × Nat)) : Prop := OwnS fP 77 2 B w v l
theorem mask59 (x k : Nat) (hx : x ≤ 1000000000) (hk : k ≤ 31) : Go.bits .and .i64 (x : Int) (((2 ^ k : Nat) : Int) - 1) = ((x % 2 ^ k : Nat) : Int) := by
  have hp : 0 < 2 ^ k := Nat.pow_pos (by decide)
  have hp2 : 2 ^ k ≤ 2 ^ 31 := Nat.pow_le_pow_right (by decide) hk
  have e : ((2 ^ k : Nat) : Int) - 1 = ((2 ^ k - 1 : Nat) : Int) := by omega
  rw [e]
  have h := (bits_nat .i64 62 (by decide) (fun n h0 h1 => IntWalk.i64_in n (by omega)) x (2 ^ k - 1) (by omega) (by omega)).1
  rw [h, Nat.and_two_pow_sub_one_eq_mod]
theorem own_lowS {α : Type} {f : α → List Value} {E sz M B g n c : Nat} {w w' : World} {l : List α} (h : OwnS f E sz B w (.slice (some ⟨g, 0, none⟩) n c) l) (hb : Below M w w') (hg : g < M) : OwnS f E sz B w' (.slice (some ⟨g, 0, none⟩) n c) l := by
  refine ⟨h.1, ?_⟩
  rcases h.2 with hn | ⟨g', cap, cur, e1, hbb, hgg, rest⟩
  · exact .inl hn
  · have : g = g' := by injection e1 with e1 _ _; injection e1 with e1; injection e1
    subst this
    exact .inr ⟨g, cap, cur, e1, hbb, (hb.block g hg).trans hgg, rest⟩
theorem enk_le (a : Nat) : ∀ (f w : Nat), enk a f w ≤ f
  | 0, w => by simp [enk]
  | f + 1, w => by
    have := enk_le a f (w / 2)
    unfold enk
    split <;> omega
theorem parts_ok (L l : List Int) (m q : Nat) : ∀ ss : List Int, ∀ p ∈ (encL L l m q ss).2, p.1 < 2 ^ p.2 ∧ p.2 ≤ m
  | [], p, hp => by simp [encL] at hp
  | s :: r, p, hp => by
    simp only [encL, List.mem_cons] at hp
    rcases hp with rfl | hp
    · exact ⟨Nat.mod_lt _ (Nat.pow_pos (by decide)), enk_le _ _ _⟩
    · exact parts_ok L l m q r p hp
theorem bitsP_len (P : List (Nat × Nat)) (m : Nat) (h : ∀ p ∈ P, p.2 ≤ m) : (bitsP P).length ≤ P.length * m := by
  induction P with
  | nil => simp [bitsP]
  | cons p P ih =>
    have h1 := ih (fun x hx => h x (by simp [hx]))
    have h2 := h p (by simp)
    have e : (bitsP (p :: P)).length = p.2 + (bitsP P).length := by simp [bitsP, bitsOf_length]
    rw [e, List.length_cons, Nat.add_mul, Nat.one_mul]
    omega
/-- What stands in memory once the states are laid in rows. -/
structure EncW (w : World) (B gM n : Nat) (ps : List Sl) (rows : Nat → List Int) : Prop where
  mat : Mat w B gM n ps rows
set_option maxHeartbeats 6400000 in
theorem cEncRows (a0 : Option Addr) (c0 : Nat) (ss : List Int) (a : Option Addr) (c : Nat) (l : List Int) (m q : Nat) (w : World) (h0 : IsInts w a0 ss) (hss : ss.length ≤ 1000) (h : IsInts w a l) (hm5 : 5 ≤ m) (hm12 : m ≤ 12) (hq : 2 ^ m = q) (hv : norV l (q : Int) = true)
    (STR : ByteArray) (E : Int) (hOKR : (∀ s ∈ ss, goodS l s) → STR = ⟨(pack (bitsOf (encL (sprL l q) l m q ss).1 m ++ bitsP (encL (sprL l q) l m q ss).2)).toArray⟩ ∧ E = 0) (hBADR : (∃ s ∈ ss, ¬ goodS l s) → STR = ⟨#[]⟩ ∧ E = 7) : Calls Try.prog 17 #[.slice a0 ss.length c0, .slice a l.length c, .int .i64 m] w fun e w' => e = .returned (.tuple #[.string STR, .int .i64 E]) ∧ Below w.heap.size w w' := by
  have CT := Lib.hid (cTab a c l m q w h hm5 hm12 hq hv)
  have hS : Sp l q := by rw [← hq]; exact sp_of hm5 (by rw [hq]; exact hv)
  have hq4 : q ≤ 4096 := by rw [← hq]; exact Nat.pow_le_pow_right (by decide) hm12
  have hq32 : 32 ≤ q := by rw [← hq]; exact Nat.le_trans (show 32 ≤ 2 ^ 5 by decide) (Nat.pow_le_pow_right (by decide) hm5)
  obtain ⟨h256, hf, -⟩ := norV_facts hv
  have HSP := Lib.hid hS
  have HF := Lib.hid hf
  have HQ := Lib.hid hq
  have HBR := Lib.hid hBADR
  have HI := Lib.hid h
  have HI0 := Lib.hid h0
  have HSM := Lib.hid hS.sym
  have hLlen : (sprL l q).length = q := hS.len
  have hl0 : 0 < l.length := by
    obtain ⟨i, hi, -⟩ := hS.sym 0 (by omega)
    omega
  obtain ⟨L, hL⟩ : ∃ L, sprL l q = L := ⟨_, rfl⟩
  rw [hL] at CT HSM hLlen hOKR
  have HLE := Lib.hid hL
  have HLL := Lib.hid hLlen
  obtain ⟨RES, hRES⟩ : ∃ RES, encL L l m q ss = RES := ⟨_, rfl⟩
  rw [hRES] at hOKR
  have HOR := Lib.hid hOKR
  have HRES := Lib.hid hRES
  have d1 : decide ((1048576 : Int) < (ss.length : Int)) = false := by simp; omega
  clear h h0 hq hv hS hf hL hLlen hRES hOKR hBADR
  go_enter Try.func17, Try.ntmps17
  go_wp2_with fail
  refine CT.out.mono ?_; rintro e w1 ⟨gs, cs, gm, rfl, hos, hom, hgsm, hb⟩
  have lgs := (World.ownsRow.lt hos gs rfl).2
  have hAL : Below w1.heap.size w1 (w1.alloc (.cells #[.slice (some ⟨gs, 0, none⟩) q cs, .slice (some ⟨gm, 0, none⟩) q q] 55)) := (Below.refl _ _).alloc (Nat.le_refl _) _
  have HOS := Lib.hid (OwnS.kept hos hAL)
  have HB := Lib.hid (hb.alloc hb.size (.cells #[.slice (some ⟨gs, 0, none⟩) q cs, .slice (some ⟨gm, 0, none⟩) q q] 55))
  have HX := Lib.hid (heap_alloc_new w1 (.cells #[.slice (some ⟨gs, 0, none⟩) q cs, .slice (some ⟨gm, 0, none⟩) q q] 55))
  have hgsm0 : gs < w1.heap.size := lgs
  clear hos hom hgsm hAL CT
  go_wp2_with (refine make_full (f := fX) info_row (by decide) Try.underlying74 (none, 0, 0) rfl flatX (by decide) rfl _ _ rfl .i64 .i64 _ _ l.length rfl rfl rfl rfl (by omega) ?_; intro w2 ho2 hb2 hs2; have HX2 := Lib.hid ((hb2.block _ (block_lt HX.out)).trans HX.out); have x0 : w2.cell? ⟨w1.heap.size, 0, none⟩ = some (.slice (some ⟨gs, 0, none⟩) q cs) := cell_lit HX2.out 0 _ rfl)
  clear x0
  have HOS := Lib.hid (OwnS.kept HOS.out (hb2.mono (Nat.le_refl _)))
  have HB := Lib.hid (HB.out.trans (hb2.mono HB.out.size))
  have hsA : (w1.alloc (.cells #[.slice (some ⟨gs, 0, none⟩) q cs, .slice (some ⟨gm, 0, none⟩) q q] 55)).heap.size = w1.heap.size + 1 := by simp
  rw [hsA] at ho2 hb2 hs2
  obtain ⟨gb, hgb⟩ : ∃ gb, w1.heap.size = gb := ⟨_, rfl⟩
  rw [hgb] at ho2 hb2 hs2 HX2 lgs ⊢
  have hwgb : w.heap.size ≤ gb := by rw [← hgb]; exact hb.size
  obtain ⟨gM, hgM⟩ : ∃ gM, gb + 1 = gM := ⟨_, rfl⟩
  rw [hgM] at ho2 hb2 hs2 ⊢
  have HMT := Lib.hid (show Mat w2 gM gM l.length (List.replicate l.length (none, 0, 0)) (fun i => stsTo L (i : Int) 0) from ⟨ho2, by simp, fun i p hp => by
    have hil : i < l.length := by have := (List.getElem?_eq_some_iff.1 hp).1; simpa using this
    rw [List.getElem?_replicate, if_pos hil] at hp
    injection hp with hp
    subst hp
    exact ⟨rfl, own_nil _ _⟩, fun i j p r k hij hp hr hk => by
    have hil : i < l.length := by have := (List.getElem?_eq_some_iff.1 hp).1; simpa using this
    rw [List.getElem?_replicate, if_pos hil] at hp
    injection hp with hp
    subst hp
    cases hk⟩)
  have hgbM : gb < gM := by omega
  have hgsM : gs < gM := by omega
  have hwM : w.heap.size ≤ gM := by omega
  have hMs : gM ≤ w2.heap.size := by omega
  clear ho2 hb2 hsA hgb hgM hb HX hgsm0
  go_loopw [40] (fun iv wr => ∃ (k : Nat) (ps : List Sl), k ≤ q ∧ iv = .int .i64 k ∧ gM ≤ wr.heap.size ∧ Hid (Mat wr gM gM l.length ps (fun i => stsTo L (i : Int) k)) ∧ Hid (OwnI w.heap.size wr (.slice (some ⟨gs, 0, none⟩) q cs) L) ∧ Hid (Below w.heap.size w wr)) (fun iv _ => q - (intOf iv).toNat)
  case atStart => exact ⟨0, _, Nat.zero_le _, rfl, hMs, HMT, HOS, HB⟩
  case round =>
    clear HMT HOS HB HX2 hMs hs2
    obtain ⟨k, ps, hk, rfl, hms, hmt, hos, hb⟩ := hrel
    by_cases hlt : k < q
    · obtain ⟨si, hsi1, hsi2, -⟩ := HSM.out k hlt
      have c1 := hos.out.int_cell k (by rw [HLL.out]; exact hlt)
      rw [hsi2] at c1
      obtain ⟨⟨pb, pn, pc⟩, hp⟩ : ∃ p, ps[si]? = some p := ⟨_, List.getElem?_eq_getElem (by rw [hmt.out.len]; exact hsi1)⟩
      obtain ⟨hpn, hpo⟩ := hmt.out.row si _ hp
      simp only at hpn
      have cM := hmt.out.cell hp
      have fM := OwnS.free hmt.out.own si
      have lM := (World.ownsRow.lt hmt.out.own gM rfl).2
      have hneM := hmt.out.ne hp
      have hblk : ∀ j, pb = some j → gM ≤ j := fun j e => (World.ownsRow.lt hpo j (by rw [slV_own]; exact e)).1
      obtain ⟨R0, hR0⟩ : ∃ R0, stsTo L (si : Int) k = R0 := ⟨_, rfl⟩
      have HR0 := Lib.hid hR0
      rw [hR0] at hpn hpo
      have HPO := Lib.hid hpo
      have HP := Lib.hid hp
      subst hpn
      obtain ⟨PA, hPA⟩ : ∃ PA : Option Addr, pb.map (fun g => (⟨g, 0, none⟩ : Addr)) = PA := ⟨_, rfl⟩
      have hsv : slV (pb, R0.length, pc) = .slice PA R0.length pc := by rw [← hPA]; rfl
      have HSV := Lib.hid hsv
      rw [hsv] at cM hpo
      have HPO2 := Lib.hid hpo
      have hRl : R0.length ≤ q := by rw [← hR0, stsTo_len]; have := befTo_le L (si : Int) k; omega
      have HRL := Lib.hid (show R0.length ≤ 1099511627776 by omega)
      have HMS := Lib.hid hms
      have HCM := Lib.hid cM
      have hk1 : (k : Int) < (q : Int) := by omega
      have hs1 : (si : Int) < (l.length : Int) := by omega
      have hs0 : (0 : Int) ≤ (si : Int) := by omega
      have HNM := Lib.hid (show (Value.slice PA R0.length pc).ownBlock ≠ some gM by rw [← hsv, slV_own]; exact hneM)
      have HLM := Lib.hid lM
      have HFM := Lib.hid fM
      clear hR0 hp hpo hPA hsv hRl hneM lM fM
      go_wp2_with (at_builtin; refine app_int1 rfl (.tmp 50) (.tmp 52) rfl gM _ (.slice PA R0.length pc) R0 (k : Int) rfl HPO2.out wr.heap.size 1 rfl rfl HRL.out HMS.out ?_; intro k7 cap7 w7 ho7 hr7; have HO7 := Lib.hid ho7; have HR7 := Lib.hid hr7; have cM7 : w7.cell? ⟨gM, si, none⟩ = some (.slice PA R0.length pc) := (hr7.1.cell (p := ⟨gM, si, none⟩) HLM.out HNM.out).trans HCM.out; have fM7 : w7.frozen? ⟨gM, si, none⟩ = false := (hr7.1.frozen (p := ⟨gM, si, none⟩) HLM.out HNM.out).trans HFM.out; clear ho7 hr7)
      have hB7 : Below gM wr w7 := HR7.out.below hms (fun j hj => hblk j (by
        rw [← HSV.out, slV_own] at hj; exact hj))
      have HMT2 := Lib.hid (show Mat (w7.setCell ⟨gM, si, none⟩ (.slice (some ⟨k7, 0, none⟩) (R0.length + 1) cap7)) gM gM l.length (ps.set si (some k7, R0.length + 1, cap7)) (fun i => stsTo L (i : Int) (k + 1)) by
        have h1 := hmt.out.step (w' := w7) (s := si) (k := k7) (cap := cap7) (x := (k : Int)) HP.out (by rw [HR0.out]; exact HO7.out) (by rw [HR0.out, HSV.out]; exact HR7.out)
        rw [HR0.out] at h1
        have h2 : (fun i => if i = si then R0 ++ [(k : Int)] else stsTo L (i : Int) k) = (fun i : Nat => stsTo L (i : Int) (k + 1)) := by
          funext i
          simp only [stsTo, hsi2]
          by_cases e : i = si
          · subst e; rw [if_pos rfl, if_pos rfl, HR0.out]
          · rw [if_neg e, if_neg (by omega)]
        rw [h2] at h1
        exact h1)
      have HOS2 := Lib.hid (own_away (i := si) (own_low hos.out hB7 hgsM) (show gs ≠ gM from fun e => by omega) (.slice (some ⟨k7, 0, none⟩) (R0.length + 1) cap7))
      have HB2 := Lib.hid ((hb.out.trans (hB7.mono hwM)).setCell (p := ⟨gM, si, none⟩) hwM (.slice (some ⟨k7, 0, none⟩) (R0.length + 1) cap7))
      have hms2 : gM ≤ (w7.setCell ⟨gM, si, none⟩ (.slice (some ⟨k7, 0, none⟩) (R0.length + 1) cap7)).heap.size := Nat.le_trans (Nat.le_trans hms hB7.size) ((Keeps.refl (fun j => j = gM) w7).setCell (p := ⟨gM, si, none⟩) (.inr rfl) (.slice (some ⟨k7, 0, none⟩) (R0.length + 1) cap7)).size
      clear hB7
      go_wp2_with fail
      go_roundw
      case rel => exact ⟨k + 1, _, by omega, by go_num, hms2, HMT2, HOS2, HB2⟩
      case measure => simp [intOf]; omega
    · obtain rfl : q = k := by omega
      have HMT := hmt
      have hmtw := hmt
      have HB := hb
      have lMw := (World.ownsRow.lt hmt.out.own gM rfl).2
      clear hos hmt hb
      go_wp2_with (refine make_full (f := fP) info_part (by decide) Try.underlying75 (0, 0) rfl flatP (by decide) rfl _ _ rfl .i64 .i64 _ _ ss.length rfl rfl rfl rfl (by omega) ?_; intro w3 ho3 hb3 hs3)
      obtain ⟨gp, hgp⟩ : ∃ gp, wr.heap.size = gp := ⟨_, rfl⟩
      have HMT := Lib.hid (HMT.out.kept hb3)
      have HB := Lib.hid (HB.out.trans (hb3.mono HB.out.size))
      rw [hgp] at ho3 hb3 hs3 lMw ⊢
      have HPT := Lib.hid ho3
      have hwp : w.heap.size ≤ gp := by omega
      obtain ⟨N, hN⟩ : ∃ N, ss.length = N := ⟨_, rfl⟩
      have HN := Lib.hid hN
      rw [hN] at HPT hss ⊢
      have hblk : ∀ (i : Nat) (p : Sl), True := fun _ _ => trivial
      have HRB := Lib.hid (show ∀ (i : Nat) (p : Sl), True from fun _ _ => trivial)
      have hNw : IntKind.i64.wrap ((N : Int) - 1) = (N : Int) - 1 := by rw [IntKind.wrap_i64]; omega
      have HMB := Lib.hid (show ∀ (i : Nat) (p : Sl), ps[i]? = some p → ∀ j, p.1 = some j → j < gp from fun i p hp j hj => by
        have h1 := (World.ownsRow.lt (hmtw.out.row i p hp).2 j (by rw [slV_own]; exact hj)).2
        omega)
      clear ho3 hb3 hs3 hN hblk HRB
      go_wp2_with fail
      go_loopw [13, 15] (fun xv iv wr => ∃ (j X : Nat) (P : List (Nat × Nat)), j ≤ N ∧ iv = .int .i64 ((N : Int) - 1 - (j : Int)) ∧ xv = .int .i64 X ∧ X < q ∧ Hid (encL L l m q (ss.drop (N - j)) = (X, P)) ∧ Hid (∀ s ∈ ss.drop (N - j), goodS l s) ∧ Hid (OwnP gp wr (.slice (some ⟨gp, 0, none⟩) N N) (List.replicate (N - j) (0, 0) ++ P)) ∧ Hid (Mat wr gM gM l.length ps (fun i => stsTo L (i : Int) q)) ∧ Hid (Below w.heap.size w wr)) (fun _ iv _ => (intOf iv + 1).toNat)
      case atStart => exact ⟨0, 0, [], Nat.zero_le _, by simp, rfl, by omega, Lib.hid (by rw [Nat.sub_zero, ← HN.out, List.drop_length]; rfl), Lib.hid (by rw [Nat.sub_zero, ← HN.out, List.drop_length]; simp), Lib.hid (by rw [Nat.sub_zero, List.append_nil]; exact HPT.out), HMT, HB⟩
      case round =>
        clear HPT HMT HB
        obtain ⟨j, X, P, hj, rfl, rfl, hX, henc, hga, hpt, hmt, hb⟩ := hrel
        by_cases hlt : j < N
        · obtain ⟨i, hi⟩ : ∃ i, N - 1 - j = i := ⟨_, rfl⟩
          have hiN : i < ss.length := by rw [HN.out]; omega
          have hii : (N : Int) - 1 - (j : Int) = (i : Int) := by omega
          have hNj : N - j = i + 1 := by omega
          have hNj1 : N - (j + 1) = i := by omega
          rw [hii]
          obtain ⟨sv, hsv⟩ : ∃ sv, ss.getD i 0 = sv := ⟨_, rfl⟩
          have hsve : ss[i] = sv := by rw [← hsv, List.getD_eq_getElem?_getD, List.getElem?_eq_getElem hiN]; rfl
          by_cases hgood : ¬ goodS l sv
          · obtain ⟨rfl, rfl⟩ := HBR.out ⟨sv, by rw [← hsve]; exact List.getElem_mem hiN, hgood⟩
            obtain ⟨x0, rfl, -, cx0⟩ := (HI0.out.kept hb.out).at i hiN
            have cs := cx0 i hiN
            rw [hsv] at cs
            have hi1 : (i : Int) < (N : Int) := by omega
            have hi0 : (0 : Int) ≤ (i : Int) := by omega
            by_cases hb1 : sv < 0
            · have d2 : decide (sv < 0) = true := by simpa using hb1
              clear hgood cx0 hsv hsve henc hga hpt hmt hii hNj hNj1 hi
              go_wp2_with fail
              go_ret2
              exact ⟨rfl, hb.out⟩
            · have d2 : decide (sv < 0) = false := by simpa using hb1
              by_cases hb2 : (l.length : Int) ≤ sv
              · have d3 : decide ((l.length : Int) ≤ sv) = true := by simpa using hb2
                clear hgood cx0 hsv hsve henc hga hpt hmt hii hNj hNj1 hi
                go_wp2_with fail
                go_ret2
                exact ⟨rfl, hb.out⟩
              · have d3 : decide ((l.length : Int) ≤ sv) = false := by simpa using hb2
                obtain ⟨si, rfl⟩ : ∃ si : Nat, sv = si := ⟨sv.toNat, by omega⟩
                obtain ⟨x1, rfl, -, cx1⟩ := (HI.out.kept hb.out).at si (by omega)
                have cn := cx1 si (by omega)
                have hA : l.getD si 0 = 0 := by
                  apply Classical.byContradiction
                  intro h
                  exact hgood ⟨by omega, by omega, by rw [Int.toNat_natCast]; exact h⟩
                rw [hA] at cn
                have hs1 : (si : Int) < (l.length : Int) := by omega
                have hs0 : (0 : Int) ≤ (si : Int) := by omega
                clear hgood cx0 cx1 hsv hsve henc hga hpt hmt hii hNj hNj1 hi hA
                go_wp2_with fail
                go_ret2
                exact ⟨rfl, hb.out⟩
          have hgood := Classical.not_not.1 hgood
          have HGA2 := Lib.hid (show ∀ s ∈ ss.drop (N - (j + 1)), goodS l s by
            rw [hNj1, List.drop_eq_getElem_cons hiN, hsve]
            intro s hs
            rcases List.mem_cons.1 hs with e | e
            · rw [e]; exact hgood
            · exact hga.out s (by rw [hNj]; exact e))
          have hencL : (encL L l m q (ss.drop (i + 1))).1 = X := by have := henc.out; rw [hNj] at this; rw [this]
          have hencP : (encL L l m q (ss.drop (i + 1))).2 = P := by have := henc.out; rw [hNj] at this; rw [this]
          obtain ⟨K, y, z, e1, e2, e3, e4, e5, e6, e7, -, -, -, -⟩ := enc_step HSP.out HF.out hm12 HQ.out hX hgood
          rw [HLE.out] at e5 e6
          have hsp2 := enk_spec (aS l sv) m (X + q) (by
            have h1 : 1 ≤ aS l sv := by have := HF.out sv.toNat (by have := hgood.1; have := hgood.2.1; omega); have := hgood.2.2; unfold aS; omega
            rw [HQ.out]
            calc X + q < 2 * q := by omega
              _ = 2 * 1 * q := by omega
              _ ≤ 2 * aS l sv * q := Nat.mul_le_mul_right _ (by omega))
          rw [e1] at hsp2
          have HENC2 := Lib.hid (show encL L l m q (ss.drop i) = (z, (X % 2 ^ K, K) :: P) by
            rw [List.drop_eq_getElem_cons hiN, hsve]
            simp only [encL, hencL, hencP, e1, e2, e6, Int.toNat_natCast])
          obtain ⟨hg1, hg2, hg3⟩ := hgood
          obtain ⟨si, rfl⟩ : ∃ si : Nat, sv = si := ⟨sv.toNat, by omega⟩
          rw [Int.toNat_natCast] at hg3
          have hfs := HF.out si (by omega)
          obtain ⟨A, hA⟩ : ∃ A : Nat, l.getD si 0 = A := ⟨(l.getD si 0).toNat, by omega⟩
          have haS : aS l (si : Int) = A := by unfold aS; rw [Int.toNat_natCast, hA]; simp
          rw [haS] at e4 e5 e6 hsp2
          rw [hA] at hg3 hfs
          obtain ⟨x0, rfl, -, cx0⟩ := (HI0.out.kept hb.out).at i hiN
          have cs := cx0 i hiN
          rw [hsv] at cs
          obtain ⟨x1, rfl, -, cx1⟩ := (HI.out.kept hb.out).at si (by omega)
          have cn := cx1 si (by omega)
          rw [hA] at cn
          have HCN := Lib.hid cn
          have hs1 : (si : Int) < (l.length : Int) := by omega
          have hs0 : (0 : Int) ≤ (si : Int) := by omega
          have hi1 : (i : Int) < (N : Int) := by omega
          have hi0 : (0 : Int) ≤ (i : Int) := by omega
          have hA0 : ((A : Int) == 0) = false := by rw [beq_eq_false_iff_ne]; omega
          have hA1 : ¬ (A : Int) = 0 := by omega
          have hA2 : ¬ A = 0 := by omega
          have d2 : decide ((si : Int) < 0) = false := by simp
          have d3 : decide ((l.length : Int) ≤ (si : Int)) = false := by simp; omega
          have d4 : decide (l.length ≤ si) = false := by simp; omega
          have hqw : IntKind.i64.wrap ((2 : Int) ^ m) = (q : Int) := by
            have e : (2 : Int) ^ m = ((2 ^ m : Nat) : Int) := by simp
            rw [e, HQ.out, IntKind.wrap_i64]; omega
          have hmm : min m 64 = m := by omega
          obtain ⟨Wh, hWh⟩ : ∃ Wh, X + q = Wh := ⟨_, rfl⟩
          rw [hWh] at e2 hsp2
          have hxw : IntKind.i64.wrap ((X : Int) + (q : Int)) = (Wh : Int) := by rw [IntKind.wrap_i64]; omega
          have HE2 := Lib.hid e2
          have HSP2 := Lib.hid hsp2
          have hWq : Wh < 2 * q := by omega
          have HWH := Lib.hid hWh
          have hAq : A ≤ q := by omega
          have HE5 := Lib.hid e5
          have HE6 := Lib.hid e6
          have hyA : A ≤ y := e4
          have hzq : z < q := e7
          have hKm : K ≤ 12 := by omega
          clear hsv hsve hencL hencP e1 e2 e3 e4 e5 e6 e7 hsp2 cx0 cx1 hA haS hg3 hfs henc hWh hg1 hg2
          go_wp2_with fail
          obtain ⟨wo, hwo⟩ : ∃ wo : World, wo = wr := ⟨_, rfl⟩
          rw [← hwo] at HCN cs hmt hpt hb
          try rw [← hwo]
          have HCN2 := Lib.hid (show ∀ d, (wo.drewN d).cell? (x1.add si) = some (.int .i64 (A : Int)) from fun d => HCN.out)
          clear cs cn hwo
          go_loopw [18] (fun kv wr => ∃ (j2 d : Nat), kv = .int .i64 j2 ∧ j2 ≤ K ∧ wr = wo.drewN d) (fun kv _ => K - (intOf kv).toNat)
          case atStart => exact ⟨0, 0, rfl, Nat.zero_le _, rfl⟩
          case round =>
            obtain ⟨j2, d, rfl, hj2, rfl⟩ := hrel
            have cn2 := HCN.out
            obtain ⟨Wj, hWj⟩ : ∃ Wj, Wh / 2 ^ j2 = Wj := ⟨_, rfl⟩
            have hsh : (Wh : Int) / 2 ^ j2 = (Wj : Int) := by
              have e : (2 : Int) ^ j2 = ((2 ^ j2 : Nat) : Int) := by simp
              rw [e, ← hWj]; simp
            have hm2 : min j2 64 = j2 := by omega
            have h2A : IntKind.i64.wrap (2 * (A : Int)) = 2 * (A : Int) := by rw [IntKind.wrap_i64]; omega
            by_cases hjk : j2 < K
            · have hge : 2 * A ≤ Wj := by have := HSP2.out.2.1 j2 hjk; rw [hWj] at this; exact this
              have hge2 : 2 * (A : Int) ≤ (Wj : Int) := by omega
              clear hWj
              go_wp2_with fail
              go_quiet (fail)
              go_wp2_with fail
              go_roundw
              case rel => exact ⟨j2 + 1, _, by go_num, by omega, rfl⟩
              case measure => simp [intOf]; omega
            · obtain rfl : K = j2 := by omega
              have hWy : Wj = y := by rw [← hWj]; exact HE2.out
              subst hWy
              have hlt2 : ¬ 2 * (A : Int) ≤ (Wj : Int) := by have := HSP2.out.1; rw [hWj] at this; omega
              obtain ⟨PK, hPK⟩ : ∃ PK, 2 ^ K = PK := ⟨_, rfl⟩
              have hPK1 : 1 ≤ PK := by rw [← hPK]; exact Nat.pow_pos (by decide)
              have hPK2 : PK ≤ 4096 := by rw [← hPK]; exact Nat.pow_le_pow_right (n := 2) (i := K) (j := 12) (by decide) (by omega)
              have hw1 : IntKind.i64.wrap ((2 : Int) ^ K) = (PK : Int) := by
                have e : (2 : Int) ^ K = ((2 ^ K : Nat) : Int) := by simp
                rw [e, hPK, IntKind.wrap_i64]; omega
              have hw2 : IntKind.i64.wrap ((PK : Int) - 1) = (PK : Int) - 1 := by rw [IntKind.wrap_i64]; omega
              have hAnd : Go.bits .and .i64 (X : Int) ((PK : Int) - 1) = ((X % PK : Nat) : Int) := by
                rw [← hPK]; exact mask59 X K (by omega) (by omega)
              obtain ⟨XK, hXK⟩ : ∃ XK, X % PK = XK := ⟨_, rfl⟩
              rw [hXK] at hAnd
              have HENC3 := Lib.hid (show encL L l m q (ss.drop i) = (z, (XK, K) :: P) by rw [← hXK, ← hPK]; exact HENC2.out)
              have hgi : (List.replicate (N - j) ((0, 0) : Nat × Nat) ++ P)[i]? = some (0, 0) := by
                rw [List.getElem?_append_left (by simp; omega), List.getElem?_replicate, if_pos (by omega)]
              have cp0 := OwnS.cell flatP hpt.out i 0 (0, 0) hgi (by decide)
              have cp1 := OwnS.cell flatP hpt.out i 1 (0, 0) hgi (by decide)
              simp only [fP, List.getElem?_cons_zero, List.getElem?_cons_succ, Nat.add_zero] at cp0 cp1
              have fp0 := hpt.out.free (i * 2)
              have fp1 := hpt.out.free (i * 2 + 1)
              clear hWj hPK hXK hgi
              go_wp2_with fail
              go_quiet (fail)
              rename_i nq
              go_wp2_with fail
              obtain ⟨W3, hW3⟩ : ∃ W3, ((wo.drewN (d + nq)).setCell ⟨gp, i * 2, none⟩ (.int .i64 (XK : Int))).setCell ⟨gp, i * 2 + 1, none⟩ (.int .i64 (K : Int)) = W3 := ⟨_, rfl⟩
              have hK3 : Keeps (fun j => j = gp) wo W3 := by
                rw [← hW3]
                exact (((Keeps.refl (fun j => j = gp) wo).drewN (d + nq)).setCell (p := ⟨gp, i * 2, none⟩) (.inr rfl) _).setCell (p := ⟨gp, i * 2 + 1, none⟩) (.inr rfl) _
              have HMT3 := Lib.hid (hmt.out.away hK3 (show gM ≠ gp from fun e => by omega) (fun i2 p2 hp2 e => by have := HMB.out i2 p2 hp2 gp e; omega))
              have HPT3 := Lib.hid (show OwnP gp W3 (.slice (some ⟨gp, 0, none⟩) N N) (List.replicate (N - (j + 1)) (0, 0) ++ (XK, K) :: P) by
                have h1 := OwnS.set2 flatP (OwnS.drewN hpt.out (d + nq)) i (XK, K) (.int .i64 (XK : Int)) (.int .i64 (K : Int)) rfl (by simp; omega)
                have h2 : (List.replicate (N - j) ((0, 0) : Nat × Nat) ++ P).set i (XK, K) = List.replicate (N - (j + 1)) (0, 0) ++ (XK, K) :: P := by
                  rw [hNj, hNj1, List.replicate_succ', List.append_assoc, List.singleton_append, List.set_append_right _ _ (by simp), List.length_replicate, Nat.sub_self, List.set_cons_zero]
                rw [h2, hW3] at h1
                exact h1)
              have HB3 := Lib.hid (show Below w.heap.size w W3 by
                rw [← hW3]
                exact ((below_dn hb.out (d + nq)).setCell (p := ⟨gp, i * 2, none⟩) hwp _).setCell (p := ⟨gp, i * 2 + 1, none⟩) hwp _)
              have cn3 : W3.cell? (x1.add si) = some (.int .i64 (A : Int)) := by
                obtain ⟨x2, e2, -, cx2⟩ := (HI.out.kept HB3.out).at si (by omega)
                injection e2 with e2
                subst e2
                have h1 := cx2 si (by omega)
                have h0 := (HI.out.kept hb.out).at si (by omega)
                obtain ⟨x3, e3, -, cx3⟩ := h0
                injection e3 with e3
                subst e3
                have h4 := cx3 si (by omega)
                rw [HCN.out] at h4
                injection h4 with h4
                rw [h1, ← h4]
              obtain ⟨p, hp⟩ : ∃ p, ps[si]? = some p := ⟨_, List.getElem?_eq_getElem (by rw [hmt.out.len]; omega)⟩
              have cM := HMT3.out.cell hp
              obtain ⟨gr, cr, hsv, -, -⟩ := own_get (HMT3.out.row si p hp).2 (by have := HE5.out; omega)
              have hro := (HMT3.out.row si p hp).2
              rw [hsv] at cM hro
              have cz := hro.int_cell (Wj - A) HE5.out
              rw [HE6.out] at cz
              obtain ⟨RL, hRL⟩ : ∃ RL, (stsTo L (si : Int) q).length = RL := ⟨_, rfl⟩
              have h5 := HE5.out
              rw [hRL] at cM h5
              obtain ⟨Y2, hY2⟩ : ∃ Y2, Wj - A = Y2 := ⟨_, rfl⟩
              rw [hY2] at cz h5
              have hyw : IntKind.i64.wrap ((Wj : Int) - (A : Int)) = (Y2 : Int) := by rw [IntKind.wrap_i64]; omega
              have hY2l : (Y2 : Int) < (RL : Int) := by omega
              have hY20 : (0 : Int) ≤ (Y2 : Int) := by omega
              have HENC4 := Lib.hid (show encL L l m q (ss.drop (N - (j + 1))) = (z, (XK, K) :: P) by rw [hNj1]; exact HENC3.out)
              have hiv : (i : Int) - 1 = (N : Int) - 1 - ((j + 1 : Nat) : Int) := by omega
              have hiw : IntKind.i64.wrap ((i : Int) - 1) = (i : Int) - 1 := by rw [IntKind.wrap_i64]; omega
              have HIV := Lib.hid hiv
              have HJ1 := Lib.hid (show j + 1 ≤ N by omega)
              have HI0' := Lib.hid (show (N : Int) - 1 - (j : Int) = (i : Int) from hii)
              rw [hW3]
              clear hW3 hK3 cp0 cp1 fp0 fp1 hro hsv hRL hY2 hiv hp h5 hii hNj hNj1 hi
              go_quiet (fail)
              go_wp2_with fail
              go_roundw
              case rel => exact ⟨j + 1, z, (XK, K) :: P, HJ1.out, by rw [HIV.out], rfl, hzq, HENC4, HGA2, Lib.hid (OwnS.drewN HPT3.out nq), Lib.hid (HMT3.out.kept (below_dn (Below.refl _ _) nq)), Lib.hid (below_dn HB3.out nq)⟩
              case measure => first | (simp [intOf]; done) | (simp [intOf]; omega)
        · obtain rfl : N = j := by omega
          have hen := henc.out
          rw [Nat.sub_self, List.drop_zero, HRES.out] at hen
          subst hen
          have hgl := hga.out
          rw [Nat.sub_self, List.drop_zero] at hgl
          obtain ⟨rfl, rfl⟩ := HOR.out hgl
          clear hga hgl
          have hpo := hpt.out
          rw [Nat.sub_self, List.replicate_zero, List.nil_append] at hpo
          have hPN : P.length = N := by
            rcases hpo.2 with ⟨h0, -⟩ | ⟨g', cap', cur', h0, -⟩ <;> simp at h0 <;> omega
          have hpk := parts_ok L l m q ss
          rw [HRES.out] at hpk
          simp only at hpk
          have HPO := Lib.hid hpo
          have HPK := Lib.hid hpk
          have HPN := Lib.hid hPN
          have hXm : X < 2 ^ m := by rw [HQ.out]; exact hX
          have HB := hb
          clear hmt hpt henc hpo hpk hb hPN
          go_wp2_with fail
          refine (wNew wr).mono ?_; rintro e w4 ⟨rfl, hw4, hb4, hz4, hft4⟩
          obtain ⟨gw, hgw⟩ : ∃ gw, wr.heap.size = gw := ⟨_, rfl⟩
          have HPO4 := Lib.hid (OwnS.kept HPO.out hb4)
          have HB4 := Lib.hid (HB.out.trans (hb4.mono HB.out.size))
          have hwgw : w.heap.size ≤ gw := by rw [← hgw]; exact HB.out.size
          have hgpw : gp < gw := by rw [← hgw]; exact (World.ownsRow.lt HPO.out gp rfl).2
          rw [hgw] at hw4 hb4 hz4 hft4 ⊢
          have hgw4 : gw ≤ w4.heap.size := by omega
          have CW := Lib.hid (wPut w4 gw gw [] X m hw4 (by omega) hXm (by simp; omega))
          have HFT4 := Lib.hid hft4
          clear hw4 hz4 hft4 hgw hb4
          have hXu : IntKind.u64.wrap (X : Int) = (X : Int) := IntWalk.u64_in _ (by omega)
          go_wp2_with fail
          refine CW.out.mono ?_; rintro e w5 ⟨rfl, hw5, hk5, hf5⟩
          obtain ⟨hb5, hft5⟩ := put_frame (n := gw) (Below.refl gw w4) hgw4 HFT4.out hk5 hf5
          have HPO5 := Lib.hid (own_lowS HPO4.out hb5 hgpw)
          have HB5 := Lib.hid (HB4.out.trans (hb5.mono hwgw))
          have HW5 := Lib.hid (show IsWriter w5 gw gw (bitsOf X m ++ bitsP (P.take 0)) by simpa [bitsP] using hw5)
          have HFT5 := Lib.hid hft5
          have hgw5 : gw ≤ w5.heap.size := Nat.le_trans hgw4 hb5.size
          have HTA := Lib.hid (show P.take N = P by rw [List.take_of_length_le]; rw [HPN.out]; exact Nat.le_refl _)
          have HLB := Lib.hid (fun t => bitsP_len (P.take t) m (fun p hp => (HPK.out p (List.mem_of_mem_take hp)).2))
          clear hw5 hk5 hf5 hb5 hft5 CW HPO4 HB4 HFT4 hXu
          go_wp2_with fail
          go_loopw [132] (fun iv wr => ∃ t : Nat, t ≤ N ∧ iv = .int .i64 t ∧ gw ≤ wr.heap.size ∧ Hid (OwnP gp wr (.slice (some ⟨gp, 0, none⟩) N N) P) ∧ Hid (IsWriter wr gw gw (bitsOf X m ++ bitsP (P.take t))) ∧ Hid (∀ k, foot wr gw k → gw ≤ k) ∧ Hid (Below w.heap.size w wr)) (fun iv _ => N - (intOf iv).toNat)
          case atStart => exact ⟨0, Nat.zero_le _, rfl, hgw5, HPO5, HW5, HFT5, HB5⟩
          case round =>
            clear HPO5 HW5 HFT5 HB5 hgw5
            obtain ⟨t, ht, rfl, hgr, hpo, hwr, hft, hb⟩ := hrel
            by_cases hlt : t < N
            · obtain ⟨⟨b, kk⟩, hp⟩ : ∃ p, P[t]? = some p := ⟨_, List.getElem?_eq_getElem (by rw [HPN.out]; exact hlt)⟩
              have hpk := HPK.out (b, kk) (List.mem_of_getElem? hp)
              simp only at hpk
              have c0 := OwnS.cell flatP hpo.out t 0 (b, kk) hp (by decide)
              have c1 := OwnS.cell flatP hpo.out t 1 (b, kk) hp (by decide)
              simp only [fP, List.getElem?_cons_zero, List.getElem?_cons_succ, Nat.add_zero] at c0 c1
              have htk : P.take (t + 1) = P.take t ++ [(b, kk)] := by rw [List.take_add_one, hp]; rfl
              have hbl := HLB.out t
              have htl : (P.take t).length ≤ 1000 := by rw [List.length_take]; omega
              have hmul : (P.take t).length * m ≤ 1000 * 12 := Nat.mul_le_mul htl hm12
              have hAL : Below wr.heap.size wr (wr.alloc (.cells #[.int .i64 (b : Int), .int .i64 (kk : Int)] 77)) := (Below.refl _ _).alloc (Nat.le_refl _) _
              obtain ⟨hwA, hfA⟩ := IsWriter.keep (S := fun _ => False) hwr.out (Keeps.of_below hAL) (fun _ _ h => h)
              have CW := Lib.hid (wPut _ gw gw _ b kk hwA (by omega) hpk.1 (by rw [List.length_append, bitsOf_length]; omega))
              have HW6 := Lib.hid (show bitsOf X m ++ bitsP (P.take t) ++ bitsOf b kk = bitsOf X m ++ bitsP (P.take (t + 1)) by rw [htk, List.append_assoc]; congr 1; simp [bitsP])
              rw [HW6.out] at CW
              have HFA := Lib.hid (fun k (h : foot (wr.alloc (.cells #[.int .i64 (b : Int), .int .i64 (kk : Int)] 77)) gw k) => hft.out k ((hfA k).1 h))
              have HPA := Lib.hid (OwnS.kept hpo.out hAL)
              have HBA := Lib.hid (hb.out.trans (hAL.mono hb.out.size))
              have hgA : gw ≤ (wr.alloc (.cells #[.int .i64 (b : Int), .int .i64 (kk : Int)] 77)).heap.size := Nat.le_trans hgr hAL.size
              have hb64 : b < 18446744073709551616 := Nat.lt_of_lt_of_le hpk.1 (Nat.le_trans (Nat.pow_le_pow_right (by decide) (show kk ≤ 12 by omega)) (by decide))
              have hbu : IntKind.u64.wrap (b : Int) = (b : Int) := IntWalk.u64_in _ (by omega)
              have ht1 : (t : Int) < (N : Int) := by omega
              have HK12 := Lib.hid hpk
              clear htk hbl htl hmul hAL hwA hfA hb64 hpo hwr hft hb hp hpk
              go_wp2_with fail
              refine CW.out.mono ?_; rintro e w6 ⟨rfl, hw6, hk6, hf6⟩
              obtain ⟨hb6, hft6⟩ := put_frame (n := gw) (Below.refl gw _) hgA HFA.out hk6 hf6
              have HPO6 := Lib.hid (own_lowS HPA.out hb6 hgpw)
              have HB6 := Lib.hid (HBA.out.trans (hb6.mono hwgw))
              have HWW := Lib.hid hw6
              have HFT6 := Lib.hid hft6
              have hg6 : gw ≤ w6.heap.size := Nat.le_trans hgA hb6.size
              clear hw6 hk6 hf6 hb6 hft6 c0 c1
              go_wp2_with fail
              go_roundw
              case rel => exact ⟨t + 1, by omega, by go_num, hg6, HPO6, HWW, HFT6, HB6⟩
              case measure => simp [intOf]; omega
            · obtain rfl : N = t := by omega
              have hw := hwr.out
              rw [HTA.out] at hw
              have CB := Lib.hid (wBytes wr gw gw _ hw)
              clear hw hwr hpo hft
              go_wp2_with fail
              refine CB.out.mono ?_; rintro e w6 ⟨rfl, hb6⟩
              have HB6 := Lib.hid (hb.out.trans (hb6.mono hb.out.size))
              clear hb6
              go_wp2_with fail
              go_ret2
              exact ⟨rfl, HB6.out⟩
end Go.Proofs.Ytplopddlpoffoaa
