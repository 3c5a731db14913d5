/- Layer 24: the document's Freqs. -/
import Derived.Test.YtofmjcelmbkebaaAF5
import Derived.OneCell
namespace Go.Proofs.Ytofmjcelmbkebaa
open Go.ChangeShapes Go.WideShapes Go.ChangeAt Go.RowKit
set_option linter.unusedVariables false
set_option linter.unusedSimpArgs false
set_option maxRecDepth 100000
theorem OwnS.other {B : Nat} {w : World} {g n cap k j : Nat} {l : List Int} {u : Value} (h : OwnI B w (.slice (some ⟨g, 0, none⟩) n cap) l) (hk : g ≠ k) : OwnI B (w.setCell ⟨k, j, none⟩ u) (.slice (some ⟨g, 0, none⟩) n cap) l :=
  ownsRow_setCell_other h (by simp [Value.ownBlock, hk]) u
/-- What is told of tokens. -/
def frA (l : List Tk) : List Int × List Int × Int := if ∀ t ∈ l, t.ok then ((tl l).1, (tl l).2, 0) else ([], [], 10)
theorem frA_bad (l : List Tk) (k : Nat) (h : k < l.length) (hb : ¬ l[k].ok) : frA l = ([], [], 10) := by
  unfold frA
  exact if_neg (fun hh => hb (hh _ (List.getElem_mem h)))
theorem frA_ok (l : List Tk) (h : ∀ i (h : i < l.length), l[i].ok) : frA l = ((tl l).1, (tl l).2, 0) := by
  unfold frA
  refine if_pos (fun t ht => ?_)
  obtain ⟨i, hi, rfl⟩ := List.getElem_of_mem ht
  exact h i hi
set_option maxHeartbeats 3200000 in
theorem dFreqs (a : Option Addr) (c n : Nat) (l : List Tk) (w : World) (hl : l.length = n) (hi : IsTk w a l) (hn : n ≤ 300) :
    Calls Try.prog 18 #[.slice a n c] w fun e w' => ∃ v1 v2, e = .returned (.tuple #[v1, v2, .int .i64 (frA l).2.2]) ∧ IsL w' v1 (frA l).1 ∧ IsL w' v2 (frA l).2.1 ∧ Below w.heap.size w w' := by
  have HI := Lib.hid hi
  have HL := Lib.hid hl
  have CS := Lib.hid (fun (t : Tk) W => Tok.refSym_any t.k t.b t.l t.d t.r W)
  have CD := Lib.hid (fun n W h1 h2 => Slo.refDist_in n h1 h2 W)
  clear hi hl
  go_enter Try.func18, Try.ntmps18
  go_wp2_with (first | (refine make_int rfl _ _ rfl .i64 .i64 401 401 401 rfl rfl rfl rfl (by decide) ?_; intro w1 ho1 hb1 hs1) | (refine make_int rfl _ _ rfl .i64 .i64 52 52 52 rfl rfl rfl rfl (by decide) ?_; intro w2 ho2 hb2 hs2))
  have HO2 := Lib.hid ho2
  have HM := Lib.hid (ho1.kept hb2)
  have HB := Lib.hid (hb1.trans (hb2.mono (Nat.le_of_lt hs1)))
  clear ho2 hb2 hs2 ho1 hb1
  obtain ⟨gm, hgm⟩ : ∃ g, w.heap.size = g := ⟨_, rfl⟩
  obtain ⟨gd, hgd⟩ : ∃ g, w1.heap.size = g := ⟨_, rfl⟩
  have HG := Lib.hid hgm
  rw [hgm] at HM HB hs1 ⊢
  rw [hgd] at HO2 hs1 ⊢
  have hne : gm ≠ gd := by omega
  have hne2 : gd ≠ gm := by omega
  have HLE := Lib.hid (show gm ≤ gd by omega)
  clear hgm hgd
  go_loopw [7] (fun iv wr => ∃ (k : Nat) (m d : List Int), k ≤ n ∧ iv = .int .i64 k ∧ Hid (tl (l.take k) = (m, d)) ∧ Hid (∀ i (h : i < l.length), i < k → l[i].ok) ∧ Hid (OwnI gm wr (.slice (some ⟨gm, 0, none⟩) 401 401) m) ∧ Hid (OwnI gd wr (.slice (some ⟨gd, 0, none⟩) 52 52) d) ∧ Hid (Below gm w wr)) (fun iv _ => n - (intOf iv).toNat)
  case atStart => exact ⟨0, _, _, Nat.zero_le _, rfl, Lib.hid rfl, Lib.hid (fun i h h2 => by omega), HM, HO2, HB⟩
  case round =>
    clear HM HO2 HB
    obtain ⟨k, m, d, hk, rfl, HT, HK, HM, HD, HB⟩ := hrel
    by_cases hlt : k < n
    · have hki : (k : Int) < n := by omega
      have hkl : k < l.length := by rw [HL.out]; exact hlt
      obtain ⟨x, rfl, hx, hc⟩ := HI.out.at k hkl
      have HS := Lib.hid (tl_succ l k hkl)
      have HOKB := Lib.hid (fun h => frA_bad l k hkl h)
      have HK2 := Lib.hid (fun (h : l[k].ok) => (show ∀ i (h : i < l.length), i < k + 1 → l[i].ok from fun i hi h2 => by
        by_cases e : i = k
        · subst e; exact h
        · exact HK.out i hi (by omega)))
      obtain ⟨t, ht⟩ : ∃ t, l[k] = t := ⟨_, rfl⟩
      rw [ht] at hc HS HOKB HK2
      rw [HT.out] at HS
      have HCW := Lib.hid (fun W (hb : Below gm w W) => (hc.kept (HG.out.symm ▸ hb) : tkAt W x k t))
      have hlen := tl_len (l.take k)
      have hbd := tl_bd (l.take k)
      rw [HT.out, List.length_take_of_le (by omega)] at hbd
      rw [HT.out] at hlen
      obtain ⟨hm401, hd52⟩ := hlen
      simp only at hm401 hd52
      obtain ⟨hmb, hdb⟩ := hbd
      obtain ⟨c0, c1, c2, c3, c4⟩ := HCW.out wr HB.out
      have hxb : (x.add (k * 5)).block < wr.heap.size := cell_block c0
      have CT := Lib.hid (fun W => CS.out t W)
      clear ht hx hc
      by_cases hok : t.ok
      · obtain ⟨s1, s2, s3, s4⟩ := sym_ok t hok
        rw [s1, s3] at CT
        have HS := Lib.hid (show tl (l.take (k + 1)) = (bump m (symN t), if t.k = 1 then bump d (Slo.slotD t.d.toNat) else d) from HS.out)
        have HK3 := Lib.hid (HK2.out hok)
        obtain ⟨S, hS⟩ : ∃ S, symN t = S := ⟨_, rfl⟩
        rw [hS] at CT s2 HS
        obtain ⟨v, hv⟩ : ∃ v, m.getD S 0 = v := ⟨_, rfl⟩
        have hvb := hmb S
        rw [hv] at hvb
        have hvb2 : 0 ≤ v ∧ v ≤ 300 := by omega
        have hSi : (S : Int) < 401 := by omega
        have hS4 : S < 401 := by omega
        clear s1 s3 hok hS HOKB HK2 hvb
        go_wp2_with fail
        refine (CT.out _).mono ?_; rintro e w3 ⟨rfl, hb⟩
        have HM2 := Lib.hid (HM.out.kept hb)
        have HD2 := Lib.hid (HD.out.kept hb)
        have HB2 := Lib.hid (HB.out.trans (hb.mono (by rw [← HG.out]; exact HB.out.size)))
        clear hb HM HD HB c0 c1 c2 c3 c4 hxb CT
        have co := HM2.out.int_cell S (by rw [hm401]; exact hS4)
        rw [hv] at co
        have fo := HM2.out.free S
        have lo := (HM2.out.lt _ rfl).2
        have HM3 := Lib.hid (HM2.out.set_int S (v + 1) (by rw [hm401]; exact hS4))
        have HD3 := Lib.hid (HD2.out.other (k := gm) (j := S) (u := .int .i64 (v + 1)) hne2)
        have HB3 := Lib.hid (HB2.out.setCell (p := ⟨gm, S, none⟩) (Nat.le_refl _) (.int .i64 (v + 1)))
        obtain ⟨c0, c1, c2, c3, c4⟩ := HCW.out _ HB3.out
        have hbm : bump m S = m.set S (v + 1) := by unfold bump; rw [hv]
        by_cases hk1 : t.k = 1
        · obtain ⟨h1, h2⟩ := s4 hk1
          obtain ⟨D, hD⟩ : ∃ D : Nat, t.d = D := ⟨t.d.toNat, by omega⟩
          rw [if_pos hk1, hD, Int.toNat_natCast, hbm] at HS
          rw [hD] at c3
          have CDD := Lib.hid (fun W => CD.out D W (by omega) (by omega))
          have hQ := (Slo.slotD_facts D (by omega) (by omega)).1
          obtain ⟨Q, hQe⟩ : ∃ Q, Slo.slotD D = Q := ⟨_, rfl⟩
          rw [hQe] at CDD hQ HS
          obtain ⟨u, hu⟩ : ∃ u, d.getD Q 0 = u := ⟨_, rfl⟩
          have hub := hdb Q
          rw [hu] at hub
          have hub2 : 0 ≤ u ∧ u ≤ 300 := by omega
          have hQi : (Q : Int) < 52 := by omega
          have hQ4 : Q < 52 := by omega
          have hbd2 : bump d Q = d.set Q (u + 1) := by unfold bump; rw [hu]
          rw [hbd2] at HS
          rw [hk1] at c0
          clear hub hD h1 h2 hQe
          go_wp2_with fail
          refine (CDD.out _).mono ?_; rintro e w4 ⟨rfl, hb⟩
          have HM4 := Lib.hid (HM3.out.kept hb)
          have HD4 := Lib.hid (HD3.out.kept hb)
          have HB4 := Lib.hid (HB3.out.trans (hb.mono (by have h1 := HB3.out.size; have h2 := HG.out; omega)))
          clear hb HM3 HD3 HB3 c0 c1 c2 c3 c4 CDD co fo lo HM2 HD2 HB2
          have co := HD4.out.int_cell Q (by rw [hd52]; exact hQ4)
          rw [hu] at co
          have fo := HD4.out.free Q
          have lo := (HD4.out.lt _ rfl).2
          have HD5 := Lib.hid (HD4.out.set_int Q (u + 1) (by rw [hd52]; exact hQ4))
          have HM5 := Lib.hid (HM4.out.other (k := gd) (j := Q) (u := .int .i64 (u + 1)) hne)
          have HB5 := Lib.hid (HB4.out.setCell (p := ⟨gd, Q, none⟩) HLE.out (.int .i64 (u + 1)))
          go_wp2_with fail
          go_roundw
          case rel => exact ⟨k + 1, _, _, by omega, by go_num, HS, HK3, HM5, HD5, HB5⟩
          case measure => simp [intOf] <;> omega
        · rw [if_neg hk1, hbm] at HS
          go_wp2_with fail
          go_roundw
          case rel => exact ⟨k + 1, _, _, by omega, by go_num, HS, HK3, HM3, HD3, HB3⟩
          case measure => simp [intOf] <;> omega
      · have HE := Lib.hid (HOKB.out hok)
        rw [sym_no t hok] at CT
        go_wp2_with fail
        refine (CT.out _).mono ?_; rintro e w3 ⟨rfl, hb⟩
        have HB2 := Lib.hid (HB.out.trans (hb.mono (by rw [← HG.out]; exact HB.out.size)))
        clear hb
        go_wp2_with fail
        go_ret3
        rw [HE.out]
        exact ⟨_, _, rfl, IsL.nil _, IsL.nil _, by rw [HG.out]; exact HB2.out⟩
    · obtain rfl : k = n := by omega
      have HF := Lib.hid (frA_ok l (fun i h => HK.out i h (by have := HL.out; omega)))
      have hTk := HT.out
      rw [List.take_of_length_le (by rw [HL.out]; exact Nat.le_refl _)] at hTk
      have hm := (tl_len l).1
      have hd := (tl_len l).2
      rw [hTk] at hm hd
      go_wp2_with fail
      go_ret3
      rw [HF.out, hTk]
      refine ⟨_, _, rfl, ?_, ?_, by rw [HG.out]; exact HB.out⟩
      · exact HM.out.isL (by rw [hm]; decide)
      · exact HD.out.isL (by rw [hd]; decide)
end Go.Proofs.Ytofmjcelmbkebaa
