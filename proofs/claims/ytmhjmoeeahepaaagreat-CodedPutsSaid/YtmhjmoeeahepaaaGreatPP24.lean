import Derived.Test.YtmhjmoeeahepaaaGreatPP23
import Derived.OneCell
import Derived.Deep.RegionHeld3
import Derived.Deep.CutRange
import Derived.Test.YtmhjmoeeahepaaaGreatPP07
/- Layer 24: the document's Freqs. -/
namespace Go.Proofs.YtmhjmoeeahepaaaGreat
open Go.ChangeShapes Go.WideShapes Go.ChangeAt Go.RowKit
set_option linter.unusedVariables false
set_option linter.unusedSimpArgs false
set_option maxRecDepth 100000
theorem OwnS.other {B : Nat} {w : World} {g n cap k j : Nat} {l : List Int} {u : Value} (h : OwnI B w (.slice (some ⟨g, 0, none⟩) n cap) l) (hk : g ≠ k) : OwnI B (w.setCell ⟨k, j, none⟩ u) (.slice (some ⟨g, 0, none⟩) n cap) l :=
  ownsRow_setCell_other h (by simp [Value.ownBlock, hk]) u
/-- What is told of tokens. -/
def frA (l : List Tk) : List Int × List Int × Int := if ∀ t ∈ l, t.ok then ((tl l).1, (tl l).2, 0) else ([], [], 10)
theorem frA_bad (l : List Tk) (k : Nat) (h : k < l.length) (hb : ¬ l[k].ok) : frA l = ([], [], 10) := by
  unfold frA
  exact if_neg (fun hh => hb (hh _ (List.getElem_mem h)))
theorem frA_ok (l : List Tk) (h : ∀ i (h : i < l.length), l[i].ok) : frA l = ((tl l).1, (tl l).2, 0) := by
  unfold frA
  refine if_pos (fun t ht => ?_)
  obtain ⟨i, hi, rfl⟩ := List.getElem_of_mem ht
  exact h i hi
end Go.Proofs.YtmhjmoeeahepaaaGreat

/- Layer 24: Freqs. -/
namespace Go.Proofs.YtmhjmoeeahepaaaGreat
open Go.ChangeShapes Go.WideShapes Go.ChangeAt Go.RowKit
set_option linter.unusedVariables false
set_option linter.unusedSimpArgs false
set_option maxRecDepth 100000
theorem made_repF (v : Value) (n : Nat) : (madeCells #[v] n).toList = List.replicate n v := by
  rw [List.eq_replicate_iff]
  refine ⟨by simp [size_madeCells], fun b hb => ?_⟩
  unfold madeCells at hb
  simp only [Array.toList_map, List.mem_map] at hb
  obtain ⟨i, -, rfl⟩ := hb
  simp [Nat.mod_one]
theorem mk_fullI (N : Nat) (L : Int) (hL : L = N) (hN : N ≤ 1000) :
    ∃ ROW : Array Value, (ROW.size = N ∧ ROW.toList = List.replicate N (Value.int .i64 0)) ∧ ∀ w : World, (Instr.makeSlice 27 (.int .i64 L) (.int .i64 L)).run Tryz.prog w = .ok (.slice (some ⟨w.heap.size, 0, none⟩) N N) (w.alloc (.cells ROW 3)) := by
  obtain ⟨i, hi, hz, hs, hb⟩ := info_get info_int
  refine ⟨madeCells (Value.int .i64 0).cells N, ⟨size_madeCells _ _, made_repF _ _⟩, fun w => ?_⟩
  have := run_make (w := w) (P := Tryz.prog) 27 3 i (.int .i64 0) Tryz.underlying27 hi hz .i64 .i64 L L (by omega) (by omega) (by
    rw [hb]
    omega) (by omega)
  rw [hs, hL, Int.toNat_natCast, Nat.mul_one] at this
  rw [hL]
  exact this
theorem own_fullI {w : World} {g N B : Nat} {ROW : Array Value} (h : w.heap[g]? = some (.cells ROW 3 (0, 0))) (hB : B ≤ g) (hs : ROW.size = N ∧ ROW.toList = List.replicate N (Value.int .i64 0)) (hc : N ≤ 1000) : OwnI B w (.slice (some ⟨g, 0, none⟩) N N) (List.replicate N 0) := by
  refine ⟨by rw [flatMap_fI]; simp [intCells], .inr ⟨g, N, ROW, by rw [List.length_replicate], hB, h, by simp, by unfold maxLen; omega, by omega, ?_⟩⟩
  rw [hs.2, Nat.mul_one, List.take_of_length_le (by simp), flatMap_fI]
  simp [intCells]
theorem ad1 (w : World) (a b : Obj) : ((w.alloc a).alloc b).drew.heap[w.heap.size + 1]? = some b := by
  have := heap_alloc_new (w.alloc a) b
  show ((w.alloc a).alloc b).heap[w.heap.size + 1]? = some b
  simpa using this
theorem ad0 (w : World) (a b : Obj) : ((w.alloc a).alloc b).drew.heap[w.heap.size]? = some a := heap_old (heap_alloc_new w a) b
theorem bd2 (w : World) (a b : Obj) : Below w.heap.size w ((w.alloc a).alloc b).drew := (((Below.refl _ _).alloc (Nat.le_refl _) a).alloc (by simp) b).drew
set_option maxHeartbeats 3200000 in
theorem cFreqs (a : Option Addr) (c n : Nat) (l : List Tk) (w : World) (hl : l.length = n) (hi : IsTk w a l) (hn : n ≤ 300) :
    Calls Tryz.prog 18 #[.slice a n c] w fun e w' => ∃ v1 v2, e = .returned (.tuple #[v1, v2, .int .i64 (frA l).2.2]) ∧ IsL w' v1 (frA l).1 ∧ IsL w' v2 (frA l).2.1 ∧ Below w.heap.size w w' := by
  have HI := Lib.hid hi
  have HL := Lib.hid hl
  have CS := Lib.hid (fun (t : Tk) W => Tok.sym_any t.k t.b t.l t.d t.r W)
  have CD := Lib.hid (fun n W h1 h2 => Slo.Dist_in n h1 h2 W)
  clear hi hl
  go_enter Tryz.func18, Tryz.ntmps18
  obtain ⟨R1, hR1, hmk1⟩ := mk_fullI 401 401 rfl (by decide)
  obtain ⟨R2, hR2, hmk2⟩ := mk_fullI 52 52 rfl (by decide)
  have HR1 := Lib.hid hR1; have HR2 := Lib.hid hR2
  clear hR1 hR2
  go_wp2_with fail
  go_cut [5, 6] from 1 to 1 (fun s5 s6 wc => ∃ gm gd, s5 = .slice (some ⟨gm, 0, none⟩) 401 401 ∧ s6 = .slice (some ⟨gd, 0, none⟩) 52 52 ∧ OwnI w.heap.size wc (.slice (some ⟨gm, 0, none⟩) 401 401) (List.replicate 401 0) ∧ OwnI w.heap.size wc (.slice (some ⟨gd, 0, none⟩) 52 52) (List.replicate 52 0) ∧ gm ≠ gd ∧ w.heap.size ≤ gm ∧ w.heap.size ≤ gd ∧ Below w.heap.size w wc)
  case first =>
    go_region_with fail
    all_goals
      go_wp2_with fail
      go_meet
      case rel =>
        refine ⟨_, _, rfl, rfl, ?_, ?_, ?_, ?_, ?_, ?_⟩
        · first | exact own_fullI (ad0 _ _ _) (by omega) HR1.out (by decide) | exact own_fullI (ad1 _ _ _) (by omega) HR1.out (by decide)
        · first | exact own_fullI (ad0 _ _ _) (by omega) HR2.out (by decide) | exact own_fullI (ad1 _ _ _) (by omega) HR2.out (by decide)
        · omega
        · omega
        · omega
        · exact bd2 _ _ _
  case rest =>
    obtain ⟨gm, gd, rfl, rfl, hm, hd, hne, hg1, hg2, hb⟩ := hcut
    have HM := Lib.hid hm
    have HD := Lib.hid hd
    have HB := Lib.hid hb
    have HG1 := Lib.hid hg1
    have HG2 := Lib.hid hg2
    have hne2 : gd ≠ gm := fun h => hne h.symm
    clear hm hd hb hmk1 hmk2 HR1 HR2 hg1 hg2
    go_wp2_with fail
    go_loopw [18] (fun iv wr => ∃ (k : Nat) (m d : List Int), k ≤ n ∧ iv = .int .i64 k ∧ Hid (tl (l.take k) = (m, d)) ∧ Hid (∀ i (h : i < l.length), i < k → l[i].ok) ∧ Hid (OwnI w.heap.size wr (.slice (some ⟨gm, 0, none⟩) 401 401) m) ∧ Hid (OwnI w.heap.size wr (.slice (some ⟨gd, 0, none⟩) 52 52) d) ∧ Hid (Below w.heap.size w wr)) (fun iv _ => n - (intOf iv).toNat)
    case atStart => exact ⟨0, _, _, Nat.zero_le _, rfl, Lib.hid rfl, Lib.hid (fun i h h2 => by omega), HM, HD, HB⟩
    case round =>
      clear HM HD HB
      obtain ⟨k, m, d, hk, rfl, HT, HK, HM, HD, HB⟩ := hrel
      by_cases hlt : k < n
      · have hki : (k : Int) < n := by omega
        have hkl : k < l.length := by rw [HL.out]; exact hlt
        obtain ⟨x, rfl, hx, hc⟩ := HI.out.at k hkl
        have HS := Lib.hid (tl_succ l k hkl)
        have HOKB := Lib.hid (fun h => frA_bad l k hkl h)
        have HK2 := Lib.hid (fun (h : l[k].ok) => (show ∀ i (h : i < l.length), i < k + 1 → l[i].ok from fun i hi h2 => by
          by_cases e : i = k
          · subst e; exact h
          · exact HK.out i hi (by omega)))
        obtain ⟨t, ht⟩ : ∃ t, l[k] = t := ⟨_, rfl⟩
        rw [ht] at hc HS HOKB HK2
        rw [HT.out] at HS
        have hlen := tl_len (l.take k)
        have hbd := tl_bd (l.take k)
        rw [HT.out, List.length_take_of_le (by omega)] at hbd
        rw [HT.out] at hlen
        obtain ⟨hm401, hd52⟩ := hlen
        simp only at hm401 hd52
        obtain ⟨hmb, hdb⟩ := hbd
        obtain ⟨c0, c1, c2, c3, c4⟩ := hc.kept HB.out
        have hxb : (x.add (k * 5)).block < wr.heap.size := cell_block c0
        have CT := Lib.hid (fun W => CS.out t W)
        clear ht hx hc
        obtain ⟨gb, hgb⟩ : ∃ g, wr.heap.size = g := ⟨_, rfl⟩
        have lgm : gm < wr.heap.size := (HM.out.lt _ rfl).2
        have hgbm : gb ≠ gm := by omega
        have hqb := heap_alloc_new wr (.cells #[.int .i64 t.k, .int .i64 t.b, .int .i64 t.l, .int .i64 t.d, .int .i64 t.r] 35)
        have HMa := Lib.hid (HM.out.alloc (.cells #[.int .i64 t.k, .int .i64 t.b, .int .i64 t.l, .int .i64 t.d, .int .i64 t.r] 35))
        have HDa := Lib.hid (HD.out.alloc (.cells #[.int .i64 t.k, .int .i64 t.b, .int .i64 t.l, .int .i64 t.d, .int .i64 t.r] 35))
        have HBa := Lib.hid (HB.out.alloc HB.out.size (.cells #[.int .i64 t.k, .int .i64 t.b, .int .i64 t.l, .int .i64 t.d, .int .i64 t.r] 35))
        rw [hgb] at hqb
        have HQB := Lib.hid hqb
        clear hqb lgm
        by_cases hok : t.ok
        · obtain ⟨s1, s2, s3, s4⟩ := sym_ok t hok
          rw [s1, s3] at CT
          have HS := Lib.hid (show tl (l.take (k + 1)) = (bump m (symN t), if t.k = 1 then bump d (Slo.slotD t.d.toNat) else d) from HS.out)
          have HK3 := Lib.hid (HK2.out hok)
          obtain ⟨S, hS⟩ : ∃ S, symN t = S := ⟨_, rfl⟩
          rw [hS] at CT s2 HS
          obtain ⟨v, hv⟩ : ∃ v, m.getD S 0 = v := ⟨_, rfl⟩
          have hvb := hmb S
          rw [hv] at hvb
          have hvb2 : 0 ≤ v ∧ v ≤ 300 := by omega
          have hSi : (S : Int) < 401 := by omega
          have hS4 : S < 401 := by omega
          clear s1 s3 hok hS HOKB HK2 hvb
          go_wp2_with fail
          refine (CT.out _).mono ?_; rintro e w3 ⟨rfl, hb⟩
          have HM2 := Lib.hid (HMa.out.kept hb)
          have HD2 := Lib.hid (HDa.out.kept hb)
          have HB2 := Lib.hid (HBa.out.trans (hb.mono HBa.out.size))
          have HQ3 := Lib.hid ((hb.block _ (block_lt HQB.out)).trans HQB.out)
          clear hb HM HD HB c0 c1 c2 c3 c4 hxb CT HMa HDa HBa HQB hgb
          have co := HM2.out.int_cell S (by rw [hm401]; exact hS4)
          rw [hv] at co
          have fo := HM2.out.free S
          have lo := (HM2.out.lt _ rfl).2
          have HM3 := Lib.hid (HM2.out.set_int S (v + 1) (by rw [hm401]; exact hS4))
          have HD3 := Lib.hid (HD2.out.other (k := gm) (j := S) (u := .int .i64 (v + 1)) hne2)
          have HB3 := Lib.hid (HB2.out.setCell (p := ⟨gm, S, none⟩) HG1.out (.int .i64 (v + 1)))
          have hq4 := (Below.heap_setCell w3 ⟨gm, S, none⟩ (.int .i64 (v + 1)) gb hgbm).trans HQ3.out
          have b0 := cell_lit hq4 0 (.int .i64 t.k) rfl
          have b3 := cell_lit hq4 3 (.int .i64 t.d) rfl
          have lb := cell_block b0
          have hbm : bump m S = m.set S (v + 1) := by unfold bump; rw [hv]
          clear hq4 HQ3
          by_cases hk1 : t.k = 1
          · obtain ⟨h1, h2⟩ := s4 hk1
            obtain ⟨D, hD⟩ : ∃ D : Nat, t.d = D := ⟨t.d.toNat, by omega⟩
            rw [if_pos hk1, hD, Int.toNat_natCast, hbm] at HS
            rw [hD] at b3
            have CDD := Lib.hid (fun W => CD.out D W (by omega) (by omega))
            have hQ := (Slo.slotD_facts D (by omega) (by omega)).1
            obtain ⟨Q, hQe⟩ : ∃ Q, Slo.slotD D = Q := ⟨_, rfl⟩
            rw [hQe] at CDD hQ HS
            obtain ⟨u, hu⟩ : ∃ u, d.getD Q 0 = u := ⟨_, rfl⟩
            have hub := hdb Q
            rw [hu] at hub
            have hub2 : 0 ≤ u ∧ u ≤ 300 := by omega
            have hQi : (Q : Int) < 52 := by omega
            have hQ4 : Q < 52 := by omega
            have hbd2 : bump d Q = d.set Q (u + 1) := by unfold bump; rw [hu]
            rw [hbd2] at HS
            rw [hk1] at b0
            clear hub hD h1 h2 hQe
            go_wp2_with fail
            refine (CDD.out _).mono ?_; rintro e w4 ⟨rfl, hb⟩
            have HM4 := Lib.hid (HM3.out.kept hb)
            have HD4 := Lib.hid (HD3.out.kept hb)
            have HB4 := Lib.hid (HB3.out.trans (hb.mono HB3.out.size))
            clear hb HM3 HD3 HB3 b0 b3 lb CDD co fo lo HM2 HD2 HB2
            have co := HD4.out.int_cell Q (by rw [hd52]; exact hQ4)
            rw [hu] at co
            have fo := HD4.out.free Q
            have lo := (HD4.out.lt _ rfl).2
            have HD5 := Lib.hid (HD4.out.set_int Q (u + 1) (by rw [hd52]; exact hQ4))
            have HM5 := Lib.hid (HM4.out.other (k := gd) (j := Q) (u := .int .i64 (u + 1)) hne)
            have HB5 := Lib.hid (HB4.out.setCell (p := ⟨gd, Q, none⟩) HG2.out (.int .i64 (u + 1)))
            go_wp2_with fail
            go_roundw
            case rel => exact ⟨k + 1, _, _, by omega, by go_num, HS, HK3, HM5, HD5, HB5⟩
            case measure => simp [intOf] <;> omega
          · rw [if_neg hk1, hbm] at HS
            go_wp2_with fail
            go_roundw
            case rel => exact ⟨k + 1, _, _, by omega, by go_num, HS, HK3, HM3, HD3, HB3⟩
            case measure => simp [intOf] <;> omega
        · have HE := Lib.hid (HOKB.out hok)
          rw [sym_no t hok] at CT
          go_wp2_with fail
          refine (CT.out _).mono ?_; rintro e w3 ⟨rfl, hb⟩
          have HB2 := Lib.hid (HBa.out.trans (hb.mono HBa.out.size))
          clear hb
          go_wp2_with fail
          go_ret3
          rw [HE.out]
          exact ⟨_, _, rfl, IsL.nil _, IsL.nil _, HB2.out⟩
      · obtain rfl : k = n := by omega
        have HF := Lib.hid (frA_ok l (fun i h => HK.out i h (by have := HL.out; omega)))
        have hTk := HT.out
        rw [List.take_of_length_le (by rw [HL.out]; exact Nat.le_refl _)] at hTk
        have hm := (tl_len l).1
        have hd := (tl_len l).2
        rw [hTk] at hm hd
        go_wp2_with fail
        go_ret3
        rw [HF.out, hTk]
        refine ⟨_, _, rfl, ?_, ?_, HB.out⟩
        · exact HM.out.isL (by rw [hm]; decide)
        · exact HD.out.isL (by rw [hd]; decide)
end Go.Proofs.YtmhjmoeeahepaaaGreat

/- Layer 24: Prices, both. -/
namespace Go.Proofs.YtmhjmoeeahepaaaGreat
open Go.ChangeShapes Go.WideShapes Go.ChangeAt Go.RowKit
set_option linter.unusedVariables false
set_option linter.unusedSimpArgs false
set_option maxRecDepth 100000
end Go.Proofs.YtmhjmoeeahepaaaGreat

/- Layer 24: what pmerge.Lengths says where one symbol occurs, and where none does: check. -/
namespace Go.Proofs.YtmhjmoeeahepaaaGreat
open Go.ChangeShapes Go.WideShapes Go.ChangeAt Go.RowKit
set_option linter.unusedVariables false
set_option linter.unusedSimpArgs false
set_option maxRecDepth 100000
open KraftMath
set_option maxHeartbeats 1600000 in
theorem pCheck (a : Option Addr) (c n u : Nat) (l : List Int) (w : World) (hl : l.length = n) (h : IsInts w a l) (hn : n ≤ 1000) (hb : ∀ i, 0 ≤ l.getD i 0 ∧ l.getD i 0 ≤ 1000) (hu : used l = u) (hu1 : u ≤ 1000) :
    Calls Tryz.prog 69 #[.slice a n c, .int .i64 15] w fun e w' => e = .returned (.int .i64 (if u = 0 then 7 else 0)) ∧ Below w.heap.size w w' := by
  have HI := Lib.hid h
  have HL := Lib.hid hl
  have HX := Lib.hid hb
  have CU := Lib.hid (kUsed a c l w h)
  rw [hl, hu] at CU
  obtain ⟨E, hE⟩ : ∃ E : Int, (if u = 0 then (7 : Int) else 0) = E := ⟨_, rfl⟩
  rw [hE]
  have HE := Lib.hid hE
  clear h hl hb hu hE
  go_enter Tryz.func69, Tryz.ntmps69
  go_wp2_with fail
  go_loopw [19] (fun iv wr => ∃ i : Nat, i ≤ n ∧ iv = .int .i64 i ∧ wr = w) (fun iv _ => n - (intOf iv).toNat)
  case atStart => exact ⟨0, Nat.zero_le _, rfl, rfl⟩
  case round =>
    obtain ⟨i, hi, rfl, rfl⟩ := hrel
    by_cases hlt : i < n
    · have hii : (i : Int) < n := by omega
      obtain ⟨x, rfl, hxb, hc⟩ := HI.out.at i (by rw [HL.out]; exact hlt)
      have cx := hc i (by rw [HL.out]; exact hlt)
      obtain ⟨v, hv⟩ : ∃ v, l.getD i 0 = v := ⟨_, rfl⟩
      have hvb := HX.out i
      rw [hv] at cx hvb
      obtain ⟨v1, v2⟩ := hvb
      have e1 : decide (v < 0) = false := decide_eq_false (by omega)
      have e2 : decide ((4294967295 : Int) < v) = false := decide_eq_false (by omega)
      clear hc hv
      go_wp2_with fail
      go_roundw
      case rel => exact ⟨i + 1, by omega, by go_num, by trivial⟩
      case measure => simp [intOf] <;> omega
    · obtain rfl : i = n := by omega
      by_cases h0 : u = 0
      · have e0 : ((u : Int) == 0) = true := by rw [beq_iff_eq]; omega
        have HE7 := Lib.hid (show E = 7 by rw [← HE.out, if_pos h0])
        clear h0
        go_wp2_with fail
        refine CU.out.mono ?_; rintro e w2 ⟨rfl, rfl⟩
        go_wp2_with fail
        go_ret
        exact ⟨by rw [HE7.out]; rfl, Below.refl _ _⟩
      · have e0 : ((u : Int) == 0) = false := by rw [beq_eq_false_iff_ne]; omega
        have HE7 := Lib.hid (show E = 0 by rw [← HE.out, if_neg h0])
        have hu1 : (u : Int) ≤ 1000 := by omega
        clear h0
        go_wp2_with fail
        refine CU.out.mono ?_; rintro e w2 ⟨rfl, rfl⟩
        go_wp2_with fail
        go_ret
        exact ⟨by rw [HE7.out]; rfl, Below.refl _ _⟩
end Go.Proofs.YtmhjmoeeahepaaaGreat
