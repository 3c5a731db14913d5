import Derived.Test.YtipcdkemokkdfaaGreatK17
/- Layer 6: the document's Check and Whole. -/
namespace Go.Proofs.YtipcdkemokkdfaaGreat
open Go.ChangeShapes Go.WideShapes Go.ChangeAt Go.RowKit
set_option linter.unusedVariables false
set_option maxRecDepth 100000
open KraftMath

end Go.Proofs.YtipcdkemokkdfaaGreat

/- Layer 7: why there are no lengths. -/
namespace Go.Proofs.YtipcdkemokkdfaaGreat
open Go.ChangeShapes Go.WideShapes Go.ChangeAt Go.RowKit
set_option linter.unusedVariables false
set_option linter.unusedSimpArgs false
set_option maxRecDepth 100000
open KraftMath
def badF (v : Int) : Bool := decide (v < 0) || decide (4294967295 < v)
def chkP (l : List Int) (limit : Int) : Int :=
  if limit < 1 ∨ 16 < limit then 1 else if 1024 < l.length then 5 else if l.any badF = true then 2 else if used l = 0 then 7 else if 2 ^ limit.toNat < used l then 6 else 0
theorem anyF_succ (l : List Int) (k : Nat) (h : k < l.length) (ha : (l.take k).any badF = false) (hb : badF (l.getD k 0) = false) : (l.take (k + 1)).any badF = false := by
  rw [take_succ_getD l k h, List.any_append, ha, Bool.false_or]; simp only [List.any_cons, List.any_nil, Bool.or_false]; exact hb
theorem anyF_hit (l : List Int) (k : Nat) (h : k < l.length) (hb : badF (l.getD k 0) = true) : l.any badF = true := by
  rw [List.any_eq_true]
  exact ⟨l.getD k 0, mem_getD h, hb⟩
theorem shl_test (S m : Nat) (h : m ≤ 16) : decide (wrap64 (2 ^ m) < (S : Int)) = decide (2 ^ m < S) := by
  rw [wrap_pow m h, decide_eq_decide]
  constructor
  · intro h; exact_mod_cast h
  · intro h; exact_mod_cast h
set_option maxHeartbeats 3200000 in
theorem pChk (a : Option Addr) (c n : Nat) (l : List Int) (L : Int) (w : World) (hl : l.length = n) (h : IsInts w a l) :
    Calls Tryz.prog 67 #[.slice a n c, .int .i64 L] w fun e w' => e = .returned (.int .i64 (chkP l L)) ∧ w' = w := by
  have HI := Lib.hid h
  have HL := Lib.hid hl
  have hn46 : (n : Int) ≤ 70368744177664 := by have := h.1; omega
  obtain ⟨R, hR⟩ : ∃ R, chkP l L = R := ⟨_, rfl⟩
  rw [hR]
  have CU := Lib.hid (kUsed a c l w h)
  rw [hl] at CU
  by_cases h1 : L < 1
  · have HF := Lib.hid (show R = 1 by rw [← hR]; unfold chkP; rw [if_pos (.inl h1)])
    have d1 : decide (L < 1) = true := decide_eq_true h1
    clear hR h hl
    go_enter Tryz.func67, Tryz.ntmps67
    go_wp2_with fail
    go_ret
    exact ⟨ret_i HF.out.symm, rfl⟩
  · have d1 : decide (L < 1) = false := decide_eq_false h1
    by_cases h2 : 16 < L
    · have HF := Lib.hid (show R = 1 by rw [← hR]; unfold chkP; rw [if_pos (.inr h2)])
      have d2 : decide (16 < L) = true := decide_eq_true h2
      clear hR h hl
      go_enter Tryz.func67, Tryz.ntmps67
      go_wp2_with fail
      go_ret
      exact ⟨ret_i HF.out.symm, rfl⟩
    · have d2 : decide (16 < L) = false := decide_eq_false h2
      obtain ⟨m, rfl⟩ : ∃ m : Nat, L = m := ⟨L.toNat, by omega⟩
      have hm : m ≤ 16 := by omega
      by_cases h3 : 1024 < n
      · have HF := Lib.hid (show R = 5 by rw [← hR]; unfold chkP; rw [if_neg (by omega), if_pos (by omega)])
        have d3 : (1024 : Int) < n := by omega
        clear hR h hl
        go_enter Tryz.func67, Tryz.ntmps67
        go_wp2_with fail
        go_ret
        exact ⟨ret_i HF.out.symm, rfl⟩
      · have d3 : ¬ (1024 : Int) < n := by omega
        have HF := Lib.hid (show R = if l.any badF = true then 2 else if used l = 0 then 7 else if 2 ^ m < used l then 6 else 0 by rw [← hR]; unfold chkP; rw [if_neg (by omega), if_neg (by omega), Int.toNat_natCast])
        have HU := Lib.hid (shl_test (used l) m hm)
        obtain ⟨u, hu⟩ : ∃ u, used l = u := ⟨_, rfl⟩
        have hun : u ≤ n := by rw [← hu, ← hl]; exact used_le l
        rw [hu] at HF HU CU
        clear hR h hl hu
        go_enter Tryz.func67, Tryz.ntmps67
        go_wp2_with fail
        go_loopw [19] (fun iv wr => ∃ i : Nat, i ≤ n ∧ iv = .int .i64 i ∧ Hid ((l.take i).any badF = false) ∧ wr = w) (fun iv _ => n - (intOf iv).toNat)
        case atStart => exact ⟨0, Nat.zero_le _, rfl, Lib.hid rfl, rfl⟩
        case round =>
          obtain ⟨i, hi, rfl, HT, rfl⟩ := hrel
          by_cases hlt : i < n
          · have hii : (i : Int) < n := by omega
            obtain ⟨x, rfl, hxb, hc⟩ := HI.out.at i (by rw [HL.out]; exact hlt)
            have cx := hc i (by rw [HL.out]; exact hlt)
            obtain ⟨v, hv⟩ : ∃ v, l.getD i 0 = v := ⟨_, rfl⟩
            rw [hv] at cx
            have HV := Lib.hid hv
            clear hc hv
            by_cases hb1 : v < 0
            · have e1 : decide (v < 0) = true := decide_eq_true hb1
              have HF2 := Lib.hid (show R = 2 by rw [HF.out, if_pos (anyF_hit l i (by rw [HL.out]; exact hlt) (by rw [HV.out]; unfold badF; rw [e1]; rfl))])
              go_wp2_with fail
              go_ret
              exact ⟨ret_i HF2.out.symm, rfl⟩
            · have e1 : decide (v < 0) = false := decide_eq_false hb1
              by_cases hb2 : 4294967295 < v
              · have e2 : decide (4294967295 < v) = true := decide_eq_true hb2
                have HF2 := Lib.hid (show R = 2 by rw [HF.out, if_pos (anyF_hit l i (by rw [HL.out]; exact hlt) (by rw [HV.out]; unfold badF; rw [e1, e2]; rfl))])
                go_wp2_with fail
                go_ret
                exact ⟨ret_i HF2.out.symm, rfl⟩
              · have e2 : decide (4294967295 < v) = false := decide_eq_false hb2
                have HT2 := Lib.hid (anyF_succ l i (by rw [HL.out]; exact hlt) HT.out (by rw [HV.out]; unfold badF; rw [e1, e2]; rfl))
                go_wp2_with fail
                go_roundw
                case rel => exact ⟨i + 1, by omega, by go_num, HT2, by trivial⟩
                case measure => simp [intOf] <;> omega
          · obtain rfl : n = i := by omega
            have HA := Lib.hid (show l.any badF = false by have := HT.out; rwa [List.take_of_length_le (by rw [HL.out]; exact Nat.le_refl _)] at this)
            by_cases h0 : u = 0
            · have e0 : ((u : Int) == 0) = true := by rw [beq_iff_eq]; omega
              have HF2 := Lib.hid (show R = 7 by rw [HF.out, HA.out, if_neg (by decide), if_pos h0])
              clear h0
              go_wp2_with fail
              refine CU.out.mono ?_; rintro e w2 ⟨rfl, rfl⟩
              go_wp2_with fail
              go_ret
              exact ⟨ret_i HF2.out.symm, rfl⟩
            · have e0 : ((u : Int) == 0) = false := by rw [beq_eq_false_iff_ne]; omega
              by_cases h6 : 2 ^ m < u
              · have HF2 := Lib.hid (show R = 6 by rw [HF.out, HA.out, if_neg (by decide), if_neg h0, if_pos h6])
                have e6 : decide (wrap64 (2 ^ m) < (u : Int)) = true := by rw [HU.out]; exact decide_eq_true h6
                have e7 := of_decide_eq_true e6
                clear h0 h6
                go_wp2_with fail
                refine CU.out.mono ?_; rintro e w2 ⟨rfl, rfl⟩
                go_wp2_with fail
                go_ret
                exact ⟨ret_i HF2.out.symm, rfl⟩
              · have HF2 := Lib.hid (show R = 0 by rw [HF.out, HA.out, if_neg (by decide), if_neg h0, if_neg h6])
                have e6 : decide (wrap64 (2 ^ m) < (u : Int)) = false := by rw [HU.out]; exact decide_eq_false h6
                have e7 := of_decide_eq_false e6
                clear h0 h6
                go_wp2_with fail
                refine CU.out.mono ?_; rintro e w2 ⟨rfl, rfl⟩
                go_wp2_with fail
                go_ret
                exact ⟨ret_i HF2.out.symm, rfl⟩
end Go.Proofs.YtipcdkemokkdfaaGreat

/- Layer 7: Lengths, whole: what is told. -/
namespace Go.Proofs.YtipcdkemokkdfaaGreat
open Go.ChangeShapes Go.WideShapes Go.ChangeAt Go.RowKit
set_option linter.unusedVariables false
set_option linter.unusedSimpArgs false
set_option maxRecDepth 100000
open KraftMath Pm
def incAll (o : List Int) : List Int → List Int
  | [] => o
  | x :: l => incAll (o.set x.toNat (o.getD x.toNat 0 + 1)) l
theorem incAll_snoc : ∀ (l : List Int) (o : List Int) (x : Int), incAll o (l ++ [x]) = (incAll o l).set x.toNat ((incAll o l).getD x.toNat 0 + 1)
  | [], o, x => rfl
  | y :: l, o, x => incAll_snoc l _ x
theorem incAll_len : ∀ (l : List Int) (o : List Int), (incAll o l).length = o.length
  | [], o => rfl
  | y :: l, o => by rw [incAll, incAll_len l]; simp
/-- What is added, row for row. -/
def addF (ss : List Int) (o : List Int) : List Nat → List Int
  | [] => o
  | s :: r => addF ss (incAll o (ss.take s)) r
def restF (S : List Coin) (ss : List Int) : Nat → Nat → List Int → List Int
  | 0, _, o => o
  | k + 1, t, o => addF ss o (takes S k t)
theorem restF_step (S : List Coin) (ss : List Int) (k t : Nat) (o : List Int) : restF S ss (k + 1) t o = restF S ss k (2 * (t - cntS ((rowF S k).take t))) (incAll o (ss.take (cntS ((rowF S k).take t)))) := by
  cases k <;> rfl
def lensV (l : List Int) (L : Nat) : List Int :=
  if (srtS l).length = 1 then (List.replicate l.length 0).set ((srtS l).getD 0 0).toNat 1
  else addF (srtS l) (List.replicate l.length 0) (ksF ((srtS l).map (frL l)) L)
def BdL (o : List Int) (c : Nat) : Prop := ∀ x, 0 ≤ o.getD x 0 ∧ o.getD x 0 ≤ c
theorem BdL.inc {o : List Int} {c : Nat} (h : BdL o c) (x : Nat) : BdL (o.set x (o.getD x 0 + 1)) (c + 1) := by
  intro y
  rw [List.getD_eq_getElem?_getD, List.getElem?_set]
  have h1 := h x
  have h2 := h y
  rw [List.getD_eq_getElem?_getD] at h2
  split
  · split
    · simp only [Option.getD_some]; omega
    · simp; omega
  · omega
theorem srtS_mem {l : List Int} {u : Int} (h : u ∈ srtS l) : ∃ k : Nat, u = k ∧ k < l.length ∧ 0 < l.getD k 0 := (symsL_mem l l.length u).1 ((St.sortF_perm _ _).mem_iff.1 h)
theorem srtS_len (l : List Int) : (srtS l).length = used l := by
  unfold srtS
  rw [(St.sortF_perm _ _).length_eq, symsL_used l l.length (Nat.le_refl _), List.take_of_length_le (Nat.le_refl _)]
theorem srtS_srt (l : List Int) : St.Srt (frL l) (srtS l) := St.sortF_srt _ _ (St.asc_nodup (symsL_asc l _))
theorem srtS_asc (l : List Int) : ((srtS l).map (frL l)).Pairwise (· ≤ ·) := by
  refine List.pairwise_map.2 ((srtS_srt l).imp (fun {a b} h => ?_))
  unfold St.lx at h; omega
theorem chk_ok {l : List Int} {L : Int} (h : chkP l L = 0) : ∃ m : Nat, L = m ∧ 1 ≤ m ∧ m ≤ 16 ∧ l.length ≤ 1024 ∧ (∀ i, 0 ≤ l.getD i 0 ∧ l.getD i 0 ≤ 4294967295) ∧ 1 ≤ used l ∧ used l ≤ 2 ^ m := by
  unfold chkP at h
  split at h
  · simp at h
  split at h
  · simp at h
  split at h
  · simp at h
  split at h
  · simp at h
  split at h
  · simp at h
  · rename_i h1 h2 h3 h4 h5
    refine ⟨L.toNat, by omega, by omega, by omega, by omega, fun i => ?_, by omega, by omega⟩
    by_cases hi : i < l.length
    · have h3' : ∀ v ∈ l, badF v = false := by
        intro v hv
        cases hb : badF v with
        | false => rfl
        | true => exact absurd (List.any_eq_true.2 ⟨v, hv, hb⟩) h3
      have := h3' _ (mem_getD hi)
      unfold badF at this
      simp only [Bool.or_eq_false_iff, decide_eq_false_iff_not] at this
      omega
    · rw [List.getD_eq_getElem?_getD, List.getElem?_eq_none (by omega)]; simp
theorem srtS_pos (l : List Int) : ∀ w ∈ (srtS l).map (frL l), 0 < w := by
  intro w hw
  obtain ⟨u, hu, rfl⟩ := List.mem_map.1 hw
  obtain ⟨k, rfl, h1, h2⟩ := srtS_mem hu
  exact h2
set_option maxHeartbeats 1600000 in
theorem pLenBad (a : Option Addr) (c n : Nat) (l : List Int) (L E : Int) (w : World) (hl : l.length = n) (h : IsInts w a l) (hE : chkP l L = E) (h0 : E ≠ 0) :
    Calls Tryz.prog 42 #[.slice a n c, .int .i64 L] w fun e w' => e = .returned (.tuple #[.slice none 0 0, .int .i64 E]) ∧ w' = w := by
  have CC := Lib.hid (pChk a c n l L w hl h)
  rw [hE] at CC
  have hne : (E != 0) = true := by rw [bne_iff_ne]; exact h0
  clear h hl hE
  go_enter Tryz.func42, Tryz.ntmps42
  go_wp2_with fail
  refine CC.out.mono ?_; rintro e w2 ⟨rfl, rfl⟩
  go_wp2_with fail
  go_ret2
  exact ⟨rfl, rfl⟩
set_option maxHeartbeats 1600000 in
theorem pLenOne (a : Option Addr) (c n : Nat) (l : List Int) (L : Int) (w : World) (hl : l.length = n) (h : IsInts w a l) (hE : chkP l L = 0) (h1 : (srtS l).length = 1) :
    Calls Tryz.prog 42 #[.slice a n c, .int .i64 L] w fun e w' => ∃ u, e = .returned (.tuple #[u, .int .i64 0]) ∧ OwnI w.heap.size w' u (lensV l L.toNat) ∧ Below w.heap.size w w' := by
  obtain ⟨m, rfl, hm1, hm2, hln, hbd, hu1, hu2⟩ := chk_ok hE
  have CC := Lib.hid (pChk a c n l m w hl h)
  rw [hE] at CC
  have hn : n ≤ 1024 := by omega
  have CB := Lib.hid (fun W hW => pByFreqAll a c n l W hl hW (by omega) (by
    have := srtS_len l
    rw [← hl, symsL_used l l.length (Nat.le_refl _), List.take_of_length_le (Nat.le_refl _), ← this, h1]; decide))
  have HI := Lib.hid h
  obtain ⟨x, hx⟩ := List.length_eq_one_iff.1 h1
  obtain ⟨S, rfl, hS, -⟩ := srtS_mem (l := l) (u := x) (by rw [hx]; simp)
  have HF := Lib.hid (show lensV l (m : Int).toNat = (List.replicate n 0).set S 1 by unfold lensV; rw [if_pos h1, hx, hl]; rfl)
  rw [hx] at CB
  rw [hl] at hS
  obtain ⟨FIN, hFIN⟩ : ∃ FIN, lensV l (m : Int).toNat = FIN := ⟨_, rfl⟩
  rw [hFIN] at HF ⊢
  clear hFIN
  have hSi : (S : Int) < n := by omega
  clear h hl hE h1 hx hbd hu1 hu2 hln
  go_enter Tryz.func42, Tryz.ntmps42
  go_wp2_with fail
  refine CC.out.mono ?_; rintro e w1 ⟨rfl, hw⟩
  obtain rfl : w = w1 := hw.symm
  go_wp2_with (refine make_int rfl _ _ rfl .i64 .i64 (n : Int) (n : Int) n rfl rfl rfl rfl (by omega) ?_; intro w2 ho2 hb2 hs2)
  have HO := Lib.hid ho2
  have HBm := Lib.hid hb2
  obtain ⟨g, hg⟩ : ∃ g, w.heap.size = g := ⟨_, rfl⟩
  have HG := Lib.hid hg
  rw [hg] at HO HBm ⊢
  have HIk := Lib.hid (HI.out.kept (by rw [hg]; exact HBm.out))
  clear ho2 hb2 hs2 hg
  refine (CB.out _ HIk.out).mono ?_; rintro e w3 ⟨u, rfl, hu, hb⟩
  have HO := Lib.hid (HO.out.kept hb)
  have HB3 := Lib.hid (HBm.out.trans (hb.mono (by have := HBm.out.size; have := HG.out; omega)))
  obtain ⟨g2, cap, rfl, -, -⟩ := hu.form (by simp) (by decide)
  have cu := hu.int_cell 0 (by simp)
  have lu := (hu.lt _ rfl).2
  simp only [List.length_singleton, List.getD_cons_zero] at *
  have co := HO.out.int_cell S (by rw [List.length_replicate]; exact hS)
  have fo := HO.out.free S
  have lo := (HO.out.lt _ rfl).2
  have HO2 := Lib.hid (HO.out.set_int S 1 (by rw [List.length_replicate]; exact hS))
  have HB2 := Lib.hid (HB3.out.setCell (p := ⟨g, S, none⟩) (Nat.le_refl _) (.int .i64 1))
  clear hu hb CB
  go_wp2_with fail
  go_ret2
  rw [HF.out, HG.out]
  exact ⟨_, rfl, HO2.out, HB2.out⟩
end Go.Proofs.YtipcdkemokkdfaaGreat

/- Layer 7: Lengths of two symbols and more. -/
namespace Go.Proofs.YtipcdkemokkdfaaGreat
open Go.ChangeShapes Go.WideShapes Go.ChangeAt Go.RowKit
set_option linter.unusedVariables false
set_option linter.unusedSimpArgs false
set_option maxRecDepth 100000
open KraftMath Pm
theorem cntS_snoc (l : List Coin) (j : Nat) (c : Coin) (h : l[j]? = some c) : cntS (l.take (j + 1)) = cntS (l.take j) + if c.2 = true then 1 else 0 := by
  have hj : j < l.length := (List.getElem?_eq_some_iff.1 h).1
  rw [List.take_succ_eq_append_getElem hj, cntS_append]
  rw [List.getElem?_eq_getElem hj] at h
  rw [Option.some.inj h]
  simp [cntS]
set_option maxHeartbeats 6400000 in
theorem pLenAll (a : Option Addr) (c n : Nat) (l : List Int) (L : Int) (w : World) (hl : l.length = n) (h : IsInts w a l) (hE : chkP l L = 0) (h1 : (srtS l).length ≠ 1) :
    Calls Tryz.prog 42 #[.slice a n c, .int .i64 L] w fun e w' => ∃ u, e = .returned (.tuple #[u, .int .i64 0]) ∧ OwnI w.heap.size w' u (lensV l L.toNat) ∧ Below w.heap.size w w' := by
  obtain ⟨K, rfl, hK1, hK2, hln, hbd, hu1, hu2⟩ := chk_ok hE
  have CC := Lib.hid (pChk a c n l K w hl h)
  rw [hE] at CC
  have hn : n ≤ 1024 := by omega
  obtain ⟨ss, hss⟩ : ∃ ss, srtS l = ss := ⟨_, rfl⟩
  obtain ⟨m, hm⟩ : ∃ m, ss.length = m := ⟨_, rfl⟩
  have hmu : m = used l := by rw [← hm, ← hss]; exact srtS_len l
  have hmn : m ≤ n := by rw [hmu, ← hl]; exact used_le l
  have hm2 : 2 ≤ m := by rw [hss, hm] at h1; omega
  have hmK : m ≤ 2 ^ K := by rw [hmu]; exact hu2
  have CB := Lib.hid (fun W hW => pByFreqAll a c n l W hl hW (by omega) (by
    rw [← hl, symsL_used l l.length (Nat.le_refl _), List.take_of_length_le (Nat.le_refl _), ← hmu]; omega))
  rw [hss] at CB
  have HI := Lib.hid h
  have HF := Lib.hid (show lensV l (K : Int).toNat = addF ss (List.replicate n 0) (ksF (ss.map (frL l)) K) by unfold lensV; rw [if_neg h1, hss, hl]; rfl)
  have HD := Lib.hid (show ∀ u ∈ ss, ∃ k : Nat, u = k ∧ k < n from fun u hu => by
    obtain ⟨k, h1, h2, -⟩ := srtS_mem (l := l) (u := u) (by rw [hss]; exact hu)
    exact ⟨k, h1, by omega⟩)
  have HV := Lib.hid (show ∀ u ∈ ss, 0 ≤ frL l u ∧ frL l u ≤ 4294967295 from fun u hu => hbd _)
  have CR := Lib.hid (fun b d W hi hs => pRows a c n l b d m ss K W hl hi hm hs (by omega) hm2 (by omega) hK1 hK2 HD.out HV.out)
  obtain ⟨S, hS⟩ : ∃ S, symC (ss.map (frL l)) = S := ⟨_, rfl⟩
  have hSl : S.length = m := by rw [← hS, symC_len, List.length_map, hm]
  have hSs : ∀ c ∈ S, c.2 = true := by rw [← hS]; exact symC_sym _
  have hSa : Asc S := by rw [← hS]; exact symC_asc _ (by rw [← hss]; exact srtS_asc l)
  have hSp : Pos S := by rw [← hS]; exact symC_pos _ (by rw [← hss]; exact srtS_pos l)
  obtain ⟨T0, hT0⟩ : ∃ T0 : Nat, 2 * m - 2 = T0 := ⟨_, rfl⟩
  have hML : 2 * (m : Int) - 2 = T0 := by omega
  have HKS := Lib.hid (show addF ss (List.replicate n 0) (ksF (ss.map (frL l)) K) = restF S ss K T0 (List.replicate n 0) by
    obtain ⟨k, rfl⟩ : ∃ k, K = k + 1 := ⟨K - 1, by omega⟩
    show _ = addF ss _ (takes S k T0)
    rw [← hS, ← hT0]
    unfold ksF
    rw [List.length_map, hm, Nat.add_sub_cancel])
  have HEN := Lib.hid (show T0 ≤ (rowF S (K - 1)).length by
    rw [← hT0]
    have := row_enough S (by omega) (K - 1) (by rw [hSl, show K - 1 + 1 = K by omega]; exact hmK)
    rw [hSl] at this; exact this)
  have HRM := Lib.hid (fun i => row_most S (by omega) i)
  have HNS := Lib.hid (fun i t ht => nest S hSs hSa hSp i t ht _ rfl)
  have hT0b : T0 ≤ 4000 := by omega
  have HCN := Lib.hid (fun i t ht => cnt_le S hSs hSa i t ht)
  rw [hS] at CR
  obtain ⟨FIN, hFIN⟩ : ∃ FIN, lensV l (K : Int).toNat = FIN := ⟨_, rfl⟩
  have HFIN := Lib.hid (show restF S ss K T0 (List.replicate n 0) = FIN by rw [← HKS.out, ← HF.out, hFIN])
  rw [hFIN]
  have HM := Lib.hid hm
  have HSL := Lib.hid hSl
  clear h hl hE h1 hbd hu1 hu2 hln hss hm hmu hmK hS hSl hSs hSa hSp hFIN HF HKS hT0
  have e1 : ((m : Int) == 1) = false := by rw [beq_eq_false_iff_ne]; omega
  go_enter Tryz.func42, Tryz.ntmps42
  go_wp2_with fail
  refine CC.out.mono ?_; rintro e w1 ⟨rfl, hw⟩
  obtain rfl : w = w1 := hw.symm
  go_wp2_with (refine make_int rfl _ _ rfl .i64 .i64 (n : Int) (n : Int) n rfl rfl rfl rfl (by omega) ?_; intro w2 ho2 hb2 hs2)
  have HO := Lib.hid ho2
  have HB := Lib.hid hb2
  obtain ⟨g, hg⟩ : ∃ g, w.heap.size = g := ⟨_, rfl⟩
  have HG := Lib.hid hg
  rw [hg] at HO HB ⊢
  have HIk := Lib.hid (HI.out.kept (by rw [hg]; exact HB.out))
  have hgl2 : g < w2.heap.size := by omega
  clear ho2 hb2 hs2 hg
  refine (CB.out _ HIk.out).mono ?_; rintro e w3 ⟨u, rfl, hu, hb⟩
  have HO3 := Lib.hid (HO.out.kept hb)
  have HB3 := Lib.hid (HB.out.trans (hb.mono (by have := HB.out.size; have := HG.out; omega)))
  have HI3 := Lib.hid (HIk.out.kept hb)
  obtain ⟨g2, cap, rfl, -, -⟩ := hu.form (by rw [HM.out]; omega) (by decide)
  rw [HM.out] at hu ⊢
  have HU3 := Lib.hid hu
  obtain ⟨ua, uc, huv, hi3⟩ := hu.isL (by rw [HM.out]; omega)
  have HIs := Lib.hid (show IsInts w3 (some ⟨g2, 0, none⟩) ss by
    simp only [Value.slice.injEq] at huv
    obtain ⟨rfl, -, -⟩ := huv
    exact hi3)
  clear hu hb CB HO HB HIk hi3 huv
  go_wp2_with fail
  refine (CR.out _ _ _ HI3.out HIs.out).mono ?_; rintro e w4 ⟨v4, ps, rfl, hpl, hrw, hb⟩
  have HO4 := Lib.hid (HO3.out.kept hb)
  have HB4 := Lib.hid (HB3.out.trans (hb.mono (by have := HB3.out.size; have := HG.out; omega)))
  have HU4 := Lib.hid (HU3.out.kept hb)
  obtain ⟨gr, cr, rfl, hgr, hgrl⟩ := hrw.1.form (by rw [hpl]; omega) (by decide)
  rw [hpl] at hrw ⊢
  have HPL := Lib.hid hpl
  have HRW := Lib.hid hrw
  have hg3 : g < w3.heap.size := (HO3.out.lt _ rfl).2
  have hg23 : g2 < w3.heap.size := (HU3.out.lt _ rfl).2
  have hgne : g2 ≠ g := by
    have := (HU3.out.lt g2 rfl).1
    omega
  clear hb hpl hrw HO3 HB3 HI3 HU3 HIs CR
  have hgR := (HO4.out.lt _ rfl).2
  have HK4 := Lib.hid (Keeps.refl (fun j => j = g) w4)
  have HBD := Lib.hid (show BdL (List.replicate n 0) (2000 * (K - K)) from fun x => by
    rw [List.getD_eq_getElem?_getD, List.getElem?_replicate]
    split <;> simp)
  go_wp2_with fail
  clear hML
  obtain ⟨wR, hwR⟩ : ∃ wR, wR = w4 := ⟨_, rfl⟩
  go_loopw [9, 11] (fun nv iv wr => ∃ (k t : Nat) (o : List Int), k ≤ K ∧ Hid (k = 0 ∨ t ≤ 5000) ∧ nv = .int .i64 t ∧ iv = .int .i64 ((k : Int) - 1) ∧ Hid (k = 0 ∨ t ≤ (rowF S (k - 1)).length) ∧ Hid (restF S ss k t o = FIN) ∧ Hid (o.length = n) ∧ Hid (BdL o (2000 * (K - k))) ∧ Hid (OwnI g wr (.slice (some ⟨g, 0, none⟩) n n) o) ∧ Hid (Keeps (fun j => j = g) wR wr)) (fun _ iv _ => (intOf iv + 1).toNat)
  case atStart => exact ⟨K, T0, List.replicate n 0, Nat.le_refl _, Lib.hid (.inr (by omega)), by go_num, by go_num, Lib.hid (.inr HEN.out), HFIN, Lib.hid (by simp), HBD, HO4, by rw [hwR]; exact HK4⟩
  case round =>
    clear HO4 HK4 HBD HFIN HEN
    obtain ⟨k, t, o, hk, HTB, rfl, rfl, HT, HFIN, HOL, HBD, HO, HW⟩ := hrel
    rcases Nat.eq_zero_or_pos k with rfl | hk0
    · have hi0 : ¬ (0 : Int) ≤ ((0 : Nat) : Int) - 1 := by omega
      have HFE := Lib.hid (show o = FIN from HFIN.out)
      go_wp2_with fail
      go_ret2
      rw [← HFE.out, HG.out]
      refine ⟨_, rfl, HO.out, HB4.out.trans ?_⟩
      have hw := HW.out
      rw [hwR] at hw
      exact hw.below (fun q hq => ⟨by omega, by omega⟩)
    · obtain ⟨I, rfl⟩ : ∃ I, k = I + 1 := ⟨k - 1, by omega⟩
      rw [show ((I + 1 : Nat) : Int) - 1 = (I : Int) by omega]
      have ht : t ≤ 5000 := by
        rcases HTB.out with h | h
        · omega
        · exact h
      have hI0 : (0 : Int) ≤ I := by omega
      have hIK : (I : Int) < K := by omega
      have hIp : I < ps.length := by rw [HPL.out]; omega
      obtain ⟨p, hp⟩ : ∃ p, ps[I]? = some p := ⟨ps[I], by rw [List.getElem?_eq_getElem hIp]⟩
      obtain ⟨q1, q2, q3⟩ := HRW.out.2 I p hp
      have cp := HRW.out.1.cell flatS I 0 p hp (by decide)
      obtain ⟨pg, pn, pc⟩ := p
      simp only at q1 q2 q3
      rw [Nat.mul_one, Nat.add_zero] at cp
      have cp : w4.cell? ⟨gr, I, none⟩ = some (.slice (some ⟨pg, 0, none⟩) pn pc) := by simpa [fS] using cp
      have hpg : w3.heap.size ≤ pg ∧ pg < w4.heap.size := q3.lt _ rfl
      have hpgne : pg ≠ g := by omega
      have htn : t ≤ pn := by
        rcases HT.out with h | h
        · omega
        · rw [q1]; exact h
      have HLI := Lib.hid (own_lie q3)
      have HROW := Lib.hid q1
      have cpr : wr.cell? ⟨gr, I, none⟩ = some (.slice (some ⟨pg, 0, none⟩) pn pc) := by
        rw [HW.out.cell (p := ⟨gr, I, none⟩) (by rw [hwR]; exact hgrl) (show ¬ gr = g by omega), hwR]; exact cp
      have hpgl : pg < w4.heap.size := hpg.2
      have htc : (t : Int) ≤ pc := by omega
      have HST := Lib.hid (restF_step S ss I t o)
      have HOl0 := Lib.hid (show incAll o (ss.take 0) = o from rfl)
      clear cp q1 q2 q3 hp hIp hpg
      obtain ⟨wo, hwo⟩ : ∃ wo, wo = wr := ⟨_, rfl⟩
      rw [← hwo] at HO HW cpr ⊢
      clear hwo
      go_wp2_with fail
      have HB0 := Lib.hid (show BdL (incAll o (ss.take 0)) (2000 * (K - (I + 1)) + 0) from HBD.out)
      have HO0 := Lib.hid (show OwnI g wo (.slice (some ⟨g, 0, none⟩) n n) (incAll o (ss.take 0)) from HO.out)
      go_loopw [12, 57] (fun sv jv wr => ∃ (j s : Nat), j ≤ t ∧ s ≤ m ∧ jv = .int .i64 j ∧ sv = .int .i64 s ∧ Hid (cntS ((rowF S I).take j) = s) ∧ Hid (BdL (incAll o (ss.take s)) (2000 * (K - (I + 1)) + s)) ∧ Hid (OwnI g wr (.slice (some ⟨g, 0, none⟩) n n) (incAll o (ss.take s))) ∧ Hid (Keeps (fun j => j = g) wR wr)) (fun _ jv _ => t - (intOf jv).toNat)
      case atStart => exact ⟨0, 0, Nat.zero_le _, Nat.zero_le _, by go_num, by go_num, Lib.hid rfl, HB0, HO0, HW⟩
      case round =>
        clear HB0 HO0 HW HO
        obtain ⟨j, s, hj, hs, rfl, rfl, HCS, HB, HO, HW⟩ := hrel
        by_cases hlt : j < t
        · have hji : (j : Int) < t := by omega
          have hjr : j < (rowF S I).length := by have := HROW.out; omega
          obtain ⟨co, hco⟩ : ∃ co, (rowF S I)[j]? = some co := ⟨_, List.getElem?_eq_getElem hjr⟩
          obtain ⟨c1, c2⟩ := HLI.out j co hco
          rw [Nat.zero_add] at c1 c2
          have c1 : wr.cell? ⟨pg, j * 2, none⟩ = some (.int .i64 co.1) := by
            rw [HW.out.cell (p := ⟨pg, j * 2, none⟩) (by rw [hwR]; exact hpgl) (show ¬ pg = g from hpgne), hwR]; exact c1
          have c2 : wr.cell? ⟨pg, j * 2 + 1, none⟩ = some (.bool co.2) := by
            rw [HW.out.cell (p := ⟨pg, j * 2 + 1, none⟩) (by rw [hwR]; exact hpgl) (show ¬ pg = g from hpgne), hwR]; exact c2
          have hcs := cntS_snoc (rowF S I) j co hco
          have hcl := (HCN.out I (j + 1) (by omega)).1
          rw [HSL.out] at hcl
          rw [hcs, HCS.out] at hcl
          rw [HCS.out] at hcs
          obtain ⟨X, Y⟩ := co
          simp only at c1 c2 hcs hcl
          cases hY : Y with
          | false =>
            subst hY
            have HCS2 := Lib.hid (show cntS ((rowF S I).take (j + 1)) = s from hcs)
            have HO2 := Lib.hid (HO.out.alloc (.cells #[.int .i64 X, .bool false] 135))
            have HW2 := Lib.hid (HW.out.alloc (.cells #[.int .i64 X, .bool false] 135))
            clear hcs hcl hco hjr
            go_wp2_with fail
            go_roundw
            case rel => exact ⟨j + 1, s, by omega, hs, by go_num, rfl, HCS2, HB, HO2, HW2⟩
            case measure => simp [intOf] <;> omega
          | true =>
            subst hY
            rw [if_pos rfl] at hcl hcs
            have hsm : s < ss.length := by rw [HM.out]; omega
            obtain ⟨x, hx1, hx2⟩ := HD.out (ss.getD s 0) (mem_getD hsm)
            have cu := HU4.out.int_cell s hsm
            rw [hx1] at cu
            have cur : wr.cell? ⟨g2, s, none⟩ = some (.int .i64 x) := by
              rw [HW.out.cell (p := ⟨g2, s, none⟩) (by rw [hwR]; exact (HU4.out.lt _ rfl).2) (show ¬ g2 = g from hgne), hwR]; exact cu
            have hol : (incAll o (ss.take s)).length = n := by rw [incAll_len]; exact HOL.out
            obtain ⟨V, hV⟩ : ∃ V, (incAll o (ss.take s)).getD x 0 = V := ⟨_, rfl⟩
            have co := HO.out.int_cell x (by rw [hol]; exact hx2)
            rw [hV] at co
            have hvb := HB.out x
            rw [hV] at hvb
            obtain ⟨vb1, vb2⟩ := hvb
            have vb3 : V ≤ 100000 := by omega
            have fo := HO.out.free x
            have lo := (HO.out.lt _ rfl).2
            have hsn := incAll_snoc (ss.take s) o (x : Int)
            have htk : ss.take (s + 1) = ss.take s ++ [(x : Int)] := by rw [take_getD ss s hsm, hx1]
            rw [← htk, Int.toNat_natCast, hV] at hsn
            have hB2 := HB.out.inc x
            rw [hV, ← hsn] at hB2
            have hO2 := (HO.out.set_int x (V + 1) (by rw [hol]; exact hx2)).alloc (.cells #[.int .i64 X, .bool true] 135)
            rw [← hsn] at hO2
            have HB2 := Lib.hid hB2
            have HO2 := Lib.hid hO2
            have HW2 := Lib.hid ((HW.out.setCell (p := ⟨g, x, none⟩) (.inr rfl) (.int .i64 (V + 1))).alloc (.cells #[.int .i64 X, .bool true] 135))
            have HCS2 := Lib.hid (show cntS ((rowF S I).take (j + 1)) = s + 1 from hcs)
            have hsi : (s : Int) < m := by omega
            have hxn : (x : Int) < n := by omega
            have hlg2 : g2 < wr.heap.size := cell_block cur
            clear hcs hco hjr hsm hx1 cu hol hV hsn htk hB2 hO2 HB HO vb2
            go_wp2_with fail
            go_roundw
            case rel => exact ⟨j + 1, s + 1, by omega, by omega, by go_num, by go_num, HCS2, HB2, HO2, HW2⟩
            case measure => simp [intOf] <;> omega
        · have htr : t ≤ (rowF S I).length := by have := HROW.out; omega
          obtain rfl : t = j := by omega
          have HFI2 := Lib.hid (show restF S ss I (2 * (t - s)) (incAll o (ss.take s)) = FIN by
            have := HST.out
            rw [HCS.out, HFIN.out] at this
            exact this.symm)
          have HOL2 := Lib.hid (show (incAll o (ss.take s)).length = n by rw [incAll_len]; exact HOL.out)
          have hsl := (HCN.out I t htr)
          rw [HCS.out] at hsl
          have HBD2 := Lib.hid (show BdL (incAll o (ss.take s)) (2000 * (K - I)) from fun x => by have := HB.out x; omega)
          have hst : s ≤ t := hsl.2.1
          have HT2 := Lib.hid (show I = 0 ∨ 2 * (t - s) ≤ (rowF S (I - 1)).length from by
            rcases Nat.eq_zero_or_pos I with h | h
            · exact .inl h
            · right
              obtain ⟨J, rfl⟩ : ∃ J, I = J + 1 := ⟨I - 1, by omega⟩
              have := (HNS.out J t htr).1
              rw [HCS.out] at this
              exact this)
          have hrm := HRM.out (I - 1)
          rw [HSL.out] at hrm
          have hr0 : (rowF S 0).length = m := HSL.out
          obtain ⟨t2, ht2⟩ : ∃ t2, 2 * (t - s) = t2 := ⟨_, rfl⟩
          have et2 : 2 * ((t : Int) - s) = t2 := by omega
          rw [ht2] at HFI2 HT2
          have ht2b : t2 ≤ 10000 := by omega
          have HT2B := Lib.hid (show I = 0 ∨ t2 ≤ 5000 from by
            rcases HT2.out with h | h
            · exact .inl h
            · exact .inr (by omega))
          clear hsl htr hrm hr0 ht2 HB
          go_wp2_with fail
          go_roundw
          case rel => exact ⟨I, t2, _, by omega, HT2B, by go_num, by go_num, HT2, HFI2, HOL2, HBD2, HO, HW⟩
          case measure => simp [intOf] <;> omega
end Go.Proofs.YtipcdkemokkdfaaGreat

/- Layer 7: what the lengths are: such as are asked for, and least. -/
namespace Go.Proofs.YtipcdkemokkdfaaGreat
open Go.ChangeShapes Go.WideShapes Go.ChangeAt Go.RowKit
set_option linter.unusedVariables false
set_option linter.unusedSimpArgs false
set_option maxRecDepth 100000
open KraftMath Pm
def sumN (G : Nat → Int) : Nat → Int
  | 0 => 0
  | n + 1 => sumN G n + G n
def sumLs (G : Int → Int) : List Int → Int
  | [] => 0
  | x :: l => G x + sumLs G l
theorem sumN_congr {G H : Nat → Int} : ∀ n, (∀ i, i < n → G i = H i) → sumN G n = sumN H n
  | 0, _ => rfl
  | n + 1, h => by rw [sumN, sumN, sumN_congr n (fun i hi => h i (by omega)), h n (by omega)]
theorem sumN_shift (G : Nat → Int) : ∀ n, sumN G (n + 1) = G 0 + sumN (fun i => G (i + 1)) n
  | 0 => by simp [sumN]
  | n + 1 => by
    have := sumN_shift G n
    rw [sumN, this]
    simp only [sumN]; omega
theorem sumLs_append (G : Int → Int) : ∀ a b, sumLs G (a ++ b) = sumLs G a + sumLs G b
  | [], b => by simp [sumLs]
  | x :: a, b => by simp only [List.cons_append, sumLs, sumLs_append G a b]; omega
theorem sumLs_perm (G : Int → Int) {a b : List Int} (h : a.Perm b) : sumLs G a = sumLs G b := by
  induction h with
  | nil => rfl
  | cons x _ ih => simp only [sumLs, ih]
  | swap x y l => simp only [sumLs]; omega
  | trans _ _ h1 h2 => rw [h1, h2]
theorem sumLs_syms (G : Int → Int) (l : List Int) : ∀ n, sumLs G (symsL l n) = sumN (fun i => if 0 < l.getD i 0 then G i else 0) n
  | 0 => by simp [symsL, sumLs, sumN]
  | n + 1 => by
    rw [symsL_succ, sumN, ← sumLs_syms G l n]
    by_cases h : 0 < l.getD n 0
    · simp only [if_pos h, sumLs_append, sumLs]; omega
    · simp only [if_neg h]; omega
theorem sumLs_srt (G : Int → Int) (l : List Int) : sumLs G (srtS l) = sumN (fun i => if 0 < l.getD i 0 then G i else 0) l.length := by
  rw [← sumLs_syms]
  exact sumLs_perm G (St.sortF_perm _ _)
theorem sumLs_idx (G : Int → Int) : ∀ ss : List Int, sumLs G ss = sumN (fun j => G (ss.getD j 0)) ss.length
  | [] => rfl
  | x :: l => by
    rw [List.length_cons, sumN_shift]
    simp only [sumLs, sumLs_idx G l, List.getD_cons_zero, List.getD_cons_succ]
theorem kr_sum (m : Nat) (f : Nat → Nat) : ∀ n, (kr m f n : Int) = sumN (fun j => ((2 ^ (m - f j) : Nat) : Int)) n
  | 0 => rfl
  | n + 1 => by rw [kr, sumN, ← kr_sum m f n]; omega
theorem ksum_sum (m : Nat) (zs : List Int) : ∀ k, k ≤ zs.length → (ksum m (zs.take k) : Int) = sumN (fun i => ((KraftMath.part m (zs.getD i 0) : Nat) : Int)) k
  | 0, _ => by simp [ksum, sumN]
  | k + 1, h => by rw [ksum_succ' m zs k (by omega), sumN, ← ksum_sum m zs k (by omega)]; omega
theorem used_sum (zs : List Int) : ∀ k, k ≤ zs.length → (used (zs.take k) : Int) = sumN (fun i => if 0 < zs.getD i 0 then 1 else 0) k
  | 0, _ => by simp [used, sumN]
  | k + 1, h => by
    rw [used_succ zs k (by omega), sumN, ← used_sum zs k (by omega)]
    split <;> omega
theorem getD_set (o : List Int) (a : Nat) (v : Int) (x : Nat) (h : a < o.length) : (o.set a v).getD x 0 = if a = x then v else o.getD x 0 := by
  rw [List.getD_eq_getElem?_getD, List.getElem?_set, List.getD_eq_getElem?_getD]
  by_cases e : a = x
  · rw [if_pos e, if_pos h, if_pos e]; rfl
  · rw [if_neg e, if_neg e]
theorem incAll_get : ∀ (t : List Int) (o : List Int) (x : Nat), t.Nodup → (∀ u ∈ t, ∃ k : Nat, u = k ∧ k < o.length) → (incAll o t).getD x 0 = o.getD x 0 + if (x : Int) ∈ t then 1 else 0
  | [], o, x, _, _ => by simp [incAll]
  | y :: t, o, x, hn, hb => by
    obtain ⟨k, rfl, hk⟩ := hb y (by simp)
    have hn' := List.nodup_cons.1 hn
    rw [incAll, incAll_get t _ x hn'.2 (fun u hu => by
      obtain ⟨i, h1, h2⟩ := hb u (by simp [hu])
      exact ⟨i, h1, by rw [List.length_set]; exact h2⟩), Int.toNat_natCast, getD_set _ _ _ _ hk]
    by_cases e : k = x
    · subst e
      rw [if_pos rfl, if_neg hn'.1, if_pos (by simp)]; omega
    · rw [if_neg e]
      have : ((x : Int) ∈ (k : Int) :: t) ↔ (x : Int) ∈ t := by
        rw [List.mem_cons]
        constructor
        · rintro (h | h)
          · omega
          · exact h
        · exact .inr
      by_cases h : (x : Int) ∈ t
      · rw [if_pos h, if_pos (this.2 h)]
      · rw [if_neg h, if_neg (fun h' => h (this.1 h'))]
theorem addF_len (ss : List Int) : ∀ (ks : List Nat) (o : List Int), (addF ss o ks).length = o.length
  | [], o => rfl
  | s :: r, o => by rw [addF, addF_len ss r, incAll_len]
theorem addF_at (ss : List Int) (hn : ss.Nodup) (j : Nat) (hj : j < ss.length) (x : Nat) (hx : ss[j] = (x : Int)) : ∀ (ks : List Nat) (o : List Int), (∀ u ∈ ss, ∃ k : Nat, u = k ∧ k < o.length) → (addF ss o ks).getD x 0 = o.getD x 0 + (lenAt ks j : Nat)
  | [], o, _ => by simp [addF, lenAt]
  | s :: r, o, hb => by
    rw [addF, addF_at ss hn j hj x hx r _ (fun u hu => by rw [incAll_len]; exact hb u hu), incAll_get _ _ _ (hn.sublist (List.take_sublist _ _)) (fun u hu => hb u (List.mem_of_mem_take hu))]
    have hm : (x : Int) ∈ ss.take s ↔ j < s := by
      rw [List.mem_take_iff_getElem]
      constructor
      · rintro ⟨i, hi, e⟩
        have := (List.getElem_inj hn).1 (e.trans hx.symm)
        omega
      · intro h
        exact ⟨j, by omega, hx⟩
    simp only [lenAt]
    by_cases h : j < s
    · rw [if_pos (hm.2 h), if_pos h]; omega
    · rw [if_neg (fun h' => h (hm.1 h')), if_neg h]; omega
theorem addF_out (ss : List Int) (hn : ss.Nodup) (x : Nat) (hx : ¬ (x : Int) ∈ ss) : ∀ (ks : List Nat) (o : List Int), (∀ u ∈ ss, ∃ k : Nat, u = k ∧ k < o.length) → (addF ss o ks).getD x 0 = o.getD x 0
  | [], o, _ => rfl
  | s :: r, o, hb => by
    rw [addF, addF_out ss hn x hx r _ (fun u hu => by rw [incAll_len]; exact hb u hu), incAll_get _ _ _ (hn.sublist (List.take_sublist _ _)) (fun u hu => hb u (List.mem_of_mem_take hu)), if_neg (fun h => hx (List.mem_of_mem_take h))]; omega
theorem rep_get (n x : Nat) : (List.replicate n (0 : Int)).getD x 0 = 0 := by
  rw [List.getD_eq_getElem?_getD, List.getElem?_replicate]; split <;> rfl
/-- The length of the j-th symbol in order. -/
def lj (l : List Int) (L j : Nat) : Nat := if (srtS l).length = 1 then 1 else lenAt (ksF ((srtS l).map (frL l)) L) j
theorem srtS_nodup (l : List Int) : (srtS l).Nodup := (St.sortF_perm _ _).nodup_iff.2 (St.asc_nodup (symsL_asc l _))
theorem lensV_len (l : List Int) (L : Nat) : (lensV l L).length = l.length := by
  unfold lensV
  split
  · simp
  · rw [addF_len]; simp
theorem lensV_at (l : List Int) (L j x : Nat) (hj : j < (srtS l).length) (hx : (srtS l)[j] = (x : Int)) : (lensV l L).getD x 0 = (lj l L j : Nat) := by
  have hb : ∀ u ∈ srtS l, ∃ k : Nat, u = k ∧ k < (List.replicate l.length (0 : Int)).length := fun u hu => by
    obtain ⟨k, h1, h2, -⟩ := srtS_mem hu
    exact ⟨k, h1, by simpa using h2⟩
  unfold lensV lj
  by_cases h : (srtS l).length = 1
  · rw [if_pos h, if_pos h]
    obtain rfl : j = 0 := by omega
    have hx0 : (srtS l).getD 0 0 = (x : Int) := by rw [List.getD_eq_getElem?_getD, List.getElem?_eq_getElem hj, hx]; rfl
    obtain ⟨k, h1, h2⟩ := hb x (by rw [← hx]; exact List.getElem_mem hj)
    obtain rfl : x = k := by omega
    rw [hx0, Int.toNat_natCast, getD_set _ _ _ _ h2, if_pos rfl]; rfl
  · rw [if_neg h, if_neg h, addF_at _ (srtS_nodup l) j hj x hx _ _ hb, rep_get]; omega
theorem srtS_iff (l : List Int) (x : Nat) : (x : Int) ∈ srtS l ↔ x < l.length ∧ 0 < l.getD x 0 := by
  unfold srtS
  rw [(St.sortF_perm _ _).mem_iff, symsL_mem]
  constructor
  · rintro ⟨k, h1, h2, h3⟩
    obtain rfl : x = k := by omega
    exact ⟨h2, h3⟩
  · rintro ⟨h1, h2⟩; exact ⟨x, rfl, h1, h2⟩
theorem lensV_out (l : List Int) (L x : Nat) (hx : ¬ 0 < l.getD x 0) : (lensV l L).getD x 0 = 0 := by
  have hb : ∀ u ∈ srtS l, ∃ k : Nat, u = k ∧ k < (List.replicate l.length (0 : Int)).length := fun u hu => by
    obtain ⟨k, h1, h2, -⟩ := srtS_mem hu
    exact ⟨k, h1, by simpa using h2⟩
  have hn : ¬ (x : Int) ∈ srtS l := fun h => hx ((srtS_iff l x).1 h).2
  unfold lensV
  by_cases h : (srtS l).length = 1
  · rw [if_pos h]
    obtain ⟨y, hy⟩ := List.length_eq_one_iff.1 h
    obtain ⟨k, h1, h2⟩ := hb y (by rw [hy]; simp)
    rw [hy]
    show ((List.replicate l.length (0 : Int)).set y.toNat 1).getD x 0 = 0
    rw [h1, Int.toNat_natCast, getD_set _ _ _ _ h2, rep_get, if_neg (fun e => hn (by rw [hy, h1, e]; simp))]
  · rw [if_neg h, addF_out _ (srtS_nodup l) x hn _ _ hb, rep_get]
end Go.Proofs.YtipcdkemokkdfaaGreat
