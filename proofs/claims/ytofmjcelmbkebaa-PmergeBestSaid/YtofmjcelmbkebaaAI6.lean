/- Layer 7: Lengths, whole: what is told. -/
import Derived.Test.YtofmjcelmbkebaaAI5
namespace Go.Proofs.Ytofmjcelmbkebaa
open Go.ChangeShapes Go.WideShapes Go.ChangeAt Go.RowKit
set_option linter.unusedVariables false
set_option linter.unusedSimpArgs false
set_option maxRecDepth 100000
open KraftMath Pm
def incAll (o : List Int) : List Int → List Int
  | [] => o
  | x :: l => incAll (o.set x.toNat (o.getD x.toNat 0 + 1)) l
theorem incAll_snoc : ∀ (l : List Int) (o : List Int) (x : Int), incAll o (l ++ [x]) = (incAll o l).set x.toNat ((incAll o l).getD x.toNat 0 + 1)
  | [], o, x => rfl
  | y :: l, o, x => incAll_snoc l _ x
theorem incAll_len : ∀ (l : List Int) (o : List Int), (incAll o l).length = o.length
  | [], o => rfl
  | y :: l, o => by rw [incAll, incAll_len l]; simp
/-- What is added, row for row. -/
def addF (ss : List Int) (o : List Int) : List Nat → List Int
  | [] => o
  | s :: r => addF ss (incAll o (ss.take s)) r
def restF (S : List Coin) (ss : List Int) : Nat → Nat → List Int → List Int
  | 0, _, o => o
  | k + 1, t, o => addF ss o (takes S k t)
theorem restF_step (S : List Coin) (ss : List Int) (k t : Nat) (o : List Int) : restF S ss (k + 1) t o = restF S ss k (2 * (t - cntS ((rowF S k).take t))) (incAll o (ss.take (cntS ((rowF S k).take t)))) := by
  cases k <;> rfl
def lensV (l : List Int) (L : Nat) : List Int :=
  if (srtS l).length = 1 then (List.replicate l.length 0).set ((srtS l).getD 0 0).toNat 1
  else addF (srtS l) (List.replicate l.length 0) (ksF ((srtS l).map (frL l)) L)
def BdL (o : List Int) (c : Nat) : Prop := ∀ x, 0 ≤ o.getD x 0 ∧ o.getD x 0 ≤ c
theorem BdL.inc {o : List Int} {c : Nat} (h : BdL o c) (x : Nat) : BdL (o.set x (o.getD x 0 + 1)) (c + 1) := by
  intro y
  rw [List.getD_eq_getElem?_getD, List.getElem?_set]
  have h1 := h x
  have h2 := h y
  rw [List.getD_eq_getElem?_getD] at h2
  split
  · split
    · simp only [Option.getD_some]; omega
    · simp; omega
  · omega
theorem srtS_mem {l : List Int} {u : Int} (h : u ∈ srtS l) : ∃ k : Nat, u = k ∧ k < l.length ∧ 0 < l.getD k 0 := (symsL_mem l l.length u).1 ((St.sortF_perm _ _).mem_iff.1 h)
theorem srtS_len (l : List Int) : (srtS l).length = used l := by
  unfold srtS
  rw [(St.sortF_perm _ _).length_eq, symsL_used l l.length (Nat.le_refl _), List.take_of_length_le (Nat.le_refl _)]
theorem srtS_srt (l : List Int) : St.Srt (frL l) (srtS l) := St.sortF_srt _ _ (St.asc_nodup (symsL_asc l _))
theorem srtS_asc (l : List Int) : ((srtS l).map (frL l)).Pairwise (· ≤ ·) := by
  refine List.pairwise_map.2 ((srtS_srt l).imp (fun {a b} h => ?_))
  unfold St.lx at h; omega
theorem chk_ok {l : List Int} {L : Int} (h : chkP l L = 0) : ∃ m : Nat, L = m ∧ 1 ≤ m ∧ m ≤ 16 ∧ l.length ≤ 1024 ∧ (∀ i, 0 ≤ l.getD i 0 ∧ l.getD i 0 ≤ 4294967295) ∧ 1 ≤ used l ∧ used l ≤ 2 ^ m := by
  unfold chkP at h
  split at h
  · simp at h
  split at h
  · simp at h
  split at h
  · simp at h
  split at h
  · simp at h
  split at h
  · simp at h
  · rename_i h1 h2 h3 h4 h5
    refine ⟨L.toNat, by omega, by omega, by omega, by omega, fun i => ?_, by omega, by omega⟩
    by_cases hi : i < l.length
    · have h3' : ∀ v ∈ l, badF v = false := by
        intro v hv
        cases hb : badF v with
        | false => rfl
        | true => exact absurd (List.any_eq_true.2 ⟨v, hv, hb⟩) h3
      have := h3' _ (mem_getD hi)
      unfold badF at this
      simp only [Bool.or_eq_false_iff, decide_eq_false_iff_not] at this
      omega
    · rw [List.getD_eq_getElem?_getD, List.getElem?_eq_none (by omega)]; simp
theorem srtS_pos (l : List Int) : ∀ w ∈ (srtS l).map (frL l), 0 < w := by
  intro w hw
  obtain ⟨u, hu, rfl⟩ := List.mem_map.1 hw
  obtain ⟨k, rfl, h1, h2⟩ := srtS_mem hu
  exact h2
set_option maxHeartbeats 1600000 in
theorem pLenBad (a : Option Addr) (c n : Nat) (l : List Int) (L E : Int) (w : World) (hl : l.length = n) (h : IsInts w a l) (hE : chkP l L = E) (h0 : E ≠ 0) :
    Calls Try.prog 9 #[.slice a n c, .int .i64 L] w fun e w' => e = .returned (.tuple #[.slice none 0 0, .int .i64 E]) ∧ w' = w := by
  have CC := Lib.hid (pChk a c n l L w hl h)
  rw [hE] at CC
  have hne : (E != 0) = true := by rw [bne_iff_ne]; exact h0
  clear h hl hE
  go_enter Try.func9, Try.ntmps9
  go_wp2_with fail
  refine CC.out.mono ?_; rintro e w2 ⟨rfl, rfl⟩
  go_wp2_with fail
  go_ret2
  exact ⟨rfl, rfl⟩
set_option maxHeartbeats 1600000 in
theorem pLenOne (a : Option Addr) (c n : Nat) (l : List Int) (L : Int) (w : World) (hl : l.length = n) (h : IsInts w a l) (hE : chkP l L = 0) (h1 : (srtS l).length = 1) :
    Calls Try.prog 9 #[.slice a n c, .int .i64 L] w fun e w' => ∃ u, e = .returned (.tuple #[u, .int .i64 0]) ∧ OwnI w.heap.size w' u (lensV l L.toNat) ∧ Below w.heap.size w w' := by
  obtain ⟨m, rfl, hm1, hm2, hln, hbd, hu1, hu2⟩ := chk_ok hE
  have CC := Lib.hid (pChk a c n l m w hl h)
  rw [hE] at CC
  have hn : n ≤ 1024 := by omega
  have CB := Lib.hid (fun W hW => pByFreqAll a c n l W hl hW (by omega) (by
    have := srtS_len l
    rw [← hl, symsL_used l l.length (Nat.le_refl _), List.take_of_length_le (Nat.le_refl _), ← this, h1]; decide))
  have HI := Lib.hid h
  obtain ⟨x, hx⟩ := List.length_eq_one_iff.1 h1
  obtain ⟨S, rfl, hS, -⟩ := srtS_mem (l := l) (u := x) (by rw [hx]; simp)
  have HF := Lib.hid (show lensV l (m : Int).toNat = (List.replicate n 0).set S 1 by unfold lensV; rw [if_pos h1, hx, hl]; rfl)
  rw [hx] at CB
  rw [hl] at hS
  obtain ⟨FIN, hFIN⟩ : ∃ FIN, lensV l (m : Int).toNat = FIN := ⟨_, rfl⟩
  rw [hFIN] at HF ⊢
  clear hFIN
  have hSi : (S : Int) < n := by omega
  clear h hl hE h1 hx hbd hu1 hu2 hln
  go_enter Try.func9, Try.ntmps9
  go_wp2_with fail
  refine CC.out.mono ?_; rintro e w1 ⟨rfl, hw⟩
  obtain rfl : w = w1 := hw.symm
  go_wp2_with (refine make_int rfl _ _ rfl .i64 .i64 (n : Int) (n : Int) n rfl rfl rfl rfl (by omega) ?_; intro w2 ho2 hb2 hs2)
  have HO := Lib.hid ho2
  have HBm := Lib.hid hb2
  obtain ⟨g, hg⟩ : ∃ g, w.heap.size = g := ⟨_, rfl⟩
  have HG := Lib.hid hg
  rw [hg] at HO HBm ⊢
  have HIk := Lib.hid (HI.out.kept (by rw [hg]; exact HBm.out))
  clear ho2 hb2 hs2 hg
  refine (CB.out _ HIk.out).mono ?_; rintro e w3 ⟨u, rfl, hu, hb⟩
  have HO := Lib.hid (HO.out.kept hb)
  have HB3 := Lib.hid (HBm.out.trans (hb.mono (by have := HBm.out.size; have := HG.out; omega)))
  obtain ⟨g2, cap, rfl, -, -⟩ := hu.form (by simp) (by decide)
  have cu := hu.int_cell 0 (by simp)
  have lu := (hu.lt _ rfl).2
  simp only [List.length_singleton, List.getD_cons_zero] at *
  have co := HO.out.int_cell S (by rw [List.length_replicate]; exact hS)
  have fo := HO.out.free S
  have lo := (HO.out.lt _ rfl).2
  have HO2 := Lib.hid (HO.out.set_int S 1 (by rw [List.length_replicate]; exact hS))
  have HB2 := Lib.hid (HB3.out.setCell (p := ⟨g, S, none⟩) (Nat.le_refl _) (.int .i64 1))
  clear hu hb CB
  go_wp2_with fail
  go_ret2
  rw [HF.out, HG.out]
  exact ⟨_, rfl, HO2.out, HB2.out⟩
end Go.Proofs.Ytofmjcelmbkebaa
