/- Layer 53: Split. -/
import Derived.Test.YtlcdjilmfjdmhaaA7
import Derived.Deep.WholeRow
import Derived.Deep.DeepMust
namespace Go.Proofs.Ytlcdjilmfjdmhaa
open Go.ChangeShapes Go.WideShapes Go.ChangeAt Go.RowKit Split
set_option linter.unusedVariables false
set_option linter.unusedSimpArgs false
set_option maxRecDepth 100000
/-- What is known of all ends from place k on. -/
def Tabd (fee : Int) (most n : Nat) (L : List UInt8) (k : Nat) (l f : List Int) : Prop :=
  l.length = n + 1 ∧ f.length = n ∧ (∀ q, k ≤ q → q ≤ n → l.getD q 0 = lst (costF fee) most (L.drop q)) ∧ (∀ q, k ≤ q → q < n → f.getD q 0 = (fst (costF fee) most (L.drop q) : Int)) ∧ ∀ q, q < k → q < n → l.getD q 0 = 0 ∧ f.getD q 0 = 0
theorem Tabd.start (fee : Int) (most n : Nat) (L : List UInt8) (hn : L.length = n) : Tabd fee most n L n (List.replicate (n + 1) 0) (List.replicate n 0) := by
  have hz : ∀ m q : Nat, (List.replicate m (0 : Int)).getD q 0 = 0 := by
    intro m q; rw [List.getD_eq_getElem?_getD, List.getElem?_replicate]; split <;> rfl
  refine ⟨List.length_replicate, List.length_replicate, fun q h1 h2 => ?_, fun q h1 h2 => by omega, fun q h1 h2 => ⟨hz _ _, hz _ _⟩⟩
  obtain rfl : q = n := by omega
  rw [hz, List.drop_of_length_le (by omega), lst_nil]
/-- What is known of all ends from place i on, the first of them by its first j ways. -/
def Scn (fee : Int) (most n : Nat) (L : List UInt8) (i j : Nat) (l f : List Int) : Prop :=
  l.length = n + 1 ∧ f.length = n ∧ (∀ q, i < q → q ≤ n → l.getD q 0 = lst (costF fee) most (L.drop q)) ∧ (∀ q, i < q → q < n → f.getD q 0 = (fst (costF fee) most (L.drop q) : Int)) ∧ (∀ q, q < i → q < n → l.getD q 0 = 0 ∧ f.getD q 0 = 0) ∧
    l.getD i 0 = (scanC (wayC (costF fee) most (L.drop i)) j).1 ∧ f.getD i 0 = ((scanC (wayC (costF fee) most (L.drop i)) j).2 : Int)
theorem Scn.start {fee : Int} {most n : Nat} {L : List UInt8} {i : Nat} {l f : List Int} (h : Tabd fee most n L (i + 1) l f) (hi : i < n) : Scn fee most n L i 0 l f :=
  ⟨h.1, h.2.1, fun q h1 h2 => h.2.2.1 q h1 h2, fun q h1 h2 => h.2.2.2.1 q h1 h2, fun q h1 h2 => h.2.2.2.2 q (by omega) h2, (h.2.2.2.2 i (by omega) hi).1, (h.2.2.2.2 i (by omega) hi).2⟩
theorem Scn.done {fee : Int} {most n : Nat} {L : List UInt8} {i : Nat} {l f : List Int} (hn : L.length = n) (hi : i < n) (h : Scn fee most n L i (min most (n - i)) l f) : Tabd fee most n L i l f := by
  obtain ⟨h1, h2, h3, h4, h5, h6, h7⟩ := h
  have hb := best_cons (costF fee) most (L.drop i) (by rw [List.length_drop]; omega)
  rw [List.length_drop, hn] at hb
  rw [← hb] at h6 h7
  refine ⟨h1, h2, fun q a b => ?_, fun q a b => ?_, h5⟩
  · by_cases e : q = i
    · subst e; exact h6
    · exact h3 q (by omega) b
  · by_cases e : q = i
    · subst e; exact h7
    · exact h4 q (by omega) b
theorem Scn.take {fee : Int} {most n : Nat} {L : List UInt8} {i j : Nat} {l f : List Int} (h : Scn fee most n L i j l f) (hi : i < n) (C : Int) (hC : wayC (costF fee) most (L.drop i) (j + 1) = C) (hc : (scanC (wayC (costF fee) most (L.drop i)) j).2 = 0 ∨ C ≤ (scanC (wayC (costF fee) most (L.drop i)) j).1) : Scn fee most n L i (j + 1) (l.set i C) (f.set i ((j : Int) + 1)) := by
  obtain ⟨h1, h2, h3, h4, h5, h6, h7⟩ := h
  have e : scanC (wayC (costF fee) most (L.drop i)) (j + 1) = (C, j + 1) := by rw [scanC, hC, if_pos hc]
  refine ⟨by rw [List.length_set]; exact h1, by rw [List.length_set]; exact h2, fun q a b => ?_, fun q a b => ?_, fun q a b => ?_, ?_, ?_⟩
  · rw [set_getI _ _ _ _ (by omega), if_neg (by omega)]; exact h3 q a b
  · rw [set_getI _ _ _ _ (by omega), if_neg (by omega)]; exact h4 q a b
  · rw [set_getI _ _ _ _ (by omega), if_neg (by omega), set_getI _ _ _ _ (by omega), if_neg (by omega)]; exact h5 q a b
  · rw [set_getI _ _ _ _ (by omega), if_pos rfl, e]
  · rw [set_getI _ _ _ _ (by omega), if_pos rfl, e]; simp
theorem Scn.leave {fee : Int} {most n : Nat} {L : List UInt8} {i j : Nat} {l f : List Int} (h : Scn fee most n L i j l f) (C : Int) (hC : wayC (costF fee) most (L.drop i) (j + 1) = C) (hc : ¬ ((scanC (wayC (costF fee) most (L.drop i)) j).2 = 0 ∨ C ≤ (scanC (wayC (costF fee) most (L.drop i)) j).1)) : Scn fee most n L i (j + 1) l f := by
  obtain ⟨h1, h2, h3, h4, h5, h6, h7⟩ := h
  have e : scanC (wayC (costF fee) most (L.drop i)) (j + 1) = scanC (wayC (costF fee) most (L.drop i)) j := by rw [scanC, hC, if_neg hc]
  exact ⟨h1, h2, h3, h4, h5, by rw [e]; exact h6, by rw [e]; exact h7⟩
def FrqN (F : List Nat) (L : List UInt8) : Prop := F.length = 256 ∧ ∀ b, b < 256 → F.getD b 0 = cn L b
theorem FrqN.start : FrqN (List.replicate 256 0) [] := ⟨List.length_replicate, fun b hb => by rw [List.getD_eq_getElem?_getD, List.getElem?_replicate, if_pos hb]; rfl⟩
theorem FrqN.step {F : List Nat} {D : List UInt8} {j : Nat} (h : FrqN F (D.take j)) (hj : j < D.length) (x : Nat) (hx : (D.getD j 0).toNat = x) : x < 256 ∧ F.getD x 0 ≤ j ∧ FrqN (F.set x (F.getD x 0 + 1)) (D.take (j + 1)) ∧ esum (D.take j) - wt (F.getD x 0) + wt (F.getD x 0 + 1) = esum (D.take (j + 1)) := by
  have hx2 : x < 256 := by rw [← hx]; exact (D.getD j 0).toNat_lt
  refine ⟨hx2, ?_, ⟨by rw [List.length_set]; exact h.1, fun b hb => ?_⟩, ?_⟩
  · rw [h.2 x hx2]; have := cn_le (D.take j) x; rw [List.length_take] at this; omega
  · rw [take8 D j hj, cn_snoc, hx]
    by_cases e : x = b
    · subst e; rw [set_getDN _ _ _ (by rw [h.1]; exact hx2), if_pos rfl, h.2 x hx2]
    · rw [if_neg e, Nat.add_zero, ← h.2 b hb]
      simp [List.getD_eq_getElem?_getD, List.getElem?_set, e]
  · rw [take8 D j hj, esum_snoc, hx, h.2 x hx2]
theorem costF_len (fee : Int) (L : List UInt8) (j : Nat) (h : L.length = j) : wt j - esum L + fee = costF fee L := by
  unfold costF ent; rw [h]
theorem lst_room (fee : Int) (most : Nat) (L : List UInt8) (hm : 0 < most) (hf0 : 0 ≤ fee) (hf1 : fee ≤ 1048576) (hL : L.length ≤ 4096) : 0 ≤ lst (costF fee) most L ∧ lst (costF fee) most L ≤ 4294967296 := by
  have := lst_bd (costF fee) most hm fee hf0 4096 (fun L _ h => by have := ent_nonneg L (by omega); unfold costF; omega) (fun L h => by have := ent_one L h; unfold costF; omega) L.length L (Nat.le_refl _) hL
  refine ⟨this.1, Int.le_trans this.2 ?_⟩
  have : (L.length : Int) * fee ≤ (L.length : Int) * 1048576 := Int.mul_le_mul_of_nonneg_left hf1 (by omega)
  omega
/-- A world that has drawn some more. -/
def DrewOf (w V : World) : Prop := ∃ k, V = w.drewN k
def partT (gw m : Nat) : Array Value := (partL gw m (List.replicate 256 0) 0 0).toArray
theorem partT_all (gw m : Nat) : (partT gw m).all (·.oneCell') = true := by
  unfold partT partL
  simp [Value.oneCell']
theorem partT_size (gw m : Nat) : (partT gw m).size = 259 := by unfold partT partL; simp
theorem part_info : (Try.prog.info? 73).map (·.size) = some 259 := by kernel_rfl
theorem part_zero (gw m : Nat) : ∃ Z : Array Value, Z.setIfInBounds 0 (.slice (some ⟨gw, 0, none⟩) m m) = partT gw m ∧ Z.size = 259 ∧ ∀ W, (zeroValue 73).run Try.prog W = .ok (.agg Z) W := by
  obtain ⟨hz, hi⟩ := zero_of_info (P := Try.prog) (t := 73) (v := .agg (.slice none 0 0 :: List.replicate 258 (.int .i64 0)).toArray) (n := 259) (by kernel_rfl)
  refine ⟨_, ?_, by simp, hz⟩
  unfold partT partL
  rw [List.setIfInBounds_toArray]
  congr 1
set_option maxHeartbeats 3200000 in
theorem cSplit (L : List UInt8) (most n : Nat) (fee : Int) (w : World) (hn : L.length = n) (hL : n ≤ 4096) (hm0 : 1 ≤ most) (hm1 : most ≤ 65536) (hf0 : 0 ≤ fee) (hf1 : fee ≤ 1048576) :
    Calls Try.prog 24 #[.string (sM L), .int .i64 most, .int .i64 fee] w fun e w' => ∃ v, e = .returned (.tuple #[v, .int .i64 (lst (costF fee) most L), .int .i64 0]) ∧ IsL w' v ((pts (costF fee) most L).map (fun x : Nat => (x : Int))) ∧ Below w.heap.size w w' := by
  have hS : (sM L).size = n := by rw [sM_size, hn]
  have HN := Lib.hid hn
  have q1 : decide ((most : Int) < 1) = false := decide_eq_false (by omega)
  have q2 : decide ((65536 : Int) < most) = false := decide_eq_false (by omega)
  have q3 : decide (fee < 0) = false := decide_eq_false (by omega)
  have q4 : decide ((1048576 : Int) < fee) = false := decide_eq_false (by omega)
  have q5 : decide ((4096 : Int) < n) = false := decide_eq_false (by omega)
  have CW := Lib.hid (cWeights n w hL)
  obtain ⟨m, hm⟩ : ∃ m, n + 1 = m := ⟨_, rfl⟩
  have hmi : (n : Int) + 1 = (m : Int) := by omega
  have HM := Lib.hid hm
  rw [hm] at CW
  clear hn hm
  go_enter Try.func24, Try.ntmps24
  go_wp2_with fail
  refine CW.out.mono ?_; rintro e w1 ⟨W, rfl, hW, hws, hb⟩
  obtain ⟨gw, hgw⟩ : ∃ g, w.heap.size = g := ⟨_, rfl⟩
  have HGW := Lib.hid hgw
  rw [hgw] at hW hb ⊢
  have HW := Lib.hid hW
  have HWS := Lib.hid hws
  have HB := Lib.hid hb
  clear hW hws hb CW hgw
  have hz1 : gw ≤ w1.heap.size := by have := HB.out.size; have := HGW.out; omega
  have n1 : gw < w1.heap.size := block_lt HW.out
  go_wp2_with (first | (refine make_int rfl _ _ rfl .i64 .i64 (m : Int) (m : Int) m rfl rfl rfl rfl (by omega) ?_; intro w2 ho2 hb2 hs2) | (refine make_int rfl _ _ rfl .i64 .i64 (n : Int) (n : Int) n rfl rfl rfl rfl (by omega) ?_; intro w3 ho3 hb3 hs3) | fail)
  obtain ⟨gl, hgl⟩ : ∃ g, w1.heap.size = g := ⟨_, rfl⟩
  obtain ⟨gf, hgf⟩ : ∃ g, w2.heap.size = g := ⟨_, rfl⟩
  have HW3 := Lib.hid ((HW.out.kept hb2).kept hb3)
  have HL3 := Lib.hid ((own_V ho2).kept hb3)
  have HF3 := Lib.hid (own_V ho3)
  have HB3 := Lib.hid ((HB.out.trans (hb2.mono hz1)).trans (hb3.mono (by omega)))
  have n2 : gl < gf := by omega
  have n3 : gw < gl := by omega
  have n4 : w2.heap.size < w3.heap.size := block_lt HF3.out
  rw [hgl] at HL3 ⊢
  rw [hgf] at HF3 ⊢
  have HT := Lib.hid (Tabd.start fee most n L HN.out)
  rw [HM.out] at HT
  clear ho2 hb2 hs2 ho3 hb3 hs3 hgl hgf HW HB hz1 n1 q1 q2 q3 q4 q5 hmi
  go_loopw [12] (fun iv wr => ∃ (k : Nat) (l f : List Int), k ≤ n ∧ iv = .int .i64 ((k : Int) - 1) ∧ Hid (Tabd fee most n L k l f) ∧ Hid (IsV wr gl l) ∧ Hid (IsV wr gf f) ∧ Hid (IsV wr gw W) ∧ Hid (Below gw w wr)) (fun iv _ => (intOf iv + 1).toNat)
  case atStart => exact ⟨n, _, _, Nat.le_refl _, by go_num, HT, HL3, HF3, HW3, HB3⟩
  case round =>
    clear HT HL3 HF3 HW3 HB3 n4
    obtain ⟨k, l, f, hk, rfl, HT, HL, HF, HW, HB⟩ := hrel
    by_cases hk0 : 0 < k
    · obtain ⟨i, rfl⟩ : ∃ i, k = i + 1 := ⟨k - 1, by omega⟩
      have hki : ((i + 1 : Nat) : Int) - 1 = (i : Int) := by omega
      have hin : (i : Int) < n := by omega
      have hik : i < n := by omega
      rw [hki]
      obtain ⟨Z, hZ0, hZ1, hZ2⟩ := part_zero gw m
      have hTa := part_info
      have hTs := partT_size gw m
      have hT1 := partT_all gw m
      have hPT : ∀ X : World, IsP (X.alloc (.cells (partT gw m) 73)) X.heap.size gw m (List.replicate 256 0) 0 0 := fun X => ⟨List.length_replicate, heap_alloc_new X _⟩
      have HPT := Lib.hid (hPT wr)
      rw [← hZ0] at hTs hT1
      have HT1 := Lib.hid hT1
      have HTS := Lib.hid (show (Try.prog.info? 73).map (·.size) = some (Z.setIfInBounds 0 (.slice (some ⟨gw, 0, none⟩) m m)).size by rw [hTs]; exact hTa)
      have HZS := Lib.hid (show Z.size = (Z.setIfInBounds 0 (.slice (some ⟨gw, 0, none⟩) m m)).size by rw [hTs, hZ1])
      have hnew := Lib.hid (heap_alloc_new wr (.cells Z 73))
      have HTT := Lib.hid hZ0
      have hba : Below wr.heap.size wr (wr.alloc (.cells (partT gw m) 73)) := (Below.refl _ _).alloc (Nat.le_refl _) _
      have HL1 := Lib.hid (HL.out.kept hba)
      have HF1 := Lib.hid (HF.out.kept hba)
      have HW1 := Lib.hid (HW.out.kept hba)
      have hz2 : gw ≤ wr.heap.size := by have := HB.out.size; have := HGW.out; omega
      have HB1 := Lib.hid (HB.out.trans (hba.mono hz2))
      have n5 : gf < wr.heap.size := block_lt HF.out
      have hZn : ¬ Z = #[] := by intro h; rw [h] at hZ1; simp at hZ1
      have hZp : ¬ Z.size < 1 := by omega
      clear hki hTa hTs hT1 hZ0 hZ1 hba hPT
      go_wp2_with (first | (refine wpList_store_row rfl 73 (.tmp 13) (.tmp 55) rfl wr.heap.size _ rfl rfl 73 Z hnew.out HTS.out HZS.out HT1.out ?_; rw [setRow_last, HTT.out]) | fail)
      clear hZn hZp hZ2 HTS HZS HT1 hnew HTT HL HF HW HB
      generalize wr.alloc (.cells (partT gw m) 73) = w4 at *
      obtain ⟨b, hb⟩ : ∃ b, wr.heap.size = b := ⟨_, rfl⟩
      rw [hb] at HPT n5 hz2 ⊢
      clear hb
      obtain ⟨M, hM⟩ : ∃ M, min most (n - i) = M := ⟨_, rfl⟩
      have HMM := Lib.hid hM
      have hmn1 : (if (n : Int) - i < most then (n : Int) - i else (most : Int)) = (M : Int) := by split <;> omega
      have hMb : M ≤ n - i := by omega
      have HSC := Lib.hid (Scn.start HT.out (by omega))
      have HFQ := Lib.hid (show FrqN (List.replicate 256 0) ((L.drop i).take 0) from by rw [List.take_zero]; exact FrqN.start)
      have HPP := Lib.hid (show IsP w4 b gw m (List.replicate 256 0) 0 (esum ((L.drop i).take 0)) by rw [List.take_zero, esum_nil]; exact HPT.out)
      clear hM HT HPT
      go_loopw [14] (fun nv wr => ∃ (j t : Nat) (l f : List Int) (F : List Nat), j ≤ M ∧ t = j + 1 ∧ nv = .int .i64 t ∧ Hid (Scn fee most n L i j l f) ∧ Hid (FrqN F ((L.drop i).take j)) ∧ Hid (IsP wr b gw m F j (esum ((L.drop i).take j))) ∧ Hid (IsV wr gl l) ∧ Hid (IsV wr gf f) ∧ Hid (IsV wr gw W) ∧ Hid (Below gw w wr)) (fun nv _ => (M + 1 - (intOf nv).toNat))
      case atStart => exact ⟨0, 1, l, f, _, Nat.zero_le _, rfl, rfl, HSC, HFQ, HPP, HL1, HF1, HW1, HB1⟩
      case round =>
        clear HSC HFQ HPP HL1 HF1 HW1 HB1
        obtain ⟨j, t, l, f, F, hj, ht, rfl, HSC, HFQ, HPP, HL, HF, HW, HB⟩ := hrel
        have HTJ := Lib.hid ht
        by_cases hlt : j < M
        · have htM : (t : Int) ≤ M := by omega
          obtain ⟨q, hq⟩ : ∃ q, i + j = q := ⟨_, rfl⟩
          obtain ⟨r, hr⟩ : ∃ r, i + t = r := ⟨_, rfl⟩
          have hri : (i : Int) + t = (r : Int) := by omega
          have hwr : IntKind.i64.wrap ((i : Int) + t) = (r : Int) := by rw [hri]; exact IntWalk.i64_in _ (by omega)
          have hwr2 : IntKind.i64.wrap (r : Int) = (r : Int) := IntWalk.i64_in _ (by omega)
          have hrq : (r : Int) - 1 = (q : Int) := by omega
          have hqn : q < n := by omega
          have hrn : (r : Int) < m := by have := HM.out; omega
          have x1 := ixM L (q : Int) q rfl (by rw [HN.out]; exact hqn)
          obtain ⟨x, hx⟩ : ∃ x, (L.getD q 0).toNat = x := ⟨_, rfl⟩
          rw [hx] at x1
          have hDl : (L.drop i).length = n - i := by rw [List.length_drop, HN.out]
          have hDg : ((L.drop i).getD j 0).toNat = x := by rw [drop_getD8, hq, hx]
          obtain ⟨hx2, hfj, hFQ2, hes⟩ := HFQ.out.step (by omega) x hDg
          have heb := esum_bd ((L.drop i).take j) (by rw [List.length_take]; omega)
          rw [List.length_take, hDl] at heb
          have CA := Lib.hid (cAdd b gw m j x F (esum ((L.drop i).take j)) W wr HPP.out HW.out (by rw [← HM.out]; exact HWS.out) (by have := HM.out; omega) (by omega) hx2 (by have := HM.out; omega) (by omega) (by omega) (by omega) (by have := HM.out; omega))
          have heb2 := esum_bd ((L.drop i).take (j + 1)) (by rw [List.length_take]; omega)
          have hD1 : ((L.drop i).take (j + 1)).length = j + 1 := by rw [List.length_take]; omega
          rw [hD1] at heb2
          have hen := ent_nonneg ((L.drop i).take (j + 1)) (by omega)
          have hwc := costF_len fee ((L.drop i).take (j + 1)) (j + 1) hD1
          have hwt := wt_bd (j + 1) (by omega)
          have hway : wayC (costF fee) most (L.drop i) (j + 1) = costF fee ((L.drop i).take (j + 1)) + lst (costF fee) most (L.drop r) := by
            unfold wayC
            rw [List.drop_drop, show i + (j + 1) = r by omega]
          rw [← hwc] at hway
          have hent : ent ((L.drop i).take (j + 1)) = wt (j + 1) - esum ((L.drop i).take (j + 1)) := by unfold ent; rw [hD1]
          have hlr := HSC.out.2.2.1 r (by omega) (by omega)
          have hlb := lst_room fee most (L.drop r) (by omega) hf0 hf1 (by rw [List.length_drop, HN.out]; omega)
          have HL9 := Lib.hid hlr
          obtain ⟨R, hR⟩ : ∃ R, lst (costF fee) most (L.drop r) = R := ⟨_, rfl⟩
          obtain ⟨V, hV⟩ : ∃ V, wt (j + 1) - esum ((L.drop i).take (j + 1)) = V := ⟨_, rfl⟩
          obtain ⟨C, hC⟩ : ∃ C, V + fee + R = C := ⟨_, rfl⟩
          rw [hR] at hlr hway hlb
          rw [hV] at hway hent
          rw [hent] at hen
          rw [hC] at hway
          have hVb : V ≤ 10000000 := by omega
          have hwV : IntKind.i64.wrap (V + fee) = V + fee := IntWalk.i64_in _ (by omega)
          have hwC : IntKind.i64.wrap (V + fee + R) = C := by rw [hC]; exact IntWalk.i64_in _ (by omega)
          have HWAY := Lib.hid hway
          have HVV := Lib.hid hV
          have HFQ2 := Lib.hid hFQ2
          have HES := Lib.hid hes
          have HLR := Lib.hid hlr
          have hjn : (j : Int) < n := by omega
          have hj4 : j + 1 ≤ 4096 := by omega
          clear hlr hway hV hR hC hes hFQ2 hent hwc hwt heb heb2 hD1 hDg hDl hx hq hr ht hfj HL9 hlt
          go_wp2_with fail
          refine CA.out.mono ?_; rintro e w5 ⟨rfl, hP5, hk5⟩
          rw [HES.out] at hP5
          have HL5 := Lib.hid (HL.out.keeps hk5 (by omega))
          have HF5 := Lib.hid (HF.out.keeps hk5 (by omega))
          have HW5 := Lib.hid (HW.out.keeps hk5 (by omega))
          have HB5 := Lib.hid (HB.out.trans (hk5.below (B := gw) (fun k hk => ⟨by have := block_lt HW.out; omega, by omega⟩)))
          have HP5 := Lib.hid hP5
          have heb5 := esum_bd ((L.drop i).take (j + 1)) (by rw [List.length_take]; omega)
          have hl5 : ((L.drop i).take (j + 1)).length ≤ j + 1 := by rw [List.length_take]; omega
          have CP := Lib.hid (cPcost b gw m (j + 1) _ _ W w5.drew (HP5.out.drewN 1) (HW5.out.drewN 1) (by rw [← HM.out]; exact HWS.out) (by have := HM.out; omega) heb5.1 (by omega) (by have := HM.out; omega) V HVV.out)
          have cl := HL5.out.cell r (by rw [HSC.out.1]; have := HM.out; omega)
          rw [HLR.out] at cl
          have lgl := block_lt HL5.out
          clear hP5 hk5 HL HF HW HB HPP CA heb5 hl5 x1
          have HS0 := Lib.hid (show w5.drew.cell? ⟨gl, r, none⟩ = some (.int .i64 R) ∧ gl < w5.drew.heap.size ∧ DrewOf w5 w5.drew from ⟨cl, lgl, 1, rfl⟩)
          have HS1 := Lib.hid (show w5.drew.drew.cell? ⟨gl, r, none⟩ = some (.int .i64 R) ∧ gl < w5.drew.drew.heap.size ∧ DrewOf w5 w5.drew.drew from ⟨cl, lgl, 2, rfl⟩)
          go_wp2_with fail
          go_region_held3 (fun V => V.cell? ⟨gl, r, none⟩ = some (.int .i64 R) ∧ gl < V.heap.size ∧ DrewOf w5 V) (first | exact HS0.out | exact HS1.out) (first | (go_at_call 52; go_must (with_reducible refine CP.out.mono ?_; rintro e wx ⟨rfl, rfl⟩)) | fail)
          simp only [Exit.then]
          rename_i hK hHeld
          refine hK _ _ ?_
          clear hK hHeld HS0 HS1 CP cl lgl hwr hwr2 hwV hwC hri hrq hrn hVb
          have HP6 := Lib.hid (HP5.out.drewN 2)
          have HL6 := Lib.hid (HL5.out.drewN 2)
          have HF6 := Lib.hid (HF5.out.drewN 2)
          have HW6 := Lib.hid (HW5.out.drewN 2)
          have HB6 := Lib.hid (show Below gw w (w5.drewN 2) from below_dn HB5.out 2)
          clear HP5 HL5 HF5 HW5 HB5
          change Code.wp Try.prog _ _ _ (w5.drewN 2)
          generalize w5.drewN 2 = w6 at *
          have cf := HF6.out.cell i (by rw [HSC.out.2.1]; omega)
          have cl := HL6.out.cell i (by rw [HSC.out.1]; omega)
          rw [HSC.out.2.2.2.2.2.2] at cf
          rw [HSC.out.2.2.2.2.2.1] at cl
          have ff := HF6.out.free i
          have fl := HL6.out.free i
          have l1 := block_lt HF6.out
          have l2 := block_lt HL6.out
          have him : (i : Int) < m := by have := HM.out; omega
          have hnf : gf ≠ gl := by omega
          have hnl : gl ≠ gf := by omega
          have HSG := Lib.hid (fun h => HSC.out.take (by omega) C HWAY.out h)
          have HSL := Lib.hid (fun h => HSC.out.leave C HWAY.out h)
          have HFS := Lib.hid (fun x y => ((HF6.out.set i x).away (k := gl) (j := i) (u := .int .i64 y) hnf))
          have HLS := Lib.hid (fun x y => ((HL6.out.away (k := gf) (j := i) (u := .int .i64 x) hnl).set i y))
          have HWS6 := Lib.hid (fun x y => ((HW6.out.away (k := gf) (j := i) (u := .int .i64 x) (by omega)).away (k := gl) (j := i) (u := .int .i64 y) (by omega)))
          have HPS6 := Lib.hid (fun x y => ((HP6.out.away (k := gf) (j := i) (u := .int .i64 x) (by omega)).away (k := gl) (j := i) (u := .int .i64 y) (by omega)))
          have HBS6 := Lib.hid (fun x y => ((HB6.out.setCell (p := ⟨gf, i, none⟩) (by simp only; omega) (.int .i64 x)).setCell (p := ⟨gl, i, none⟩) (by simp only; omega) (.int .i64 y)))
          obtain ⟨⟨X, Y⟩, hXY⟩ : ∃ s, scanC (wayC (costF fee) most (L.drop i)) j = s := ⟨_, rfl⟩
          rw [hXY] at cf cl HSG HSL
          have hti : (t : Int) = (j : Int) + 1 := by have := HTJ.out; omega
          have HTI := Lib.hid hti
          clear hXY HSC hti
          by_cases hY : Y = 0
          · have e1 : ((Y : Int) == 0) = true := by rw [beq_iff_eq]; omega
            have HS2 := Lib.hid (HSG.out (.inl hY))
            rw [← HTI.out] at HS2
            clear hY HSG HSL
            go_wp2_with fail
            go_roundw
            case rel => exact ⟨j + 1, t + 1, _, _, _, by have := HTJ.out; omega, by have := HTJ.out; omega, by go_num, HS2, HFQ2, HPS6.out _ _, HLS.out _ _, HFS.out _ _, HWS6.out _ _, HBS6.out _ _⟩
            case measure => simp [intOf]; omega
          · have e1 : ((Y : Int) == 0) = false := by rw [beq_eq_false_iff_ne]; omega
            by_cases hCX : C ≤ X
            · have HS2 := Lib.hid (HSG.out (.inr hCX))
              rw [← HTI.out] at HS2
              clear hY HSG HSL
              go_wp2_with fail
              go_roundw
              case rel => exact ⟨j + 1, t + 1, _, _, _, by have := HTJ.out; omega, by have := HTJ.out; omega, by go_num, HS2, HFQ2, HPS6.out _ _, HLS.out _ _, HFS.out _ _, HWS6.out _ _, HBS6.out _ _⟩
              case measure => simp [intOf]; omega
            · have HS2 := Lib.hid (HSL.out (fun h => h.elim hY hCX))
              clear hY HSG HSL
              go_wp2_with fail
              go_roundw
              case rel => exact ⟨j + 1, t + 1, _, _, _, by have := HTJ.out; omega, by have := HTJ.out; omega, by go_num, HS2, HFQ2, HP6, HL6, HF6, HW6, HB6⟩
              case measure => simp [intOf]; omega
        · obtain rfl : j = M := by omega
          have htM : ¬ (t : Int) ≤ j := by omega
          have HT := Lib.hid (Scn.done HN.out hik (by rw [HMM.out]; exact HSC.out))
          clear ht
          go_wp2_with fail
          go_roundw
          case rel => exact ⟨i, _, _, by omega, by go_num, HT, HL, HF, HW, HB⟩
          case measure => simp [intOf] <;> omega
    · obtain rfl : k = 0 := by omega
      have hki : ((0 : Nat) : Int) - 1 = -1 := by omega
      rw [hki]
      clear hki hk0
      obtain ⟨wo, rfl⟩ : ∃ wo : World, wo = wr := ⟨_, rfl⟩
      have n6 := block_lt HF.out
      have n7 := block_lt HL.out
      have HBZ := Lib.hid (show gw ≤ wo.heap.size by omega)
      have cl0 := HL.out.cell 0 (by rw [HT.out.1]; omega)
      rw [HT.out.2.2.1 0 (Nat.le_refl _) (Nat.zero_le _), List.drop_zero] at cl0
      have CL0 := Lib.hid cl0
      have h0m : (0 : Int) < m := by have := HM.out; omega
      clear cl0
      go_wp2_with fail
      go_loopw [16, 17] (fun ov iv wr => ∃ (i : Nat) (o : List Int), i ≤ n ∧ iv = .int .i64 i ∧ Hid (o ++ (pts (costF fee) most (L.drop i)).map (fun x : Nat => (x : Int)) = (pts (costF fee) most L).map (fun x : Nat => (x : Int))) ∧ o.length ≤ i ∧ Hid (OwnI wo.heap.size wr ov o) ∧ Hid (Below wo.heap.size wo wr)) (fun _ iv _ => (n - (intOf iv).toNat))
      case atStart => exact ⟨0, [], Nat.zero_le _, rfl, Lib.hid (by rw [List.drop_zero]; rfl), Nat.le_refl _, Lib.hid OwnS.nil, Lib.hid (Below.refl _ _)⟩
      case round =>
        obtain ⟨i, o, hi, rfl, HO, hol, HR, HQ⟩ := hrel
        obtain ⟨va, vc, rfl⟩ := HR.out.slice
        by_cases hlt : i < n
        · have hin : (i : Int) < n := by omega
          have hDl : 0 < (L.drop i).length := by rw [List.length_drop, HN.out]; omega
          obtain ⟨b1, b2, b3, -⟩ := best_spec (costF fee) most (L.drop i) hDl (by omega)
          rw [List.length_drop, HN.out] at b3
          have cf := ((HF.out.kept HQ.out).cell i (by rw [HT.out.2.1]; exact hlt))
          rw [HT.out.2.2.2.1 i (Nat.zero_le _) hlt] at cf
          have HO2 := HO.out
          rw [pts_cons (costF fee) most (L.drop i) hDl (by omega), List.drop_drop] at HO2
          obtain ⟨q, hq⟩ : ∃ q, fst (costF fee) most (L.drop i) = q := ⟨_, rfl⟩
          rw [hq] at cf b1 b2 b3 HO2
          have HO3 := Lib.hid (show (o ++ [(q : Int)]) ++ (pts (costF fee) most (L.drop (i + q))).map (fun x : Nat => (x : Int)) = (pts (costF fee) most L).map (fun x : Nat => (x : Int)) by rw [← HO2]; simp)
          have lf : gf < wr.heap.size := Nat.lt_of_lt_of_le n6 HQ.out.size
          have HBs := Lib.hid (show wo.heap.size ≤ wr.heap.size from HQ.out.size)
          have HLn := Lib.hid (show o.length ≤ 1099511627776 by omega)
          have HQF := Lib.hid hq
          have HFL := Lib.hid (show i < f.length by rw [HT.out.2.1]; exact hlt)
          have HFC := Lib.hid (show some (Value.int .i64 (f.getD i 0)) = some (.int .i64 (q : Int)) by rw [HT.out.2.2.2.1 i (Nat.zero_le _) hlt, hq])
          clear HO2 hq hDl
          go_wp2_with (at_builtin; refine app_int rfl _ _ rfl wo.heap.size _ (.slice va o.length vc) o (q : Int) rfl HR.out wr.heap.size 1 rfl rfl HLn.out HBs.out ?_; intro v5 w5 ho5 hb5 hg5; have cf5 := (((HF.out.kept (HQ.out.trans hb5))).cell i HFL.out).trans HFC.out; have lf5 : gf < w5.heap.size := Nat.lt_of_lt_of_le n6 (HQ.out.trans hb5).size)
          have HR5 := Lib.hid ho5
          have HQ5 := Lib.hid (HQ.out.trans hb5)
          clear ho5 hb5 hg5
          go_roundw
          case rel => exact ⟨i + q, _, by omega, by go_num, HO3, by rw [List.length_append]; simp; omega, HR5, HQ5⟩
          case measure => simp [intOf]; omega
        · obtain rfl : i = n := by omega
          have cl := (HQ.out.cell (p := ⟨gl, 0, none⟩) n7).trans CL0.out
          have ll : gl < wr.heap.size := Nat.lt_of_lt_of_le n7 HQ.out.size
          have HO2 := HO.out
          rw [pts_nil _ _ _ (by rw [List.length_drop, HN.out]; omega), List.map_nil, List.append_nil] at HO2
          have HIL := Lib.hid (show IsL wr (.slice va o.length vc) ((pts (costF fee) most L).map (fun x : Nat => (x : Int))) by rw [← HO2]; exact HR.out.isL (by omega))
          have HBW := Lib.hid (show Below w.heap.size w wr by rw [HGW.out]; exact HB.out.trans (HQ.out.mono HBZ.out))
          obtain ⟨LL, hLL⟩ : ∃ x, lst (costF fee) most L = x := ⟨_, rfl⟩
          have HLL := Lib.hid hLL
          rw [hLL] at cl
          clear HO2 hLL
          go_wp2_with fail
          go_region
          go_wp2_with fail
          go_ret3
          exact ⟨_, by rw [HLL.out]; rfl, HIL.out.drewN 1, HBW.out.drew⟩
set_option maxHeartbeats 1600000 in
theorem cSplitErr (s : ByteArray) (most fee : Int) (w : World) (h : most < 1 ∨ 65536 < most ∨ fee < 0 ∨ 1048576 < fee ∨ 4096 < s.size) :
    Calls Try.prog 24 #[.string s, .int .i64 most, .int .i64 fee] w fun e w' => e = .returned (.tuple #[.slice none 0 0, .int .i64 0, .int .i64 1]) ∧ w' = w := by
  by_cases h1 : most < 1
  · have d1 : decide (most < 1) = true := decide_eq_true h1
    go_enter Try.func24, Try.ntmps24
    go_wp2_with fail
    go_ret3
    exact ⟨rfl, rfl⟩
  have d1 : decide (most < 1) = false := decide_eq_false h1
  by_cases h2 : 65536 < most
  · have d2 : decide (65536 < most) = true := decide_eq_true h2
    go_enter Try.func24, Try.ntmps24
    go_wp2_with fail
    go_ret3
    exact ⟨rfl, rfl⟩
  have d2 : decide (65536 < most) = false := decide_eq_false h2
  by_cases h3 : fee < 0
  · have d3 : decide (fee < 0) = true := decide_eq_true h3
    go_enter Try.func24, Try.ntmps24
    go_wp2_with fail
    go_ret3
    exact ⟨rfl, rfl⟩
  have d3 : decide (fee < 0) = false := decide_eq_false h3
  by_cases h4 : 1048576 < fee
  · have d4 : decide (1048576 < fee) = true := decide_eq_true h4
    go_enter Try.func24, Try.ntmps24
    go_wp2_with fail
    go_ret3
    exact ⟨rfl, rfl⟩
  have d4 : decide (1048576 < fee) = false := decide_eq_false h4
  have d5 : decide ((4096 : Int) < s.size) = true := decide_eq_true (by omega)
  have d6 : decide (4096 < s.size) = true := decide_eq_true (by omega)
  go_enter Try.func24, Try.ntmps24
  go_wp2_with fail
  go_ret3
  exact ⟨rfl, rfl⟩
end Go.Proofs.Ytlcdjilmfjdmhaa
