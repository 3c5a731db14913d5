/- Layer 43: Count. -/
import Derived.Test.YtdonecbcnkipbaaAQ9
import Derived.Test.YtdonecbcnkipbaaShelf
namespace Go.Proofs.Ytdonecbcnkipbaa
open Go.ChangeShapes Go.WideShapes Go.ChangeAt Go.RowKit Go.Maps Go.Lib Go.ChangeMaps
set_option linter.unusedVariables false
set_option linter.unusedSimpArgs false
set_option maxRecDepth 100000
open RollMath Gm
theorem cClone (t : Tx) (h : t.length ≤ 100000) (w : World) : Calls Try.prog 15 #[.string (sT t)] w fun e w' => e = .returned (.string (sT t)) ∧ Below w.heap.size w w' := by
  have C := Lib.hid (fun W => Try.stringslite_Clone (sT t) W (by rw [sT_size]; omega))
  go_enter Try.func15, Try.ntmps15
  go_wp2_with fail
  refine (C.out _).mono ?_; rintro e w1 ⟨rfl, hb⟩
  have HB := Lib.hid hb
  clear hb
  go_wp2_with fail
  go_ret
  exact ⟨rfl, HB.out⟩
theorem cCountNo (v : Value) (k : Int) (w : World) (hk : k < 1 ∨ 16 < k) : Calls Try.prog 10 #[v, .int .i64 k] w fun e w' => e = .returned (.slice none 0 0) ∧ Below w.heap.size w w' := by
  by_cases h1 : k < 1
  · clear hk
    go_enter Try.func10, Try.ntmps10
    go_wp2_with fail
    go_ret
    exact ⟨rfl, by go_grown⟩
  · have h2 : 16 < k := by omega
    clear hk
    go_enter Try.func10, Try.ntmps10
    go_wp2_with fail
    go_ret
    exact ⟨rfl, by go_grown⟩
theorem below_grown {a b : World} (h : Below a.heap.size a b) (row : Option Nat) : a.grownBy b row := ⟨h.os, h.tape, h.output, h.size, fun k hk _ => h.block k hk⟩
theorem lit_inj {a b : Int} (h : (DataW.lit (.int .i64 a) : DataW Unit) = .lit (.int .i64 b)) : a = b := by
  injection h with h; injection h
def winsTo (ls : List Tx) (K n q : Nat) : List Tx := allW (ls.take n) K ++ (wins (ls.getD n []) K).take q
theorem winsTo_next {ls : List Tx} {K n q : Nat} (h : q < (ls.getD n []).length + 1 - K) : winsTo ls K n (q + 1) = winsTo ls K n q ++ [((ls.getD n []).drop q).take K] := by
  unfold winsTo
  rw [wins_take _ _ _ h, List.append_assoc]
theorem winsTo_row {ls : List Tx} {K n q : Nat} (hi : n < ls.length) (h : (ls.getD n []).length + 1 - K ≤ q) : winsTo ls K n q = winsTo ls K (n + 1) 0 := by
  unfold winsTo
  rw [List.take_zero, List.append_nil, allW_next K hi, List.take_of_length_le (show (wins (ls.getD n []) K).length ≤ q by rw [wins_length]; exact h)]
theorem winsTo_end (ls : List Tx) (K : Nat) : winsTo ls K ls.length 0 = allW ls K := by
  unfold winsTo
  rw [List.take_zero, List.append_nil, List.take_length]
theorem winsTo_few {ls : List Tx} (hF : Few ls) (K n q : Nat) (h : n ≤ ls.length) : (winsTo ls K n q).length ≤ 800 := by
  unfold winsTo
  rw [List.length_append, List.length_take, wins_length]
  have h1 := allW_take_few hF K n h
  have h2 : (ls.getD n []).length ≤ 60 := by
    by_cases hn : n < ls.length
    · exact hF.short n hn
    · rw [List.getD_eq_getElem?_getD, List.getElem?_eq_none (by omega)]; simp
  have := hF.few
  omega
set_option maxHeartbeats 6400000 in
theorem cCountG (a : Option Addr) (c : Nat) (ls : List Tx) (K : Nat) (w : World) (h : IsTs w a ls) (hF : Few ls) (h1 : 1 ≤ K) (h16 : K ≤ 16) :
    Calls Try.prog 10 #[.slice a ls.length c, .int .i64 K] w fun e w' => ∃ v, e = .returned v ∧ OwnG w.heap.size w' v (cntL ls K) ∧ Below w.heap.size w w' := by
  have HI := Lib.hid h
  have HF := Lib.hid hF
  have hl := hF.few
  have hk1 : ¬ (K : Int) < 1 := by omega
  have hk2 : ¬ (16 : Int) < (K : Int) := by omega
  have hmm := @run_makeMap Try.prog
  clear h hF
  go_enter Try.func10, Try.ntmps10
  go_wp2_with fail
  obtain ⟨b, hb⟩ : ∃ b, w.heap.size = b := ⟨_, rfl⟩
  obtain ⟨w1, hw1⟩ : ∃ w1, w.alloc (.map #[] 0) = w1 := ⟨_, rfl⟩
  have HM1 := Lib.hid (show IsMS w1 b (winsTo ls K 0 0).length (winsTo ls K 0 0) from by
    rw [← hw1, ← hb]; exact IsMS.made w)
  have HB1 := Lib.hid (show Below w.heap.size w w1 by rw [← hw1]; exact (Below.refl _ _).alloc (Nat.le_refl _) _)
  have HI1 := Lib.hid (HI.out.kept HB1.out)
  have hsz1 : w1.heap.size = b + 1 := by rw [← hw1, ← hb]; simp
  rw [hw1, hb]
  have HBB := Lib.hid hb
  have HSZ1 := Lib.hid hsz1
  clear hw1 HI hk1 hk2 hmm hb hsz1
  go_loopw [21] (fun i wr => ∃ n : Nat, n ≤ ls.length ∧ i = .int .i64 n ∧ Hid (IsMS wr b (winsTo ls K n 0).length (winsTo ls K n 0)) ∧ Hid (MT w1 wr b)) (fun i _ => ls.length - (intOf i).toNat)
  case atStart => exact ⟨0, Nat.zero_le _, rfl, HM1, Lib.hid (MT.refl _ _)⟩
  case round =>
    clear HM1
    obtain ⟨n, hn, rfl, hm, ht⟩ := hrel
    by_cases hlt : n < ls.length
    · have hni : (n : Int) < (ls.length : Int) := by omega
      have hn0 : (0 : Int) ≤ (n : Int) := by omega
      have HSH := Lib.hid (HF.out.short n hlt)
      obtain ⟨x, rfl, -, cx⟩ := (ht.out.ts HI1.out).at n hlt
      have hrow := @winsTo_row ls K n
      have hnext := fun q (h : q < (ls.getD n []).length + 1 - K) => winsTo_next h
      have hfew := fun q => winsTo_few HF.out K n q hn
      obtain ⟨S, hS⟩ : ∃ S, ls.getD n [] = S := ⟨_, rfl⟩
      have hsh := HSH.out
      rw [hS] at cx hrow hnext hsh
      have hsz := sT_size S
      have HROW := Lib.hid (fun q => @hrow q hlt)
      have HNEXT := Lib.hid hnext
      have HFEW := Lib.hid hfew
      clear hrow hnext hfew hS HSH
      go_wp2_with fail
      go_loopw [8] (fun x wr => ∃ q : Nat, q ≤ 61 ∧ x = .int .i64 q ∧ Hid (IsMS wr b (winsTo ls K n q).length (winsTo ls K n q)) ∧ Hid (MT w1 wr b)) (fun x _ => 100 - (intOf x).toNat)
      case atStart => exact ⟨0, by omega, rfl, hm, ht⟩
      case round =>
        clear hm ht
        obtain ⟨q, hq61, rfl, hm, ht⟩ := hrel
        by_cases hq : q + K ≤ S.length
        · have hqd : decide ((q : Int) + (K : Int) ≤ (S.length : Int)) = true := decide_eq_true (by omega)
          have hqi : (q : Int) + (K : Int) ≤ (S.length : Int) := by omega
          have HQ := Lib.hid (show q + 1 ≤ 61 by omega)
          have hnx := HNEXT.out q (by omega)
          have hsl := fun W => sl_win S q K hq (by omega) W
          obtain ⟨T, hT⟩ : ∃ T, (S.drop q).take K = T := ⟨_, rfl⟩
          rw [hT] at hnx hsl
          have hTl : T.length ≤ 16 := by rw [← hT, List.length_take]; omega
          have hL := HFEW.out q
          obtain ⟨L, hLL⟩ : ∃ L, winsTo ls K n q = L := ⟨_, rfl⟩
          rw [hLL] at hnx hL hm
          obtain ⟨D, ho, hD, hKD⟩ := hm.out
          have hkey := keyS T (by omega)
          have hat2 := (hD T).2
          have hcl := List.count_le_length (a := T) (l := L)
          have HIM := Lib.hid ho.isMap
          have HD := Lib.hid hD
          have HKD := Lib.hid hKD
          have HPUT := Lib.hid (fun w' h' => IsMS.put (w' := w') (b := b) (c := L.length) (t := T) HIM.out HD.out HKD.out h')
          obtain ⟨CN, hCN⟩ : ∃ CN, L.count T = CN := ⟨_, rfl⟩
          rw [hCN] at HPUT hat2 hcl
          have hCN7 : CN ≤ 800 := by omega
          have hv : plainElem (H := Unit) Try.prog 3 (.int .i64 ((CN : Int) + 1)) = some (.lit (.int .i64 ((CN : Int) + 1)), []) := plainElem_int Try.underlying3 (wfM (CN + 1) (by omega))
          have HLM := Lib.hid (show L.length < maxLen by unfold maxLen; omega)
          have HNX := Lib.hid hnx
          clear hnx hT hLL hD hKD hq hCN hcl HIM HD HKD hm
          go_wp2_with (first
            | (at_lookup; refine wpList_lookup_own_int _ rfl _ _ 39 rfl 9 3 .i64 lawS Try.underlying39 Try.underlying3 (zeroM _) b L.length D rfl ho _ _ rfl hkey ?_; intro had hat hwc; rw [hat2] at hat; obtain rfl := lit_inj hat)
            | (at_mapUpdate; refine wpList_mapUpdate_in _ rfl _ _ _ 39 rfl 9 3 lawS Try.underlying39 _ b L.length D rfl ho HLM.out _ _ _ rfl rfl hkey _ [] hv ?_; intro w2 hown2 hturn2)
            | fail)
          have HM2 := Lib.hid (show IsMS w2 b (winsTo ls K n (q + 1)).length (winsTo ls K n (q + 1)) from by rw [HNX.out, List.length_append]; exact HPUT.out _ hown2)
          have HT2 := Lib.hid (ht.out.trans (MT.of hturn2))
          clear hown2 hturn2 ho hat hat2
          go_roundw
          case rel => exact ⟨q + 1, HQ.out, by go_num, HM2, HT2⟩
          case measure => simp [intOf]; omega
        · have hqi : ¬ (q : Int) + (K : Int) ≤ (S.length : Int) := by omega
          have hqd : decide ((q : Int) + (K : Int) ≤ (S.length : Int)) = false := decide_eq_false hqi
          have hrw := HROW.out q (by omega)
          have HM2 := Lib.hid (show IsMS wr b (winsTo ls K (n + 1) 0).length (winsTo ls K (n + 1) 0) by rw [← hrw]; exact hm.out)
          clear hm hq hrw
          go_wp2_with fail
          go_roundw
          case rel => exact ⟨n + 1, by omega, by go_num, HM2, ht⟩
          case measure => simp [intOf]; omega
    · obtain rfl : n = ls.length := by omega
      have hni : ¬ (ls.length : Int) < (ls.length : Int) := by omega
      have hfew := winsTo_few HF.out K ls.length 0 (Nat.le_refl _)
      have hm' := hm.out
      rw [winsTo_end] at hm' hfew
      obtain ⟨D, hown, hD, hK⟩ := hm'
      have hszD := hown.size_le
      have HAcc := Lib.hid (AccG.start (fun t => (hD t).1) hK)
      have HCN := Lib.hid (fun t => (hD t).2)
      have hszr : wr.heap.size = b + 1 := by rw [ht.out.size]; exact HSZ1.out
      have HW1 := Lib.hid (show Below b w wr from by
        have := HB1.out
        rw [HBB.out] at this
        exact this.trans (ht.out.below (Nat.le_refl _)))
      have HCI := Lib.hid (cnt_is ls K)
      have HQL := Lib.hid (fun (t : Tx) (h : t ∈ allW ls K) => allW_len h)
      obtain ⟨Q, hQ⟩ : ∃ Q, allW ls K = Q := ⟨_, rfl⟩
      rw [hQ] at hown hszD HAcc HCN hfew HCI HQL
      obtain ⟨wz, hwz⟩ : ∃ wz, wz = wr := ⟨_, rfl⟩
      rw [← hwz] at hown HW1 hszr ⊢
      clear hm ht hQ HI1 HB1 hni hD hK hwz
      have hni : ¬ (ls.length : Int) < (ls.length : Int) := by omega
      go_wp2_with (first
        | (at_range; refine wpList_range_own _ rfl _ 39 rfl 9 3 lawS Try.underlying39 _ b _ D rfl hown ?_; intro w0 hrg0 hg0 hs0)
        | go_in)
      obtain ⟨r0, hr0⟩ : ∃ r0, b + 1 = r0 := ⟨_, rfl⟩
      have HR0 := Lib.hid hr0
      rw [hszr] at hrg0 hs0
      rw [hr0] at hrg0 hs0 ⊢
      have HB0 := Lib.hid (show Below r0 wz w0 from below_of_grown hg0 (by omega) (fun k hk => by cases hk))
      have HWB := Lib.hid (show b < r0 by omega)
      clear hr0
      go_loopw [9] (fun v wr => ∃ (left : Lit → Bool) (cnt : Nat) (acc : List Gr), wr.ranges Try.prog 9 (plainElem Try.prog 3) b r0 Q.length D left cnt ∧ acc.length + cnt ≤ Q.length ∧ Hid (OwnG (r0 + 1) wr v acc) ∧ Hid (AccG Q left acc) ∧ Hid (Below r0 wz wr) ∧ r0 + 1 ≤ wr.heap.size) (fun _ wr => wr.rangeLeft b r0)
      case atStart => exact ⟨_, _, [], hrg0, by simp; omega, Lib.hid OwnS.nil, HAcc, HB0, by omega⟩
      case round =>
        clear hrg0 hg0 hs0 HB0 HAcc hown
        obtain ⟨left, cnt, acc, hrg, hcnt, HO, HA, HB, hrs⟩ := hrel
        obtain ⟨va, vc, rfl⟩ := HO.out.slice
        go_wp2_with (first
          | (at_next; refine next_si _ rfl _ rfl b r0 Q.length _ _ _ rfl hrg ?_ ?_)
          | go_in)
        · intro hc0 hl0
          have HZ := Lib.hid hl0
          have HB1 := Lib.hid (show r0 + 1 ≤ wr.heap.size from hrs)
          have hal : acc.length ≤ 800 := by omega
          clear hl0 hrg hrs hc0 hcnt
          go_wp2_with fail
          refine (cSortG (r0 + 1) _ acc wr HO.out HB1.out (by omega)).mono ?_; rintro e w2 ⟨rfl, l, ho2, hp2, hs2, hb2⟩
          have hll := hp2.length_eq
          have hlc : l = cntL ls K := count_unique (acc_count HA.out HZ.out hp2 hs2) HCI.out
          subst hlc
          have HO2 := Lib.hid (show OwnG w.heap.size w2 (.slice va acc.length vc) (cntL ls K) by rw [HBB.out]; exact OwnS.base ho2 (show b ≤ r0 + 1 by have := HWB.out; omega))
          have HB2 := Lib.hid (show Below w.heap.size w w2 by rw [HBB.out]; exact HW1.out.trans ((HB.out.mono (by have := HWB.out; omega)).trans (hb2.mono (by have := HWB.out; omega))))
          clear ho2 hp2 hs2 hb2 HO HA HB HB1 HZ
          go_wp2_with fail
          go_ret
          exact ⟨_, rfl, HO2.out, HB2.out⟩
        · intro t d wx cnt1 hlx hat hrg1 hltc hg1 hs1 hen
          have htq : t ∈ Q := by obtain ⟨s, hs, hq⟩ := HA.out.keys _ hlx; injection hs with hs; subst hs; exact hq
          have htl := HQL.out t htq
          have hat2 := hat (.lit (.int .i64 0))
          rw [HCN.out t] at hat2
          have hcl := List.count_le_length (a := t) (l := Q)
          have HA2 := Lib.hid (HA.out.step t hlx)
          obtain ⟨CN, hCN⟩ : ∃ CN, Q.count t = CN := ⟨_, rfl⟩
          rw [hCN] at hat2 hcl HA2
          obtain rfl := lit_inj hat2
          have CC := Lib.hid (fun W => cClone t (by omega) W)
          have hne : ∀ q, (Value.slice va acc.length vc).ownBlock = some q → q ≠ r0 := fun q hq => by have := HO.out.lt q hq; omega
          have HO1 := Lib.hid (show OwnG (r0 + 1) wx (.slice va acc.length vc) acc from HO.out.grown hg1 (by
            cases hv : (Value.slice va acc.length vc).ownBlock with
            | none => exact .inl rfl
            | some q => exact .inr (fun e => hne q hv (by injection e))))
          have HB1 := Lib.hid (show Below r0 wz wx from HB.out.grown hg1 (by omega) (fun q hq => by injection hq with hq; omega))
          have HLn := Lib.hid (show acc.length ≤ 1000000 by omega)
          have hal : acc.length ≤ 800 := by omega
          have HRG := Lib.hid hrg1
          have hz1 : r0 + 1 ≤ wx.heap.size := by omega
          clear hat hat2 hne hs1 htq htl hcl hCN
          go_wp2_with fail
          refine (CC.out _).mono ?_; rintro e w3 ⟨rfl, hb3⟩
          have HRG3 := Lib.hid (HRG.out.kept (below_grown hb3 none) (by simp) (by simp))
          have HO3 := Lib.hid (HO1.out.kept hb3)
          have HB3 := Lib.hid (HB1.out.trans (hb3.mono (by omega)))
          have hz3 : r0 + 1 ≤ w3.heap.size := by have := hb3.size; omega
          clear hb3 HB1 HO1 HRG CC hz1
          go_wp2_with (first | (at_builtin; go_loud (refine app_gram rfl (.tmp 50) (.tmp 55) rfl (r0 + 1) _ (.slice va acc.length vc) acc (t, CN) rfl HO3.out w3.heap.size 1 rfl rfl HLn.out hz3 ?_); intro v5 w5 ho5 hb5 hg5) | go_in)
          have HO5 := Lib.hid ho5
          have HB5 := Lib.hid (HB3.out.trans (hb5.mono (by omega)))
          have hrg5 := HRG3.out.kept hg5 (by
            cases hv : (Value.slice va acc.length vc).ownBlock with
            | none => simp
            | some q => intro e; injection e with e; have := HO3.out.lt q hv; have := HWB.out; omega) (by
            cases hv : (Value.slice va acc.length vc).ownBlock with
            | none => simp
            | some q => intro e; injection e with e; have := HO3.out.lt q hv; omega)
          have hz5 : r0 + 1 ≤ w5.heap.size := by have := hg5.size; omega
          clear ho5 hb5 hg5
          go_roundw
          case rel => exact ⟨_, cnt1, _, hrg5, by rw [List.length_append]; simp; omega, HO5, HA2, HB5, hz5⟩
          case measure => rw [hrg5.left_eq, hrg.left_eq]; omega
end Go.Proofs.Ytdonecbcnkipbaa
