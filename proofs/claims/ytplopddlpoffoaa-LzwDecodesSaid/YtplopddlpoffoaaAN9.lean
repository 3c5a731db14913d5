/- Layer 60: Encode. -/
import Derived.Test.YtplopddlpoffoaaAN8
import Derived.Test.YtplopddlpoffoaaBz
namespace Go.Proofs.Ytplopddlpoffoaa
open Go.ChangeShapes Go.WideShapes Go.ChangeAt Go.RowKit Go.Maps Go.Lib Go.WideMaps
set_option linter.unusedVariables false
set_option linter.unusedSimpArgs false
set_option maxRecDepth 100000
open Bits
set_option maxHeartbeats 3200000 in
theorem cMayBits (m : Int) (B : Bool) (h : decide (9 ≤ m ∧ m ≤ 16) = B) (w : World) : Calls Try.prog 43 #[.int .i64 m] w fun e w' => e = .returned (.bool B) ∧ w' = w := by
  subst h
  by_cases h1 : 9 ≤ m
  · by_cases h2 : m ≤ 16
    · go_enter Try.func43, Try.ntmps43
      go_wp2_with fail
      go_ret
      exact ⟨by simp [h1, h2], rfl⟩
    · go_enter Try.func43, Try.ntmps43
      go_wp2_with fail
      go_ret
      exact ⟨by simp [h1, h2], rfl⟩
  · go_enter Try.func43, Try.ntmps43
    go_wp2_with fail
    go_ret
    exact ⟨by simp [h1] <;> omega, rfl⟩
set_option maxHeartbeats 3200000 in
theorem cEncodeOut (s : ByteArray) (m : Int) (h : m < 9 ∨ 16 < m) (w : World) : Calls Try.prog 19 #[.string s, .int .i64 m] w fun e w' => e = .returned (.tuple #[.string ⟨#[]⟩, .int .i64 1]) ∧ w' = w := by
  have HM := Lib.hid (cMayBits m false (decide_eq_false (by omega)))
  clear h
  go_enter Try.func19, Try.ntmps19
  go_wp2_with fail
  refine (HM.out _).mono ?_; rintro e w1 ⟨rfl, rfl⟩
  go_wp2_with fail
  go_ret2
  exact ⟨rfl, rfl⟩
set_option maxHeartbeats 6400000 in
theorem cEncode (S : Row8) (m : Nat) (h9 : 9 ≤ m) (h16 : m ≤ 16) (hS : S.length ≤ 6000) (w : World) : Calls Try.prog 19 #[.string (sB S), .int .i64 m] w fun e w' => e = .returned (.tuple #[.string (sB (enc60 S m)), .int .i64 0]) ∧ Below w.heap.size w w' := by
  obtain ⟨q, hq⟩ : ∃ q, 2 ^ m = q := ⟨_, rfl⟩
  have hq2 : 256 ≤ q ∧ q ≤ 65536 := by
    have h1 : 2 ^ 9 ≤ 2 ^ m := Nat.pow_le_pow_right (by decide) h9
    have h2 : 2 ^ m ≤ 2 ^ 16 := Nat.pow_le_pow_right (by decide) h16
    rw [hq] at h1 h2
    omega
  have hsh : (Value.int .i64 (wrap64 (2 ^ m))) = Value.int .i64 (q : Int) := by
    rw [show ((2 : Int) ^ m) = ((2 ^ m : Nat) : Int) by simp, hq]
    congr 1
    unfold wrap64
    omega
  have HQ := Lib.hid hq
  have HST : Hid (WritZ m S freshR [] S) := ⟨S.length, Nat.le_refl _, by simp⟩
  have HMB := Lib.hid (cMayBits (m : Int) true (decide_eq_true (by omega)))
  have hmk := fun W : World => run_makeMap (P := Try.prog) 82 W
  obtain ⟨n, hn⟩ : ∃ n, S.length = n := ⟨_, rfl⟩
  have hsz : (sB S).size = n := by rw [sB_size, hn]
  rw [hn] at hS
  have HN := Lib.hid hn
  clear hq hn
  go_enter Try.func19, Try.ntmps19
  go_wp2_with fail
  refine (HMB.out _).mono ?_; rintro e w1 ⟨rfl, rfl⟩
  go_wp2_with fail
  refine (wNew _).mono ?_; rintro e w2 ⟨rfl, hw2, hb2, hz2, hf2⟩
  have HP0 := Lib.hid (Pen.start hw2 hb2 hf2)
  obtain ⟨g, hg⟩ : ∃ g, w1.heap.size = g := ⟨_, rfl⟩
  clear hw2 hb2 hf2
  obtain ⟨b, hb⟩ : ∃ b, w2.heap.size = b := ⟨_, rfl⟩
  rw [hg, hb] at HP0
  clear hz2
  go_wp2_with fail
  try rw [hg]
  try rw [hb]
  obtain ⟨W3, hW3⟩ : ∃ W3, w2.alloc (.map #[] 0) = W3 := ⟨_, rfl⟩
  rw [hW3] at HP0 ⊢
  clear hW3 hg hb hmk HMB
  go_loopw [8, 9] (fun rv iv wr => ∃ (i c : Nat) (l : List Row8) (bs : List Bool) (M : Nat → Nat → Option Nat), i ≤ n ∧ c ≤ i ∧ iv = .int .i64 i ∧ rv = .int .i64 (l.length : Nat) ∧ Hid (Pen w1 wr g b c bs M) ∧ Hid (Dic l) ∧ Hid (Tr l M) ∧ l.length ≤ q ∧ bs.length ≤ 16 * i ∧ Hid (WritZ m S l bs (S.drop i))) (fun _ iv _ => n - (RowKit.intOf iv).toNat)
  case atStart => exact ⟨0, 0, freshR, [], _, Nat.zero_le _, Nat.le_refl _, rfl, by rw [fresh_len]; rfl, HP0, Lib.hid dic_fresh, Lib.hid tr_fresh, by rw [fresh_len]; omega, by simp, HST⟩
  case round =>
    clear HST HP0
    obtain ⟨i, c, l, bs, M, hi, hc, rfl, rfl, hpen, hdic, htr, hlq, hbs, hwr⟩ := hrel
    by_cases hin : i < n
    · have hii : (i : Int) < (n : Int) := by omega
      obtain ⟨b0, hb0⟩ : ∃ b0, S.getD i 0 = b0 := ⟨_, rfl⟩
      have hgi : ∀ h, (sB S)[i]'h = b0 := fun h => by rw [sB_get S i (by rw [HN.out]; exact hin) h, hb0]
      have hdr : S.drop i = b0 :: S.drop (i + 1) := by
        rw [List.drop_eq_getElem_cons (by rw [HN.out]; exact hin), ← hb0, List.getD_eq_getElem?_getD, List.getElem?_eq_getElem (by rw [HN.out]; exact hin)]; rfl
      have hl0 := hdic.out.some_one b0
      obtain ⟨r, hr⟩ : ∃ r, S.drop i = r := ⟨_, rfl⟩
      have hrn : r.length = n - i := by rw [← hr, List.length_drop, HN.out]
      have HRD := Lib.hid (show ∀ j, i ≤ j → j < n → r[j - i]? = some (S.getD j 0) from fun j h1 h2 => by
        rw [← hr, List.getElem?_drop, show i + (j - i) = j by omega, List.getD_eq_getElem?_getD, List.getElem?_eq_getElem (by rw [HN.out]; exact h2)]; rfl)
      have H0 := Lib.hid (show l[b0.toNat]? = some (r.take (i + 1 - i)) by
        rw [hl0, ← hr, hdr, show i + 1 - i = 1 by omega]; rfl)
      rw [hr] at hwr
      have HRR := Lib.hid hr
      have hb256 := b0.toNat_lt
      have hll := hdic.out.len
      clear hdr hl0 hr hb0
      go_wp2_with fail
      clear hgi hii
      obtain ⟨D, hown, hD⟩ := hpen.out.map
      have HOW := Lib.hid hown
      have HDD := Lib.hid hD
      clear hown hD
      go_loopw [9, 10] (fun jv rowv wr2 => ∃ (j row : Nat), i < j ∧ j ≤ n ∧ jv = .int .i64 j ∧ row < l.length ∧ rowv = .int .i64 row ∧ Hid (l[row]? = some (r.take (j - i))) ∧ wr2 = wr) (fun jv _ _ => n - (RowKit.intOf jv).toNat)
      case atStart => exact ⟨i + 1, b0.toNat, by omega, by omega, by go_num, by omega, rfl, H0, rfl⟩
      case round =>
        obtain ⟨j, row, hj1, hj2, rfl, hrow, rfl, hlr, rfl⟩ := hrel
        by_cases hjn : j < n
        · have hji : (j : Int) < (n : Int) := by omega
          obtain ⟨y, hy⟩ : ∃ y, S.getD j 0 = y := ⟨_, rfl⟩
          have hgj : ∀ h, (sB S)[j]'h = y := fun h => by rw [sB_get S j (by rw [HN.out]; exact hjn) h, hy]
          have hy256 := y.toNat_lt
          obtain ⟨Y, hY⟩ : ∃ Y, y.toNat = Y := ⟨_, rfl⟩
          have hkey := keyOf_long row Y (by omega) (by omega)
          have hdk := HDD.out row Y (by omega) (by omega)
          have htr1 := htr.out.1 row _ hlr.out y
          rw [hY] at htr1
          have htk : r.take (j + 1 - i) = r.take (j - i) ++ [y] := by
            rw [show j + 1 - i = j - i + 1 by omega, List.take_add_one, HRD.out j (by omega) hjn, hy]; rfl
          cases hm : M row Y with
          | some v =>
            have hv := (htr1 v).1 hm
            rw [← htk] at hv
            have hvl : v < l.length := (List.getElem?_eq_some_iff.1 hv).1
            have HV := Lib.hid hv
            have hh2 : Maps.has D (keyL row Y) = true := by rw [hdk.1, hm]; rfl
            have hat2 := hdk.2 v hm
            clear hdk htr1 htk hv hm hy
            go_wp2_with (first
              | (at_lookup; refine wpList_lookup_own_ok_int _ rfl _ _ 82 rfl 85 3 .i64 lawLong Try.underlying82 Try.underlying3 (zeroI _) b c D rfl HOW.out _ _ rfl hkey ?_; intro had hat hwc; rw [hh2]; rw [hat2] at hat; obtain rfl : (v : Int) = had := (by injection hat with h; injection h))
              | fail)
            exact ⟨⟨j + 1, v, by omega, by omega, by go_num, hvl, rfl, HV, trivial⟩, by simp [RowKit.intOf]; omega⟩
          | none =>
            have hno := htr.out.none_iff hlr.out y (by rw [hY]; exact hm)
            have hh2 : Maps.has D (keyL row Y) = false := by rw [hdk.1, hm]; rfl
            have HNO := Lib.hid hno
            have HTK := Lib.hid htk
            have hx1 : (r.take (j - i)).length = j - i := by rw [List.length_take]; omega
            have hlng : lng l r = row := hdic.out.lng_eq (k := j - i) (by omega) (by omega) hlr.out (fun _ => by rw [show j - i + 1 = j + 1 - i by omega, htk]; exact hno)
            have hwn := hwr.out.next (by intro e; rw [e] at hrn; simp at hrn; omega) _ (by rw [hlng]; exact hlr.out) (by rw [hx1]; omega)
            rw [hlng, hx1] at hwn
            have hdj : r.drop (j - i) = S.drop j := by rw [← HRR.out, List.drop_drop]; congr 1; omega
            rw [hdj] at hwn
            obtain ⟨K, hK⟩ : ∃ K, widN l.length = K := ⟨_, rfl⟩
            have hwf := widN_facts hll (by omega)
            rw [hK] at hwn hwf
            have hK16 := hwf.2.1
            have hK9 := hwf.1
            have HRK := Lib.hid (show row < 2 ^ K from Nat.lt_of_lt_of_le hrow hwf.2.2.1)
            have HWN := Lib.hid hwn
            have HCW := Lib.hid (fun W => cWidth l.length hll (by omega) W)
            rw [hK] at HCW
            have hru : IntKind.u64.wrap (row : Int) = (row : Int) := IntWalk.u64_in _ (by omega)
            clear hwn hwf hK hdj hlng hx1
            clear hdk htr1 htk hno hm
            by_cases hlq2 : l.length < q
            · have hlqi : (l.length : Int) < (q : Int) := by omega
              have hnx : nextZ l r (j - i) m = l ++ [r.take (j - i) ++ [y]] := by
                unfold nextZ
                rw [HQ.out, if_pos ⟨by omega, hlq2⟩, show j - i + 1 = j + 1 - i by omega, HTK.out]
              rw [hnx] at HWN
              have HDN := Lib.hid (hdic.out.add hlr.out HNO.out)
              have HTN := Lib.hid (htr.out.add hdic.out hlr.out HNO.out)
              rw [hY] at HTN
              have hv : plainElem (H := Unit) Try.prog 3 (.int .i64 (l.length : Int)) = some (.lit (.int .i64 (l.length : Int)), []) := plainElem_int Try.underlying3 (wfI l.length (by omega))
              clear hnx hy
              go_wp2_with (first
                | (at_lookup; refine wpList_lookup_own_ok_int _ rfl _ _ 82 rfl 85 3 .i64 lawLong Try.underlying82 Try.underlying3 (zeroI _) b c D rfl HOW.out _ _ rfl hkey ?_; intro had hat hwc; rw [hh2]; clear hat hwc)
                | fail)
              refine (HCW.out _).mono ?_; rintro e w4 ⟨rfl, rfl⟩
              go_wp2_with fail
              refine (wPut w4 g w1.heap.size bs row K hpen.out.wri (by omega) HRK.out (by omega)).mono ?_; rintro e w5 ⟨rfl, hw5, hk5, hf5⟩
              have HP5 := Lib.hid (hpen.out.put hw5 hk5 hf5)
              clear hw5 hk5 hf5
              obtain ⟨D5, hown5, hD5⟩ := HP5.out.map
              have HO5 := Lib.hid hown5
              have HF5 := Lib.hid (fun w' h' => IsN.put (w' := w') (v := l.length) (i := row) (y := Y) (by omega) (by omega) hown5 hD5 h')
              clear hown5 hD5
              go_wp2_with (first
                | (at_mapUpdate; refine wpList_mapUpdate_in _ rfl _ _ _ 82 rfl 85 3 lawLong Try.underlying82 _ b c D5 rfl HO5.out (by unfold maxLen; omega) _ _ _ rfl rfl hkey _ [] hv ?_; intro w6 hown6 hturn6)
                | fail)
              exact ⟨⟨j, c + 1, _, _, _, hj2, by omega, rfl, by rw [List.length_append]; rfl, Lib.hid (HP5.out.turn (HF5.out _ hown6) hturn6), HDN, HTN, by rw [List.length_append]; simp only [List.length_singleton]; omega, by rw [List.length_append, bitsOf_length]; omega, HWN⟩, by simp [RowKit.intOf]; omega⟩
            · have hlqi : ¬ (l.length : Int) < (q : Int) := by omega
              have hnx : nextZ l r (j - i) m = l := by
                unfold nextZ
                rw [HQ.out, if_neg (fun e => hlq2 e.2)]
              rw [hnx] at HWN
              clear hnx hy
              go_wp2_with (first
                | (at_lookup; refine wpList_lookup_own_ok_int _ rfl _ _ 82 rfl 85 3 .i64 lawLong Try.underlying82 Try.underlying3 (zeroI _) b c D rfl HOW.out _ _ rfl hkey ?_; intro had hat hwc; rw [hh2]; clear hat hwc)
                | fail)
              refine (HCW.out _).mono ?_; rintro e w4 ⟨rfl, rfl⟩
              go_wp2_with fail
              refine (wPut w4 g w1.heap.size bs row K hpen.out.wri (by omega) HRK.out (by omega)).mono ?_; rintro e w5 ⟨rfl, hw5, hk5, hf5⟩
              have HP5 := Lib.hid (hpen.out.put hw5 hk5 hf5)
              clear hw5 hk5 hf5
              go_wp2_with fail
              exact ⟨⟨j, c, l, _, M, hj2, by omega, rfl, rfl, HP5, hdic, htr, hlq, by rw [List.length_append, bitsOf_length]; omega, HWN⟩, by simp [RowKit.intOf]; omega⟩
        · obtain rfl : n = j := by omega
          have hji : ¬ (n : Int) < (n : Int) := by omega
          have hx1 : (r.take (n - i)).length = n - i := by rw [List.length_take]; omega
          have hlng : lng l r = row := hdic.out.lng_eq (k := n - i) (by omega) (by omega) hlr.out (fun h => by omega)
          have hwn := hwr.out.next (by intro e; rw [e] at hrn; simp at hrn; omega) _ (by rw [hlng]; exact hlr.out) (by rw [hx1]; omega)
          rw [hlng, hx1] at hwn
          have hdj : r.drop (n - i) = S.drop n := by rw [← HRR.out, List.drop_drop]; congr 1; omega
          rw [hdj] at hwn
          obtain ⟨K, hK⟩ : ∃ K, widN l.length = K := ⟨_, rfl⟩
          have hwf := widN_facts hll (by omega)
          rw [hK] at hwn hwf
          have hK16 := hwf.2.1
          have hK9 := hwf.1
          have HRK := Lib.hid (show row < 2 ^ K from Nat.lt_of_lt_of_le hrow hwf.2.2.1)
          have HWN := Lib.hid hwn
          have HCW := Lib.hid (fun W => cWidth l.length hll (by omega) W)
          rw [hK] at HCW
          have hru : IntKind.u64.wrap (row : Int) = (row : Int) := IntWalk.u64_in _ (by omega)
          clear hwn hwf hK hdj hlng hx1
          have hnx : nextZ l r (n - i) m = l := by
            unfold nextZ
            rw [if_neg (fun e => by omega)]
          rw [hnx] at HWN
          clear hnx
          go_wp2_with fail
          refine (HCW.out _).mono ?_; rintro e w4 ⟨rfl, rfl⟩
          go_wp2_with fail
          refine (wPut w4 g w1.heap.size bs row K hpen.out.wri (by omega) HRK.out (by omega)).mono ?_; rintro e w5 ⟨rfl, hw5, hk5, hf5⟩
          have HP5 := Lib.hid (hpen.out.put hw5 hk5 hf5)
          clear hw5 hk5 hf5
          go_wp2_with fail
          exact ⟨⟨n, c, l, _, M, hj2, by omega, rfl, rfl, HP5, hdic, htr, hlq, by rw [List.length_append, bitsOf_length]; omega, HWN⟩, by simp [RowKit.intOf]; omega⟩
    · obtain rfl : n = i := by omega
      have hii : ¬ (n : Int) < (n : Int) := by omega
      have hw := hwr.out
      rw [List.drop_of_length_le (by rw [HN.out]; exact Nat.le_refl _)] at hw
      have hbe := hw.done
      have HPK := Lib.hid (show (⟨(pack bs).toArray⟩ : ByteArray) = sB (enc60 S m) by rw [hbe]; rfl)
      have CB := Lib.hid (wBytes wr g w1.heap.size bs hpen.out.wri)
      have HB := Lib.hid hpen.out.below
      clear hbe hw hwr hpen htr hdic
      go_wp2_with fail
      refine CB.out.mono ?_; rintro e w6 ⟨rfl, hb6⟩
      rw [HPK.out]
      have HB6 := Lib.hid (HB.out.trans (hb6.mono HB.out.size))
      clear hb6
      go_wp2_with fail
      go_ret2
      exact ⟨rfl, HB6.out⟩
end Go.Proofs.Ytplopddlpoffoaa
