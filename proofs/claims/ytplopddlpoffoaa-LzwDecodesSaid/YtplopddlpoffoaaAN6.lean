/- Layer 60: the document's Encode. -/
import Derived.Test.YtplopddlpoffoaaAN5
import Derived.Test.YtplopddlpoffoaaD2
namespace Go.Proofs.Ytplopddlpoffoaa
open Go.ChangeShapes Go.WideShapes Go.ChangeAt Go.RowKit
set_option linter.unusedVariables false
set_option linter.unusedSimpArgs false
set_option maxRecDepth 100000
open Bits
def strLen : Value → Nat
  | .string b => b.size
  | _ => 0
set_option maxHeartbeats 3200000 in
theorem dEncodeOut (s : ByteArray) (m : Int) (h : m < 9 ∨ 16 < m) (w : World) : Calls Try.prog 20 #[.string s, .int .i64 m] w fun e w' => e = .returned (.tuple #[.string ⟨#[]⟩, .int .i64 1]) ∧ w' = w := by
  rcases h with h | h
  · go_enter Try.func20, Try.ntmps20
    go_wp2_with fail
    go_ret2
    exact ⟨rfl, rfl⟩
  · have h2 : ¬ m < 9 := by omega
    go_enter Try.func20, Try.ntmps20
    go_wp2_with fail
    go_ret2
    exact ⟨rfl, rfl⟩
set_option maxHeartbeats 6400000 in
theorem dEncode (S : Row8) (m : Nat) (h9 : 9 ≤ m) (h16 : m ≤ 16) (hS : S.length ≤ 300) (w : World) : Calls Try.prog 20 #[.string (sB S), .int .i64 m] w fun e w' => e = .returned (.tuple #[.string (sB (enc60 S m)), .int .i64 0]) ∧ Below w.heap.size w w' := by
  obtain ⟨q, hq⟩ : ∃ q, 2 ^ m = q := ⟨_, rfl⟩
  have hq2 : 256 ≤ q ∧ q ≤ 65536 := by
    have h1 : 2 ^ 9 ≤ 2 ^ m := Nat.pow_le_pow_right (by decide) h9
    have h2 : 2 ^ m ≤ 2 ^ 16 := Nat.pow_le_pow_right (by decide) h16
    rw [hq] at h1 h2
    omega
  have hu : IntKind.u64.wrap (m : Int) = (m : Int) := IntWalk.u64_in _ (by omega)
  have hsh : (Value.int .i64 (wrap64 (2 ^ m))) = Value.int .i64 (q : Int) := by
    rw [show ((2 : Int) ^ m) = ((2 ^ m : Nat) : Int) by simp, hq]
    congr 1
    unfold wrap64
    omega
  have HQ := Lib.hid hq
  have HST : Hid (WritZ m S freshR [] S) := ⟨S.length, Nat.le_refl _, by simp⟩
  clear hq
  go_enter Try.func20, Try.ntmps20
  go_wp2_with fail
  refine (dFresh w).mono ?_; rintro e w1 ⟨u, rfl, hu1, hb1⟩
  have HD0 := Lib.hid (show Duo w w1 u (.slice none 0 0) freshR [] from ⟨hu1, OwnS.nil, fun k _ e => by simp [Value.ownBlock] at e, hb1⟩)
  clear hu1 hb1
  have HC9 := Lib.hid h9
  have HC16 := Lib.hid h16
  go_wp2_with fail
  go_loopw [0, 6, 7] (fun sv u v wr => ∃ (r : Row8) (l : List Row8) (bs : List Bool), r.length ≤ 300 ∧ sv = .string (sB r) ∧ Hid (Duo w wr u v l bs) ∧ Hid (Dic l) ∧ Hid (∀ x ∈ l, x.length ≤ 300) ∧ l.length ≤ q ∧ bs.length + r.length * 16 ≤ 4800 ∧ Hid (WritZ m S l bs r)) (fun sv _ _ _ => strLen sv)
  case atStart => exact ⟨S, freshR, [], hS, rfl, HD0, Lib.hid dic_fresh, Lib.hid (fun x hx => by simp only [freshR, List.mem_map] at hx; obtain ⟨i, -, rfl⟩ := hx; simp), by rw [fresh_len]; omega, by simp; omega, HST⟩
  case round =>
    clear HST HD0
    obtain ⟨r, l, bs, hr3, rfl, hduo, hdic, hrow, hlq, hbs, hwr⟩ := hrel
    have hrs := sB_size r
    by_cases hr0 : r = []
    · subst hr0
      have hne : (sB []).toList.isEmpty = true := by rw [ByteArray.toList_eq, sB_list]; rfl
      obtain ⟨a, c, rfl, -, hboo⟩ := (hduo.out.two).boo
      have hbe := hwr.out.done
      have hbl : bs.length ≤ 100000 := by omega
      have HPK := Lib.hid (show (⟨(pack bs).toArray⟩ : ByteArray) = sB (enc60 S m) by rw [hbe]; rfl)
      have CB := Lib.hid (dBytes a c bs wr hboo hbl)
      have HB := Lib.hid hduo.out.below
      clear hbe hboo hduo hwr
      go_wp2_with fail
      refine CB.out.mono ?_; rintro e w2 ⟨rfl, hb2⟩
      rw [HPK.out]
      have HB2 := Lib.hid (HB.out.trans (hb2.mono HB.out.size))
      clear hb2
      go_wp2_with fail
      go_ret2
      exact ⟨rfl, HB2.out⟩
    · have hne : (sB r).toList.isEmpty = false := by
        rw [ByteArray.toList_eq, sB_list]
        cases r with
        | nil => exact absurd rfl hr0
        | cons b r => rfl
      obtain ⟨g, c, hu6, hlc, hwg, hgw⟩ := own_t (n := 0) hduo.out.one (by intro e; have := hdic.out.len; rw [e] at this; simp at this)
      subst hu6
      obtain ⟨x, hx1, hx2, hx3⟩ := hdic.out.lng_spec hr0
      have hx0 : 0 < x.length := List.length_pos_iff.2 (hdic.out.ne x (List.mem_of_getElem? hx1))
      have hxl := hx2.length_le
      have hN := hdic.out.next m hx1 hx2 hx3 (by rw [HQ.out]; exact hlq)
      have hxr := hrow.out x (List.mem_of_getElem? hx1)
      have hw := widN_facts hdic.out.len (Nat.le_trans hlq hq2.2)
      have hlt : lng l r < l.length := (List.getElem?_eq_some_iff.1 hx1).1
      have hl256 := hdic.out.len
      have HLG := Lib.hid (dLongest g c l r w.heap.size wr hduo.out.one (by omega) (fun y hy => Nat.le_trans (hrow.out y hy) (by decide)) (by omega))
      have HWN := Lib.hid (hwr.out.next hr0 x hx1 hx0)
      have HDN := Lib.hid hN.1
      obtain ⟨A, hA⟩ : ∃ A, lng l r = A := ⟨_, rfl⟩
      obtain ⟨K, hK⟩ : ∃ K, widN l.length = K := ⟨_, rfl⟩
      have HWD := Lib.hid (fun W => dBits60 l.length hl256 (by omega) W)
      rw [hK] at HWD HWN hw
      rw [hA] at HLG HWN hx1 hlt
      have hwk := hw.2.2.1
      have hw1 := hw.1
      have hw2 := hw.2.1
      have hAk : A < 2 ^ K := Nat.lt_of_lt_of_le hlt hwk
      have HAK := Lib.hid hAk
      have HX1 := Lib.hid hx1
      have HX2 := Lib.hid hx2
      have hnx : nextZ l r x.length m = if x.length < r.length ∧ l.length < q then l ++ [r.take (x.length + 1)] else l := by unfold nextZ; rw [HQ.out]
      have HNX := Lib.hid hnx
      have HNL := Lib.hid hN.2.1
      have hAu : IntKind.u64.wrap (A : Int) = (A : Int) := IntWalk.u64_in _ (by omega)
      have hxs := sB_size x
      clear hx1 hx2 hx3 hN hw hA hK hwk hAk hnx hwr hdic
      go_wp2_with fail
      refine HLG.out.mono ?_; rintro e w2 ⟨rfl, nq, hw2'⟩
      have HD2 := Lib.hid (show Duo w w2 _ _ l bs by rw [hw2']; exact hduo.out.drewN nq)
      clear hw2' hduo
      go_wp2_with fail
      refine (HWD.out _).mono ?_; rintro e w3 ⟨rfl, rfl⟩
      go_wp2_with fail
      refine (dPut w.heap.size u7 A K bs w3 HD2.out.two HD2.out.below.size (by omega) (by omega) HAK.out).mono ?_; rintro e w4 ⟨v4, rfl, ho4, hr4⟩
      have hd4 := HD2.out.put ho4 hr4
      have c4 : w4.cell? ⟨g, A, none⟩ = some (.string (sB x)) := by
        have := OwnS.cell flatS8 hd4.one A 0 x HX1.out (by decide)
        simpa [fS8] using this
      have HD4 := Lib.hid hd4
      clear hd4 ho4 hr4 HD2
      have hAi : (A : Int) < (l.length : Int) := by omega
      have hdr : (sB r).extract x.length (sB r).size = sB (r.drop x.length) := sB_drop r x.length
      rw [hrs] at hdr
      have HLR := Lib.hid (show (r.drop x.length).length ≤ 300 ∧ (bs ++ bitsOf A K).length + (r.drop x.length).length * 16 ≤ 4800 by
        rw [List.length_drop, List.length_append, bitsOf_length]
        omega)
      have HSL := Lib.hid (sB_size (r.drop x.length))
      have hdl : (r.drop x.length).length = r.length - x.length := List.length_drop
      by_cases h1 : x.length < r.length
      · have h1i : (x.length : Int) < (r.length : Int) := by omega
        by_cases h2 : l.length < q
        · have h2i : (l.length : Int) < (q : Int) := by omega
          rw [HNX.out, if_pos ⟨h1, h2⟩] at HWN HDN HNL
          have hcut : (sB r).extract 0 (x.length + 1) = sB (r.take (x.length + 1)) := by rw [sB_cut, List.drop_zero]
          have HRW := Lib.hid (show ∀ y ∈ l ++ [r.take (x.length + 1)], y.length ≤ 300 from fun y hy => by
            rcases List.mem_append.1 hy with hy | hy
            · exact hrow.out y hy
            · rw [List.mem_singleton] at hy; subst hy; rw [List.length_take]; omega)
          have HB4 := Lib.hid (show w.heap.size ≤ w4.heap.size from HD4.out.below.size)
          have HLL := Lib.hid (show l.length ≤ 1099511627776 by omega)
          go_wp2_with (first
            | (at_builtin; refine app_str1 rfl (.tmp 52) (.tmp 57) rfl _ _ _ _ (r.take (x.length + 1)) _ rfl rfl HD4.out.one w4.heap.size 1 rfl rfl HLL.out HB4.out ?_; intro v5 w5 ho5 hr5)
            | fail)
          refine ⟨⟨r.drop x.length, _, _, HLR.out.1, rfl, Lib.hid (HD4.out.app ho5 hr5), HDN, HRW, ?_, HLR.out.2, HWN⟩, ?_⟩
          · rw [List.length_append]; simp only [List.length_singleton]; omega
          · show (sB (r.drop x.length)).size < (sB r).size
            have := HSL.out
            omega
        · have h2i : ¬ (l.length : Int) < (q : Int) := by omega
          rw [HNX.out, if_neg (fun e => h2 e.2)] at HWN HDN HNL
          go_wp2_with fail
          refine ⟨⟨r.drop x.length, _, _, HLR.out.1, rfl, HD4, HDN, hrow, hlq, HLR.out.2, HWN⟩, ?_⟩
          show (sB (r.drop x.length)).size < (sB r).size
          have := HSL.out
          omega
      · have h1i : ¬ (x.length : Int) < (r.length : Int) := by omega
        rw [HNX.out, if_neg (fun e => h1 e.1)] at HWN HDN HNL
        go_wp2_with fail
        refine ⟨⟨r.drop x.length, _, _, HLR.out.1, rfl, HD4, HDN, hrow, hlq, HLR.out.2, HWN⟩, ?_⟩
        show (sB (r.drop x.length)).size < (sB r).size
        have := HSL.out
        omega
end Go.Proofs.Ytplopddlpoffoaa
