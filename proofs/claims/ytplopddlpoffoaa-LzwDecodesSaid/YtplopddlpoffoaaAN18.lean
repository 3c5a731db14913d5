/- Layer 60: the document's Decode, whole. -/
import Derived.Test.YtplopddlpoffoaaAN17
namespace Go.Proofs.Ytplopddlpoffoaa
open Go.ChangeShapes Go.WideShapes Go.ChangeAt Go.RowKit
set_option linter.unusedVariables false
set_option linter.unusedSimpArgs false
set_option maxRecDepth 100000
open Bits
set_option maxHeartbeats 6400000 in
theorem dDecode60 (s : ByteArray) (many m : Nat) (h9 : 9 ≤ m) (h16 : m ≤ 16) (hm : many ≤ 16777216) (hs : s.size ≤ 300) (RES : Row8 × Int) (hRES : decZ (spread s.data.toList) many m many freshR [] [] 0 = RES) (w : World) :
    Calls Try.prog 22 #[.string s, .int .i64 many, .int .i64 m] w fun e w' => e = .returned (.tuple #[.string (sB RES.1), .int .i64 RES.2]) ∧ Below w.heap.size w w' := by
  obtain ⟨q, hq⟩ : ∃ q, 2 ^ m = q := ⟨_, rfl⟩
  have hq2 : 512 ≤ q ∧ q ≤ 65536 := by
    have h1 : 2 ^ 9 ≤ 2 ^ m := Nat.pow_le_pow_right (by decide) h9
    have h2 : 2 ^ m ≤ 2 ^ 16 := Nat.pow_le_pow_right (by decide) h16
    rw [hq] at h1 h2
    omega
  have hu : IntKind.u64.wrap (m : Int) = (m : Int) := IntWalk.u64_in _ (by omega)
  have hsh : (Value.int .i64 (wrap64 (2 ^ m))) = Value.int .i64 (q : Int) := by
    rw [show ((2 : Int) ^ m) = ((2 ^ m : Nat) : Int) by simp, hq]
    congr 1
    unfold wrap64
    omega
  have HQ := Lib.hid hq
  have CB := Lib.hid (fun W => dNew2 s (by omega) W)
  obtain ⟨bits, hbits⟩ : ∃ bits, spread s.data.toList = bits := ⟨_, rfl⟩
  rw [hbits] at hRES CB
  have hbl : bits.length ≤ 2400 := by rw [← hbits, spread_length, Array.length_toList]; have : s.data.size = s.size := rfl; omega
  have HOW : Hid (Owes bits many m RES freshR [] [] 0) := Lib.hid ⟨many, by simp, fun _ => hRES, fun h => by simp at h⟩
  have d1 : decide ((many : Int) < 0) = false := by simp
  have d2 : decide ((16777216 : Int) < (many : Int)) = false := by simp; omega
  clear hq hbits hRES
  go_enter Try.func22, Try.ntmps22
  go_wp2_with fail
  refine (dFresh w).mono ?_; rintro e w1 ⟨u, rfl, hu1, hb1⟩
  have HU1 := Lib.hid hu1
  have HB1 := Lib.hid hb1
  clear hu1 hb1
  go_wp2_with fail
  refine (CB.out _).mono ?_; rintro e w4 ⟨v4, rfl, ho4, hb4⟩
  obtain ⟨va, vc, rfl, hc1, hi4⟩ := ho4.boo
  have hc2 : vc ≤ maxLen := by
    rcases ho4.2 with ⟨e, e2⟩ | ⟨g, cap, cur, e, -, hgg, e2, e3, -⟩
    · injection e with e0 e1 e; subst e; unfold maxLen; omega
    · injection e with e0 _ e; subst e; exact e3
  obtain ⟨BL, hBL⟩ : ∃ BL, bits.length = BL := ⟨_, rfl⟩
  rw [hBL] at ho4 hc1 hbl ⊢
  have HBL := Lib.hid hBL
  have HDU := Lib.hid (show Duo w w4 u (.slice va BL vc) freshR bits from
    ⟨OwnS.kept HU1.out hb4, ho4.base HB1.out.size, fun k hk e => by
      have h1 := (OwnS.lt HU1.out k hk).2
      have h2 := (OwnS.lt ho4 k e).1
      omega, HB1.out.trans (hb4.mono HB1.out.size)⟩)
  have HTK := Lib.hid (fun W t (n : Int) t' X E2 (hb : IsBoo W va bits) (ht : t ≤ bits.length) hS2 => dTakeU va BL vc bits t n hBL.symm hc1 ht W hb (by omega) hc2 t' X E2 hS2)
  clear ho4 hi4 hb4 HU1 HB1 CB hBL
  go_wp2_with fail
  clear d1 d2
  obtain ⟨gb, hgb⟩ : ∃ gb, w4.heap.size = gb := ⟨_, rfl⟩
  obtain ⟨w6, hw6⟩ : ∃ w6, w4.alloc (.cells #[.slice va BL vc, .int .i64 0] 68) = w6 := ⟨_, rfl⟩
  have hAL : Below w4.heap.size w4 w6 := by rw [← hw6]; exact (Below.refl _ _).alloc (Nat.le_refl _) _
  have HX := Lib.hid (show w6.heap[gb]? = some (.cells #[.slice va BL vc, .int .i64 (0 : Nat)] 68 (0, 0)) by rw [← hw6, ← hgb]; exact heap_alloc_new _ _)
  have hwgb : w.heap.size ≤ gb := by rw [← hgb]; exact HDU.out.below.size
  have HDU := Lib.hid (HDU.out.later hAL)
  have HC9 := Lib.hid h9
  have HC16 := Lib.hid h16
  have HST := Lib.hid (show ∀ x ∈ freshR, x ≠ [] ∧ x.length ≤ many + 1 from fun x hx => by
    simp only [freshR, List.mem_map] at hx
    obtain ⟨i, -, rfl⟩ := hx
    simp)
  rw [hw6]
  try rw [hgb]
  clear hgb hw6 hAL
  have hcapb : vc ≤ 9223372036854775807 := by unfold maxLen at hc2; omega
  go_loopw [8, 10, 11] (fun u ov lv wr => ∃ (l : List Row8) (last O : Row8) (t : Nat), ov = .string (sB O) ∧ lv = .string (sB last) ∧ Hid (Duo w wr u (.slice va BL vc) l bits) ∧ Hid (wr.heap[gb]? = some (.cells #[.slice va BL vc, .int .i64 t] 68 (0, 0))) ∧ Hid (Owes bits many m RES l last O t) ∧ Hid (∀ x ∈ l, x ≠ [] ∧ x.length ≤ many + 1) ∧ 256 ≤ l.length ∧ l.length ≤ q ∧ O.length ≤ many ∧ last.length ≤ many ∧ t ≤ BL) (fun _ ov _ _ => many - strLen ov)
  case atStart => exact ⟨freshR, [], [], 0, rfl, rfl, HDU, HX, HOW, HST, by rw [fresh_len]; omega, by rw [fresh_len]; omega, by simp, by simp, Nat.zero_le _⟩
  case round =>
    clear HOW HDU HX HST
    obtain ⟨l, last, O, t, rfl, rfl, hduo, hbx, how, hrow, h256, hlq, hO, hla, ht⟩ := hrel
    have hOs := sB_size O
    have hls := sB_size last
    by_cases hlt : O.length < many
    · have hOi : (O.length : Int) < (many : Int) := by omega
      obtain ⟨g, c, hu6, hlc, hwg, hgw⟩ := own_t (n := 0) hduo.out.one (by intro e; rw [e] at h256; simp at h256)
      subst hu6
      obtain ⟨rows, hrows⟩ : ∃ rows, rowsZ l last m = rows := ⟨_, rfl⟩
      have HR := Lib.hid hrows
      unfold rowsZ at hrows
      rw [HQ.out] at hrows
      obtain ⟨B, hB⟩ : ∃ B : Bool, decide (last ≠ [] ∧ l.length < q) = B := ⟨_, rfl⟩
      have hrB : rows = if B then l.length + 1 else l.length := by
        rw [← hrows, ← hB]
        by_cases h : last ≠ [] ∧ l.length < q
        · rw [if_pos h, decide_eq_true h]; rfl
        · rw [if_neg h, decide_eq_false h]; rfl
      have HROWS := Lib.hid hrows
      clear hrows
      go_upto_region 9 with fail
      go_cut [49] from 35 to 102 (fun s49 wc => s49 = .bool B ∧ wr = wc)
      case first =>
        by_cases hl0 : last = []
        · rw [decide_eq_false (fun e => e.1 hl0)] at hB
          subst hB
          subst hl0
          have hne : (sB []).toList.isEmpty = true := by rw [ByteArray.toList_eq, sB_list]; rfl
          go_wp2_with fail
          go_meet
          case rel => exact ⟨rfl, rfl⟩
        · have hne : (sB last).toList.isEmpty = false := by
            rw [ByteArray.toList_eq, sB_list]
            cases last with
            | nil => exact absurd rfl hl0
            | cons b r => rfl
          by_cases h2 : l.length < q
          · rw [decide_eq_true ⟨hl0, h2⟩] at hB
            subst hB
            have h2i : (l.length : Int) < (q : Int) := by omega
            go_wp2_with fail
            go_meet
            case rel => exact ⟨rfl, rfl⟩
          · rw [decide_eq_false (fun e => h2 e.2)] at hB
            subst hB
            have h2i : ¬ (l.length : Int) < (q : Int) := by omega
            go_wp2_with fail
            go_meet
            case rel => exact ⟨rfl, rfl⟩
      case rest =>
       obtain ⟨rfl, rfl⟩ := hcut
       go_upto_if 49 with fail
       go_cut [12] from 35 to 102 (fun s12 wc => s12 = .int .i64 (rows : Nat) ∧ wr = wc)
       case first =>
        cases B with
        | true =>
          go_wp2_with fail
          go_meet
          case rel => exact ⟨by rw [hrB]; go_num, rfl⟩
        | false =>
          go_wp2_with fail
          go_meet
          case rel => exact ⟨by rw [hrB]; rfl, rfl⟩
       case rest =>
        obtain ⟨rfl, rfl⟩ := hcut
        have hrows := HROWS.out
        clear hB hrB
        have hrb : 256 ≤ rows ∧ rows ≤ q ∧ l.length ≤ rows ∧ rows ≤ l.length + 1 ∧ (l.length < rows → last ≠ []) := by
          split at hrows
          · rename_i h; exact ⟨by omega, by omega, by omega, by omega, fun _ => h.1⟩
          · exact ⟨by omega, by omega, by omega, by omega, fun h => by omega⟩
        obtain ⟨hr256, hrq, hrl, hrl1, hrne⟩ := hrb
        have HRNE := Lib.hid hrne
        have hw := widN_facts hr256 (by omega)
        obtain ⟨K, hK⟩ : ∃ K, widN rows = K := ⟨_, rfl⟩
        have CBT := Lib.hid (fun W => dBits60 rows hr256 (by omega) W)
        rw [hK] at CBT hw
        obtain ⟨⟨t', X, E⟩, hS⟩ : ∃ r, takeS bits t (K : Nat) = r := ⟨_, rfl⟩
        have hXb := take_bound (by omega) hS
        have htb : t' ≤ BL := by
          have := HBL.out
          unfold takeS at hS
          rw [if_neg (by omega)] at hS
          split at hS
          · injection hS with e1 _; omega
          · injection hS with e1 _
            rw [Int.toNat_natCast] at *
            omega
        have hX16 : X < 65536 := Nat.lt_of_lt_of_le hXb.1 (Nat.pow_le_pow_right (by decide) hw.2.1)
        have CTK := Lib.hid (fun W hb => HTK.out W t (K : Int) t' X E hb (by rw [HBL.out]; exact ht) hS)
        have HBO := Lib.hid (show IsBoo wr va bits from by
          obtain ⟨a, c, e, -, hb⟩ := hduo.out.two.boo
          injection e with e1 _ _
          subst e1
          exact hb)
        have hS2 := hS
        rw [← hK] at hS2
        have HS := Lib.hid hS2
        have hE := hXb.2
        have hgbl := block_lt hbx.out
        obtain ⟨z0, z1⟩ : wr.cell? ⟨gb, 0, none⟩ = some (.slice va BL vc) ∧ wr.cell? ⟨gb, 1, none⟩ = some (.int .i64 (t : Nat)) := ⟨cell_lit hbx.out 0 _ rfl, cell_lit hbx.out 1 _ rfl⟩
        clear hrows hrne hK hS hXb hS2 hw
        obtain ⟨SZ, hSZ⟩ : ∃ SZ, wr.heap.size = SZ := ⟨_, rfl⟩
        have HSZ := Lib.hid hSZ
        clear hSZ
        go_wp2_with fail
        go_cut [13, 14, 15] from 35 to 102 (fun s13 s14 s15 wc => ∃ gq, s13 = .pointer (some ⟨gq, 0, none⟩) ∧ s14 = .int .u64 (X : Nat) ∧ s15 = .int .i64 E ∧ Below SZ wr wc ∧ SZ ≤ gq ∧ wc.heap[gq]? = some (.cells #[.slice va BL vc, .int .i64 (t' : Nat)] 68 (0, 0)))
        case first =>
          go_region_with (first
            | (go_at_call 48; (with_reducible refine (CBT.out _).mono ?_); rintro e w2 ⟨rfl, rfl⟩)
            | (go_at_call 36; refine (CTK.out _ (by first | exact HBO.out | exact HBO.out.alloc _)).mono ?_; rintro e w2 ⟨rfl, hb2⟩; (first | (have ha2 := r_new hb2; have HHB := Lib.hid (below_new60 hb2); have a0 := cell_lit ha2 0 _ rfl; have a1 := cell_lit ha2 1 _ rfl; have f0 := free_in ha2 0; have f1 := free_in ha2 1; clear hb2) | (have HHC := Lib.hid hb2; have hszc := hb2.size; clear hb2))))
          all_goals
            go_wp2_with fail
            go_meet
            case rel => first
              | exact ⟨_, rfl, rfl, rfl, by rw [← HSZ.out]; exact (HHB.out.setCell (p := ⟨_, 0, none⟩) (Nat.le_refl _) _).setCell (p := ⟨_, 1, none⟩) (Nat.le_refl _) _, Nat.le_of_eq HSZ.out.symm, block_set (block_set ha2 0 _) 1 _⟩
              | exact ⟨_, rfl, rfl, rfl, by rw [← HSZ.out]; exact (undrew60 HHC.out).alloc (show wr.heap.size ≤ _ from hszc) _, by rw [← HSZ.out]; exact hszc, heap_alloc_new _ _⟩
        case rest =>
          obtain ⟨gq, rfl, rfl, rfl, hb3, hgq, hI⟩ := hcut
          have hb3' : Below wr.heap.size wr wc := by rw [HSZ.out]; exact hb3
          have HD3 := Lib.hid (hduo.out.later hb3')
          have HX3 := Lib.hid ((hb3'.block gb hgbl).trans hbx.out)
          have hgne : gq ≠ gb := by have := HSZ.out; omega
          obtain ⟨x0, x1⟩ : wc.cell? ⟨gq, 0, none⟩ = some (.slice va BL vc) ∧ wc.cell? ⟨gq, 1, none⟩ = some (.int .i64 (t' : Nat)) := ⟨cell_lit hI 0 _ rfl, cell_lit hI 1 _ rfl⟩
          obtain ⟨y0, y1⟩ : wc.cell? ⟨gb, 0, none⟩ = some (.slice va BL vc) ∧ wc.cell? ⟨gb, 1, none⟩ = some (.int .i64 (t : Nat)) := ⟨cell_lit HX3.out 0 _ rfl, cell_lit HX3.out 1 _ rfl⟩
          have f0 := free_in HX3.out 0
          have f1 := free_in HX3.out 1
          clear hb3 hb3' hI hduo hbx z0 z1 CTK CBT HTK HBO
          by_cases hE0 : E = 0
          · subst hE0
            have HD4 := Lib.hid (HD3.out.box HX3.out hwgb (.slice va BL vc) (.int .i64 (t' : Nat)))
            have HX4 := Lib.hid (show ((wc.setCell ⟨gb, 0, none⟩ (.slice va BL vc)).setCell ⟨gb, 1, none⟩ (.int .i64 (t' : Nat))).heap[gb]? = some (.cells #[.slice va BL vc, .int .i64 (t' : Nat)] 68 (0, 0)) from block_set (block_set HX3.out 0 _) 1 _)
            have hXw : IntKind.i64.wrap (X : Int) = (X : Int) := by rw [IntKind.wrap_i64]; omega
            clear hE
            by_cases hXr : rows ≤ X
            · have hXi : (rows : Int) ≤ (X : Int) := by omega
              have hR4 := how.out.form hlt HR.out HS.out hXr
              subst hR4
              clear how
              go_wp2_with fail
              go_ret2
              exact ⟨rfl, HD4.out.below⟩
            · have hXi : ¬ (rows : Int) ≤ (X : Int) := by omega
              have hN : nowZ l last X ≠ [] ∧ (nowZ l last X).length ≤ many + 1 := by
                unfold nowZ
                by_cases hXl : X < l.length
                · rw [if_pos hXl, List.getD_eq_getElem?_getD, List.getElem?_eq_getElem hXl]
                  exact hrow.out _ (List.getElem_mem hXl)
                · rw [if_neg hXl]
                  have h1 := HRNE.out (by omega)
                  refine ⟨fun e => h1 (List.append_eq_nil_iff.1 e).1, ?_⟩
                  rw [List.length_append, List.length_take]; omega
              have HOW := Lib.hid (how.out.next hlt HR.out HS.out (by omega) hN.1)
              have hNX : X < l.length → l[X]? = some (nowZ l last X) := fun h => by
                unfold nowZ
                rw [if_pos h, List.getD_eq_getElem?_getD, List.getElem?_eq_getElem h]; rfl
              have hNX2 : ¬ X < l.length → nowZ l last X = last ++ last.take 1 := fun h => by
                unfold nowZ
                rw [if_neg h]
              obtain ⟨NOW, hNOW⟩ : ∃ NOW, nowZ l last X = NOW := ⟨_, rfl⟩
              rw [hNOW] at hN HOW hNX hNX2
              obtain ⟨hN0, hNl⟩ := hN
              have HNX := Lib.hid hNX
              have HNX2 := Lib.hid hNX2
              have hNs := sB_size NOW
              have HN0 := Lib.hid hN0
              clear hNOW how hNX hNX2 hN0
              go_upto_if 72 with fail
              obtain ⟨w4, hw4⟩ : ∃ w4, (wc.setCell ⟨gb, 0, none⟩ (.slice va BL vc)).setCell ⟨gb, 1, none⟩ (.int .i64 (t' : Nat)) = w4 := ⟨_, rfl⟩
              rw [hw4] at HD4 HX4 ⊢
              clear hw4 x0 x1 y0 y1 f0 f1 HD3 HX3
              have hsl : ∀ (Y : Row8), 1 ≤ Y.length → Y.length ≤ 99999999 → ∀ W, (Instr.slice 9 (.string (sB Y)) none (some (.int .i64 1)) none).run Try.prog W = .ok (.string (sB (Y.take 1))) W := by
                intro Y h1 h2 W
                have hz := sB_size Y
                have := run_slice_string_h (P := Try.prog) W 9 (sB Y) Try.underlying9 .i64 (1 : Int) (by omega) (by omega)
                rw [show ((1 : Int).toNat) = 1 from rfl, sB_cut, List.drop_zero] at this
                simpa using this
              have HSL := Lib.hid hsl
              clear hsl
              go_cut [17] from 35 to 102 (fun s17 wx => s17 = .string (sB NOW) ∧ w4 = wx)
              case first =>
                by_cases hXl : X < l.length
                · have hXli : (X : Int) < (l.length : Int) := by omega
                  have c4 : w4.cell? ⟨g, X, none⟩ = some (.string (sB NOW)) := by
                    have := OwnS.cell flatS8 HD4.out.one X 0 NOW (HNX.out hXl) (by decide)
                    simpa [fS8] using this
                  go_wp2_with fail
                  go_meet
                  case rel => exact ⟨rfl, rfl⟩
                · have hXli : ¬ (X : Int) < (l.length : Int) := by omega
                  have hl0 := HRNE.out (by omega)
                  have hl1 : 1 ≤ last.length := List.length_pos_iff.2 hl0
                  have hs1 := HSL.out last hl1 (by omega)
                  have hs2 := sB_size (last.take 1)
                  have hs3 : (last.take 1).length ≤ 1 := by rw [List.length_take]; omega
                  have HE := Lib.hid (HNX2.out hXl)
                  clear hl0
                  go_wp2_with fail
                  go_meet
                  case rel => exact ⟨by rw [HE.out, sB_app], rfl⟩
              case rest =>
                obtain ⟨rfl, rfl⟩ := hcut
                go_upto_if 84 with fail
                go_cut [8] from 35 to 102 (fun s8 wx => Hid (Duo w wx s8 (.slice va BL vc) (moreZ l last NOW rows) bits) ∧ Hid (wx.heap[gb]? = some (.cells #[.slice va BL vc, .int .i64 (t' : Nat)] 68 (0, 0))))
                case first =>
                  have hN1 : 1 ≤ NOW.length := List.length_pos_iff.2 HN0.out
                  have hs1 := HSL.out NOW hN1 (by omega)
                  by_cases hr2 : l.length < rows
                  · have hri : (l.length : Int) < (rows : Int) := by omega
                    have hM : moreZ l last NOW rows = l ++ [last ++ NOW.take 1] := by unfold moreZ; rw [if_pos hr2]
                    have HM := Lib.hid hM
                    have hs2 := sB_size (NOW.take 1)
                    have hs3 : (NOW.take 1).length ≤ 1 := by rw [List.length_take]; omega
                    have HLL := Lib.hid (show l.length ≤ 1099511627776 by omega)
                    have HB4 := Lib.hid (show w.heap.size ≤ w4.heap.size from HD4.out.below.size)
                    clear hM
                    go_wp2_with (first
                      | (at_builtin; refine app_str1 rfl (.tmp 85) (.tmp 90) rfl _ _ _ _ (last ++ NOW.take 1) _ (sB_app _ _) rfl HD4.out.one w4.heap.size 1 rfl rfl HLL.out HB4.out ?_; intro v5 w5 ho5 hr5)
                      | fail)
                    go_meet
                    case rel => exact ⟨Lib.hid (by rw [HM.out]; exact HD4.out.app ho5 hr5), Lib.hid (hr5.1.heap HX4.out (fun e => own_ne HD4.out.one HX4.out (by decide) e))⟩
                  · have hri : ¬ (l.length : Int) < (rows : Int) := by omega
                    have hM : moreZ l last NOW rows = l := by unfold moreZ; rw [if_neg hr2]
                    have HM := Lib.hid hM
                    clear hM
                    go_wp2_with fail
                    go_meet
                    case rel => exact ⟨Lib.hid (by rw [HM.out]; exact HD4.out), HX4⟩
                case rest =>
                  obtain ⟨hd5, hx5⟩ := hcut
                  by_cases hov : NOW.length ≤ many - O.length
                  · have hovi : ¬ (many : Int) - (O.length : Int) < (NOW.length : Int) := by omega
                    have HML := Lib.hid (show 256 ≤ (moreZ l last NOW rows).length ∧ (moreZ l last NOW rows).length ≤ q by
                      unfold moreZ
                      split
                      · rw [List.length_append, List.length_singleton]; omega
                      · omega)
                    have HMR := Lib.hid (show ∀ x ∈ moreZ l last NOW rows, x ≠ [] ∧ x.length ≤ many + 1 from fun x hx => by
                      unfold moreZ at hx
                      split at hx
                      · rename_i h
                        rcases List.mem_append.1 hx with hx | hx
                        · exact hrow.out x hx
                        · rw [List.mem_singleton] at hx
                          subst hx
                          refine ⟨fun e => HRNE.out h (List.append_eq_nil_iff.1 e).1, ?_⟩
                          rw [List.length_append, List.length_take]; omega
                      · exact hrow.out x hx)
                    have hN1 : 1 ≤ NOW.length := List.length_pos_iff.2 HN0.out
                    have HON := Lib.hid (show (O ++ NOW).length ≤ many by rw [List.length_append]; omega)
                    have HNM := Lib.hid (show NOW.length ≤ many by omega)
                    have HMS := Lib.hid (show many - (sB O ++ sB NOW).size < many - (sB O).size by rw [sB_app, sB_size, sB_size, List.length_append]; omega)
                    go_wp2_with fail
                    refine ⟨⟨moreZ l last NOW rows, NOW, O ++ NOW, t', by rw [sB_app], rfl, hd5, hx5, HOW, HMR, HML.out.1, HML.out.2, HON.out, HNM.out, htb⟩, ?_⟩
                    exact HMS.out
                  · have hovi : (many : Int) - (O.length : Int) < (NOW.length : Int) := by omega
                    have hR4 := HOW.out.over (by rw [List.length_append]; omega)
                    subst hR4
                    clear HOW
                    go_wp2_with fail
                    go_ret2
                    exact ⟨rfl, hd5.out.below⟩
          · have hR4 := how.out.err hlt HR.out HS.out hE0
            obtain rfl : E = 3 := by rcases hE with h | h; (· exact absurd h hE0); (· exact h)
            subst hR4
            clear how hE hE0
            go_wp2_with fail
            go_ret2
            exact ⟨rfl, HD3.out.below⟩
    · have hOm : O.length = many := by omega
      have hOi : ¬ (O.length : Int) < (many : Int) := by omega
      have hR := how.out.done hOm
      have hlen : (bits.drop t).length = BL - t := by rw [List.length_drop, HBL.out]
      obtain ⟨OK, hOK⟩ : ∃ OK, okZ (bits.drop t) = OK := ⟨_, rfl⟩
      rw [hOK] at hR
      have CLE := Lib.hid (fun W b cb (hb2 : IsBoo W b (bits.drop t)) => by
        have := dLeft60 b cb (bits.drop t) W hb2 (by rw [hlen]; omega)
        rw [hlen, hOK] at this
        exact this)
      obtain ⟨x0, x1⟩ : wr.cell? ⟨gb, 0, none⟩ = some (.slice va BL vc) ∧ wr.cell? ⟨gb, 1, none⟩ = some (.int .i64 (t : Nat)) := ⟨cell_lit hbx.out 0 _ rfl, cell_lit hbx.out 1 _ rfl⟩
      have hti : (t : Int) ≤ (BL : Int) := by omega
      have htc : (BL : Int) ≤ (vc : Int) := by omega
      have HEND := Lib.hid (show vc = t → bits.drop t = [] from fun e => List.drop_eq_nil_of_le (by rw [HBL.out]; omega))
      have HBW := Lib.hid hduo.out.below
      have HBO := Lib.hid (show IsBoo wr va bits from by
        obtain ⟨a, c, e, -, hb⟩ := hduo.out.two.boo
        injection e with e1 _ _
        subst e1
        exact hb)
      clear hlen hOK how hduo hbx HTK hrow
      rcases va with _ | x
      · have hb0 : bits = [] := by
          rcases HBO.out with e | ⟨y, e, -⟩
          · exact e
          · cases e
        have HBD := Lib.hid (show bits.drop t = [] by rw [hb0]; simp)
        clear hb0
        cases OK with
        | true =>
          rw [if_pos rfl] at hR
          subst hR
          go_wp2_with fail
          all_goals
            refine (CLE.out _ _ _ (.inl HBD.out)).mono ?_; rintro e w9 ⟨rfl, rfl⟩
            go_wp2_with fail
            go_ret2
            exact ⟨rfl, HBW.out⟩
        | false =>
          rw [if_neg (by decide)] at hR
          subst hR
          go_wp2_with fail
          all_goals
            refine (CLE.out _ _ _ (.inl HBD.out)).mono ?_; rintro e w9 ⟨rfl, rfl⟩
            go_wp2_with fail
            go_ret2
            exact ⟨rfl, HBW.out⟩
      · cases OK with
        | true =>
          rw [if_pos rfl] at hR
          subst hR
          go_wp2_with fail
          all_goals
            refine (CLE.out _ _ _ (by first | exact HBO.out.drop t | (exact .inl (HEND.out (by assumption))) | (split; exact .inl (HEND.out (by assumption)); exact HBO.out.drop t))).mono ?_; rintro e w9 ⟨rfl, rfl⟩
            go_wp2_with fail
            go_ret2
            exact ⟨rfl, HBW.out⟩
        | false =>
          rw [if_neg (by decide)] at hR
          subst hR
          go_wp2_with fail
          all_goals
            refine (CLE.out _ _ _ (by first | exact HBO.out.drop t | (exact .inl (HEND.out (by assumption))) | (split; exact .inl (HEND.out (by assumption)); exact HBO.out.drop t))).mono ?_; rintro e w9 ⟨rfl, rfl⟩
            go_wp2_with fail
            go_ret2
            exact ⟨rfl, HBW.out⟩
end Go.Proofs.Ytplopddlpoffoaa
