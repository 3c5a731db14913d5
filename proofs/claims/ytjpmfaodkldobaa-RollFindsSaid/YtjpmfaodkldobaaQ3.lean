/- Layer 42: places of a pattern, of the program and of the document. -/
import Derived.Test.YtjpmfaodkldobaaQ2
import Derived.Lib.Strings
namespace Go.Proofs.Ytjpmfaodkldobaa
open Go.ChangeShapes Go.WideShapes Go.ChangeAt Go.RowKit
set_option linter.unusedVariables false
set_option maxRecDepth 100000
open RollMath
def findV (s p : ByteArray) : List Int := findL s.data.toList p.data.toList
theorem L_len (p : ByteArray) : p.data.toList.length = p.size := by simp
theorem all_places (s : List UInt8) (k : Nat) : findTo s [] k = (List.range k).map (fun i : Nat => (i : Int)) := by
  induction k with
  | zero => rfl
  | succ k ih => rw [findTo_nil, ih, List.range_succ, List.map_append]; rfl
set_option maxHeartbeats 1600000 in
theorem rFind_empty (s p : ByteArray) (hs : s.size ≤ 1048576) (hp : p.size = 0) (w : World) :
    Calls Try.prog 41 #[.string s, .string p] w fun e w' => ∃ v', e = .returned v' ∧ OwnI w.heap.size w' v' (findV s p) ∧ Below w.heap.size w w' := by
  have hpn : p.data.toList = [] := List.eq_nil_of_length_eq_zero (by rw [L_len]; exact hp)
  have he : p.toList.isEmpty = true := by rw [ByteArray.toList_eq, hpn]; rfl
  have HF : Hid (findV s p = (List.range (s.size + 1)).map (fun i : Nat => (i : Int))) := by
    show _ = _
    unfold findV findL
    rw [hpn, if_pos (by simp), all_places, L_len]; rfl
  clear hpn hp
  go_enter Try.func41, Try.ntmps41
  go_wp2
  go_loopw [5, 15] (fun u i wr => ∃ k : Nat, k ≤ s.size + 1 ∧ i = .int .i64 k ∧ OwnI w.heap.size wr u ((List.range k).map (fun i : Nat => (i : Int))) ∧ Below w.heap.size w wr) (fun _ i _ => s.size + 1 - (intOf i).toNat)
  case atStart => exact ⟨0, Nat.zero_le _, rfl, OwnS.nil, Below.refl _ _⟩
  case round =>
    obtain ⟨k, hk, rfl, hown, hb⟩ := hrel
    have hbs := hb.size
    by_cases hlt : k < s.size + 1
    · have hli : (k : Int) < (s.size : Int) + 1 := by omega
      have HL := Lib.hid (show ((List.range k).map (fun i : Nat => (i : Int))).length ≤ 1099511627776 by simp; omega)
      have HB := Lib.hid hbs
      have HE := Lib.hid (show (List.range k).map (fun i : Nat => (i : Int)) ++ [(k : Int)] = (List.range (k + 1)).map (fun i : Nat => (i : Int)) by rw [List.range_succ, List.map_append]; rfl)
      go_wp2_with (at_builtin; refine app_int rfl (.tmp 18) (.tmp 20) rfl _ _ _ _ (k : Int) rfl hown wr.heap.size 1 rfl rfl HL.out HB.out ?_; intro v3 w3 hown3 hb3 _)
      rw [HE.out] at hown3
      have hown3_ := Lib.hid hown3
      clear hown3
      go_wp2
      go_roundw
      case rel => exact ⟨k + 1, by omega, by go_num, hown3_.out, hb.trans hb3⟩
      case measure => simp [intOf]; omega
    · obtain rfl : k = s.size + 1 := by omega
      rw [← HF.out] at hown
      have hown_ := Lib.hid hown
      clear hown
      go_wp2
      go_ret
      exact ⟨_, rfl, hown_.out, hb⟩
theorem ne_empty (p : ByteArray) (h : 0 < p.size) : p.toList.isEmpty = false := by
  rw [ByteArray.toList_eq, List.isEmpty_eq_false_iff]
  intro e
  have : p.size = 0 := by rw [← L_len, e]; rfl
  omega
theorem own_last {B : Nat} {w : World} {v : Value} {l : List Int} {X Y : Int} (h : OwnI B w v (l ++ [X])) (e : X = Y) : OwnI B w v (l ++ [Y]) := e ▸ h
theorem rFind_long (s p : ByteArray) (hp : s.size < p.size) (hs : p.size ≤ 1048576) (w : World) :
    Calls Try.prog 41 #[.string s, .string p] w fun e w' => ∃ v', e = .returned v' ∧ OwnI w.heap.size w' v' (findV s p) ∧ Below w.heap.size w w' := by
  have he := ne_empty p (by omega)
  have HF : Hid (findV s p = []) := by show _ = _; unfold findV findL; rw [if_neg (by rw [L_len, L_len]; omega)]
  go_enter Try.func41, Try.ntmps41
  go_wp2
  go_ret
  exact ⟨_, rfl, by rw [HF.out]; exact OwnS.nil, Below.refl _ _⟩
set_option maxHeartbeats 6400000 in
theorem rFind_main (s p : ByteArray) (hp0 : 0 < p.size) (hps : p.size ≤ s.size) (hs : s.size ≤ 1048576) (w : World) :
    Calls Try.prog 41 #[.string s, .string p] w fun e w' => ∃ v', e = .returned v' ∧ OwnI w.heap.size w' v' (findV s p) ∧ Below w.heap.size w w' := by
  have he := ne_empty p hp0
  have HF : Hid (findV s p = toldTo s.data.toList p.data.toList s.size) := by
    show _ = _
    unfold findV; rw [← told_end _ _ (by rw [L_len, L_len]; exact hps), L_len]
  have hpl : p.data.toList.length = p.size := L_len p
  have HG := Lib.hid (L_get p)
  have HT := Lib.hid (L_take s)
  have CB := Lib.hid (rBorders p hp0 (by omega) w)
  have hpl_ := Lib.hid hpl
  clear hpl
  go_enter Try.func41, Try.ntmps41
  go_wp2_with fail
  refine CB.out.mono ?_; rintro e w1 ⟨v1, bl, rfl, hown1, hbs, hb1⟩
  have hlen := hbs.1
  rw [hpl_.out] at hlen
  obtain ⟨g1, cap1, hv1, -, hg1⟩ := hown1.form (by omega) (by decide)
  subst hv1
  rw [hlen]
  have HC := Lib.hid (fun i (hi : i < bl.length) => hown1.int_cell i hi)
  have hlen_ := Lib.hid hlen
  have hbs_ := Lib.hid hbs
  clear hbs
  clear hown1 hlen
  go_wp2
  go_loopw [5, 8, 33] (fun u n i wr => ∃ (i0 n0 : Nat), i0 ≤ s.size ∧ i = .int .i64 i0 ∧ n = .int .i64 n0 ∧ Hid (Best p.data.toList (s.data.toList.take i0) n0) ∧ OwnI w1.heap.size wr u (toldTo s.data.toList p.data.toList i0) ∧ Below w1.heap.size w1 wr) (fun _ _ i _ => s.size - (intOf i).toNat)
  case atStart => exact ⟨0, 0, Nat.zero_le _, rfl, rfl, Lib.hid (by rw [List.take_zero]; exact best_nil _), by rw [told_start _ _ (by rw [L_len]; exact hp0)]; exact OwnS.nil, Below.refl _ _⟩
  case round =>
    obtain ⟨i, n, hi, rfl, rfl, hbest, hown, hb⟩ := hrel
    by_cases hit : i < s.size
    · have hcd := Lib.hid (best_cand hbest.out s[i])
      have HTi := Lib.hid (HT.out i hit)
      have hbO := Lib.hid hb
      have hown_ := Lib.hid hown
      clear hown
      clear hbest
      go_wp2
      obtain ⟨wo, rfl⟩ : ∃ wo : World, wo = wr := ⟨_, rfl⟩
      go_loopw [8] (fun u wr => ∃ n0 : Nat, u = .int .i64 n0 ∧ Hid (Cand p.data.toList (s.data.toList.take i) s[i] n0) ∧ ∃ q, wr = wo.drewN q) (fun u _ => (intOf u).toNat)
      case atStart => exact ⟨n, rfl, hcd, 0, rfl⟩
      case round =>
        clear hcd
        obtain ⟨n, rfl, hcd, q, rfl⟩ := hrel
        have hnp : n ≤ p.size := by have := hcd.out.2.1; rw [hpl_.out] at this; exact this
        by_cases h0 : 0 < n
        · have e0 : decide (0 < (n : Int)) = true := by simp; omega
          have e0n : decide (0 < n) = true := by simpa using h0
          obtain ⟨b, hbb1, hbb2⟩ := hbs_.out.2 n (by omega) (by omega)
          have hbn := hbb2.1
          have hq : wo.cell? ⟨g1, n - 1, none⟩ = some (.int .i64 b) := by
            rw [hb.cell (p := ⟨g1, n - 1, none⟩) hg1, ← hbb1]; exact HC.out (n - 1) (by rw [hlen_.out]; omega)
          have hni2 : ((n : Int) - 1).toNat = n - 1 := by omega
          by_cases hfull : n = p.size
          · have e1 : ((n : Int) == (p.size : Int)) = true := by rw [hfull]; simp
            have hfall := Lib.hid (cand_fall hcd.out hbb2 (by rw [List.getElem?_eq_none (by rw [hpl_.out]; omega)]; simp))
            clear hcd hbb1 hbb2
            subst hfull
            go_wp2
            go_quiet (fail)
            go_wp2
            go_roundw
            case rel => exact ⟨b, rfl, hfall, _, by first | rfl | rw [World.drewN_drewN]⟩
            case measure => simp [intOf]; omega
          · have e1 : ((n : Int) == (p.size : Int)) = false := by rw [beq_eq_false_iff_ne]; omega
            have hn1 : n < p.size := by omega
            have hgn := HG.out n hn1
            by_cases hc : p[n] = s[i]
            · have e3 : ((p[n].toNat : Int) != (s[i].toNat : Int)) = false := by rw [hc]; simp
              have e3e : ((p[n].toNat : Int) == (s[i].toNat : Int)) = true := by rw [hc]; simp
              have hhit := cand_hit hcd.out (by rw [hgn, hc])
              rw [← HTi.out] at hhit
              clear hgn hc hcd hbb1 hbb2 hq hfull
              by_cases hfu : n + 1 = p.size
              · have e2 : (((n + 1 : Nat) : Int) == (p.size : Int)) = true := by rw [hfu]; simp
                have e2' : (((n : Int) + 1) == (p.size : Int)) = true := by rw [← e2]; simp
                have HN := Lib.hid (told_hit s.data.toList p.data.toList i (by rw [L_len]; exact hit) ((best_full hhit).1 (by rw [hpl_.out]; omega)))
                rw [hpl_.out] at HN
                have hple : p.size ≤ i + 1 := by
                  rcases Nat.lt_or_ge (i + 1) p.size with h | h
                  · exact absurd ((best_full hhit).1 (by rw [hpl_.out]; omega)) (suffix_short s.data.toList p.data.toList (i + 1) (by rw [hpl_.out]; exact h))
                  · exact h
                have HL := Lib.hid (show (toldTo s.data.toList p.data.toList i).length ≤ 1099511627776 by have := findTo_len s.data.toList p.data.toList (i + 1 - p.data.toList.length); unfold toldTo; omega)
                have HB := Lib.hid hb.size
                have HH := Lib.hid hhit
                have HFU := Lib.hid hfu
                clear hhit hfu e2
                go_wp2
                go_quiet (fail)
                go_wp2
                go_quiet (fail)
                go_wp2_with (at_builtin; refine app_int rfl (.tmp 71) (.tmp 76) rfl _ _ _ _ _ rfl (OwnS.drewN hown_.out _) wo.heap.size 1 rfl rfl HL.out HB.out ?_; intro v3 w3 hown3 hb3 _)
                have hown4 := own_last hown3 (Y := ((i + 1 - p.size : Nat) : Int)) (by have := HFU.out; omega)
                rw [← HN.out] at hown4
                have hown4_ := Lib.hid hown4
                clear hown4
                go_roundw
                case rel => exact ⟨i + 1, n + 1, by omega, by go_num, by go_num, HH, hown4_.out, (below_dn hbO.out _).trans hb3⟩
                case measure => simp [intOf]; omega
              · have e2 : (((n + 1 : Nat) : Int) == (p.size : Int)) = false := by rw [beq_eq_false_iff_ne]; omega
                have e2' : (((n : Int) + 1) == (p.size : Int)) = false := by rw [← e2]; simp
                have HN := Lib.hid (told_miss s.data.toList p.data.toList i (by rw [L_len]; exact hit) (fun h => hfu (by rw [← hpl_.out]; exact (best_full hhit).2 h)))
                have HH := Lib.hid hhit
                clear hhit hfu e2
                go_wp2
                go_quiet (fail)
                go_wp2
                go_quiet (fail)
                go_wp2
                go_roundw
                case rel => exact ⟨i + 1, n + 1, by omega, by go_num, by go_num, HH, by rw [HN.out]; exact OwnS.drewN hown_.out _, below_dn hbO.out _⟩
                case measure => simp [intOf]; omega
            · have e3 : ((p[n].toNat : Int) != (s[i].toNat : Int)) = true := by
                rw [bne_iff_ne]; intro h; exact hc (UInt8.toNat_inj.1 (by omega))
              have hfall := Lib.hid (cand_fall hcd.out hbb2 (by rw [hgn]; intro h; injection h with h; exact hc h))
              clear hgn hc hcd hbb1 hbb2 hfull
              go_wp2
              go_quiet (fail)
              go_wp2
              go_roundw
              case rel => exact ⟨b, rfl, hfall, _, by first | rfl | rw [World.drewN_drewN]⟩
              case measure => simp [intOf]; omega
        · obtain rfl : n = 0 := by omega
          have hgn := HG.out 0 hp0
          by_cases hc : p[0] = s[i]
          · have e3e : ((p[0].toNat : Int) == (s[i].toNat : Int)) = true := by rw [hc]; simp
            have hhit := cand_hit hcd.out (by rw [hgn, hc])
            rw [← HTi.out] at hhit
            clear hgn hc hcd
            by_cases hfu : 0 + 1 = p.size
            · have e2 : (((0 + 1 : Nat) : Int) == (p.size : Int)) = true := by rw [hfu]; simp
              have e2' : ((1 : Int) == (p.size : Int)) = true := by rw [← e2]; simp
              have HN := Lib.hid (told_hit s.data.toList p.data.toList i (by rw [L_len]; exact hit) ((best_full hhit).1 (by rw [hpl_.out]; omega)))
              rw [hpl_.out] at HN
              have hple : p.size ≤ i + 1 := by
                rcases Nat.lt_or_ge (i + 1) p.size with h | h
                · exact absurd ((best_full hhit).1 (by rw [hpl_.out]; omega)) (suffix_short s.data.toList p.data.toList (i + 1) (by rw [hpl_.out]; exact h))
                · exact h
              have HL := Lib.hid (show (toldTo s.data.toList p.data.toList i).length ≤ 1099511627776 by have := findTo_len s.data.toList p.data.toList (i + 1 - p.data.toList.length); unfold toldTo; omega)
              have HB := Lib.hid hb.size
              have HH := Lib.hid hhit
              have HFU := Lib.hid hfu
              clear hhit hfu e2
              go_wp2
              go_quiet (fail)
              go_wp2
              go_quiet (fail)
              go_wp2_with (at_builtin; refine app_int rfl (.tmp 71) (.tmp 76) rfl _ _ _ _ _ rfl (OwnS.drewN hown_.out _) wo.heap.size 1 rfl rfl HL.out HB.out ?_; intro v3 w3 hown3 hb3 _)
              have hown4 := own_last hown3 (Y := ((i + 1 - p.size : Nat) : Int)) (by have := HFU.out; omega)
              rw [← HN.out] at hown4
              have hown4_ := Lib.hid hown4
              clear hown4
              go_roundw
              case rel => exact ⟨i + 1, 0 + 1, by omega, by go_num, by go_num, HH, hown4_.out, (below_dn hbO.out _).trans hb3⟩
              case measure => simp [intOf]; omega
            · have e2 : (((0 + 1 : Nat) : Int) == (p.size : Int)) = false := by rw [beq_eq_false_iff_ne]; omega
              have e2' : ((1 : Int) == (p.size : Int)) = false := by rw [← e2]; simp
              have HN := Lib.hid (told_miss s.data.toList p.data.toList i (by rw [L_len]; exact hit) (fun h => hfu (by rw [← hpl_.out]; exact (best_full hhit).2 h)))
              have HH := Lib.hid hhit
              clear hhit hfu e2
              go_wp2
              go_quiet (fail)
              go_wp2
              go_quiet (fail)
              go_wp2
              go_roundw
              case rel => exact ⟨i + 1, 0 + 1, by omega, by go_num, by go_num, HH, by rw [HN.out]; exact OwnS.drewN hown_.out _, below_dn hbO.out _⟩
              case measure => simp [intOf]; omega
          · have e3e : ((p[0].toNat : Int) == (s[i].toNat : Int)) = false := by
              rw [beq_eq_false_iff_ne]; intro h; exact hc (UInt8.toNat_inj.1 (by omega))
            have hhit := cand_miss hcd.out (by rw [hgn]; intro h; injection h with h; exact hc h)
            rw [← HTi.out] at hhit
            have e2 : ((0 : Int) == (p.size : Int)) = false := by rw [beq_eq_false_iff_ne]; omega
            have HN := Lib.hid (told_miss s.data.toList p.data.toList i (by rw [L_len]; exact hit) (fun h => by have := (best_full hhit).2 h; rw [hpl_.out] at this; omega))
            have HH := Lib.hid hhit
            clear hgn hc hcd hhit
            go_wp2
            go_quiet (fail)
            go_wp2
            go_quiet (fail)
            go_wp2
            go_roundw
            case rel => exact ⟨i + 1, 0, by omega, by go_num, rfl, HH, by rw [HN.out]; exact OwnS.drewN hown_.out _, below_dn hbO.out _⟩
            case measure => simp [intOf]; omega
    · obtain rfl : i = s.size := by omega
      rw [← HF.out] at hown
      have HV := Lib.hid (hown.base hb1.size)
      clear hown
      go_wp2
      go_ret
      exact ⟨_, rfl, HV.out, hb1.trans (hb.mono hb1.size)⟩
theorem rFind (s p : ByteArray) (hs : s.size ≤ 1048576) (hp : p.size ≤ 1048576) (w : World) :
    Calls Try.prog 41 #[.string s, .string p] w fun e w' => ∃ v', e = .returned v' ∧ OwnI w.heap.size w' v' (findV s p) ∧ Below w.heap.size w w' := by
  by_cases h0 : p.size = 0
  · exact rFind_empty s p hs h0 w
  by_cases h1 : s.size < p.size
  · exact rFind_long s p h1 hp w
  exact rFind_main s p (by omega) (by omega) hs w
theorem cut_at (s p : ByteArray) (i : Nat) : ((s.extract i (i + p.size)).toList == p.toList) = decide ((s.data.toList.drop i).take p.data.toList.length = p.data.toList) := by
  rw [Lib.extract_toList, ByteArray.toList_eq, show i + p.size - i = p.data.toList.length by rw [L_len]; omega]
  rw [Bool.eq_iff_iff, beq_iff_eq, decide_eq_true_iff]
set_option maxHeartbeats 3200000 in
theorem dFind (s p : ByteArray) (hs : s.size ≤ 1048576) (hp : p.size ≤ 1048576) (w : World) :
    Calls Try.prog 42 #[.string s, .string p] w fun e w' => ∃ v', e = .returned v' ∧ OwnI w.heap.size w' v' (findV s p) ∧ Below w.heap.size w w' := by
  have HC := Lib.hid (cut_at s p)
  have HF : Hid (findV s p = findTo s.data.toList p.data.toList (s.size + 1 - p.size)) := by
    show _ = _
    unfold findV findL
    rw [L_len, L_len]
    by_cases h : p.size ≤ s.size
    · rw [if_pos h]
    · rw [if_neg h, show s.size + 1 - p.size = 0 by omega]; rfl
  go_enter Try.func42, Try.ntmps42
  go_wp2
  go_loopw [5, 6] (fun u i wr => ∃ k : Nat, k ≤ s.size + 1 - p.size ∧ i = .int .i64 k ∧ OwnI w.heap.size wr u (findTo s.data.toList p.data.toList k) ∧ Below w.heap.size w wr) (fun _ i _ => s.size + 1 - (intOf i).toNat)
  case atStart => exact ⟨0, Nat.zero_le _, rfl, OwnS.nil, Below.refl _ _⟩
  case round =>
    obtain ⟨k, hk, rfl, hown, hb⟩ := hrel
    have hbs := hb.size
    by_cases hlt : k + p.size ≤ s.size
    · have hli : decide ((k : Int) + (p.size : Int) ≤ (s.size : Int)) = true := by simp; omega
      have hle : (k : Int) + (p.size : Int) ≤ (s.size : Int) := by omega
      have htn : ((k : Int) + (p.size : Int)).toNat = k + p.size := by omega
      have hsl : ∀ W, (Instr.slice 9 (.string s) (some (.int .i64 (k : Int))) (some (.int .i64 ((k : Int) + (p.size : Int)))) none).run Try.prog W = .ok (.string (s.extract k (k + p.size))) W := by
        intro W
        have := run_slice_string (P := Try.prog) W 9 s .i64 .i64 (k : Int) ((k : Int) + (p.size : Int)) Try.underlying9 (by omega) (by omega) hle
        rwa [htn, Int.toNat_natCast] at this
      have hc := HC.out k
      have hft : findTo s.data.toList p.data.toList (k + 1) = if (s.data.toList.drop k).take p.data.toList.length = p.data.toList then findTo s.data.toList p.data.toList k ++ [(k : Int)] else findTo s.data.toList p.data.toList k := rfl
      by_cases hm : (s.data.toList.drop k).take p.data.toList.length = p.data.toList
      · rw [decide_eq_true hm] at hc
        rw [if_pos hm] at hft
        have HL := Lib.hid (show (findTo s.data.toList p.data.toList k).length ≤ 1099511627776 by have := findTo_len s.data.toList p.data.toList k; omega)
        have HB := Lib.hid hbs
        have HE := Lib.hid hft
        clear hft hm
        go_wp2_with (at_builtin; refine app_int rfl (.tmp 25) (.tmp 27) rfl _ _ _ _ (k : Int) rfl hown wr.heap.size 1 rfl rfl HL.out HB.out ?_; intro v3 w3 hown3 hb3 _)
        rw [← HE.out] at hown3
        have hown3_ := Lib.hid hown3
        clear hown3
        go_wp2
        go_roundw
        case rel => exact ⟨k + 1, by omega, by go_num, hown3_.out, hb.trans hb3⟩
        case measure => simp [intOf]; omega
      · rw [decide_eq_false hm] at hc
        rw [if_neg hm] at hft
        have HE := Lib.hid hft
        have hown_ := Lib.hid hown
        clear hown
        clear hft hm
        go_wp2
        go_roundw
        case rel => exact ⟨k + 1, by omega, by go_num, by rw [HE.out]; exact hown_.out, hb⟩
        case measure => simp [intOf]; omega
    · have hkk : Hid (k = s.size + 1 - p.size ∨ (k = 0 ∧ s.size + 1 - p.size = 0)) := by show _ ∨ _; omega
      have hli : decide ((k : Int) + (p.size : Int) ≤ (s.size : Int)) = false := by simp; omega
      have hke : findTo s.data.toList p.data.toList k = findV s p := by rw [HF.out]; congr 1; omega
      rw [hke] at hown
      have HV := Lib.hid hown
      clear hown hke
      go_wp2
      go_ret
      exact ⟨_, rfl, HV.out, hb⟩
end Go.Proofs.Ytjpmfaodkldobaa
