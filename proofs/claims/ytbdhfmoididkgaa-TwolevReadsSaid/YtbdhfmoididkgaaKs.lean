/- Layer 6: Whole and Check. -/
import Derived.Test.YtbdhfmoididkgaaKr
namespace Go.Proofs.Ytbdhfmoididkgaa
open Go.ChangeShapes Go.WideShapes Go.ChangeAt Go.RowKit
set_option linter.unusedVariables false
set_option maxRecDepth 100000
open KraftMath

theorem ksum_lt {w : World} {a : Option Addr} (m : Nat) (zs : List Int) (h : IsInts w a zs) (hm : m ≤ 16) : ksum m zs ≤ 2305843009213693952 := by
  have := ksum_le m zs hm
  have := h.1
  omega
theorem wrap_pow (m : Nat) (h : m ≤ 16) : wrap64 (2 ^ m) = ((2 ^ m : Nat) : Int) := by
  have hp : 2 ^ m ≤ 2 ^ 16 := Nat.pow_le_pow_right (by decide) h
  have e : (2 : Int) ^ m = ((2 ^ m : Nat) : Int) := by simp
  rw [e]
  generalize 2 ^ m = P at *
  unfold wrap64; omega
theorem pow_test (S m : Nat) (h : m ≤ 16) : ((S : Int) == wrap64 (2 ^ m)) = decide (S = 2 ^ m) := by
  rw [wrap_pow m h, Bool.eq_iff_iff, beq_iff_eq, decide_eq_true_iff]
  constructor
  · intro h; exact_mod_cast h
  · intro h; exact_mod_cast h
set_option maxHeartbeats 800000 in
theorem kWhole (a : Option Addr) (cap m : Nat) (zs : List Int) (w : World) (h : IsInts w a zs) (h1 : 1 ≤ m) (h16 : m ≤ 16) (B : Bool) (hB : B = decide (ksum m zs = 2 ^ m)) : Calls Try.prog 30 #[.slice a zs.length cap, .int .i64 m] w fun e w' => e = .returned (.bool B) ∧ ∃ k, w' = w.drewN k := by
  have HS := Lib.hid (fun k => kSum a cap m zs (w.drewN k) h h1 h16)
  obtain ⟨S, hS⟩ : ∃ S, ksum m zs = S := ⟨_, rfl⟩
  rw [hS] at HS hB
  clear hS h
  go_enter Try.func30, Try.ntmps30
  go_wp2
  go_quiet ((first | (go_at_call 28; exact Calls.quiet_of_same (may_yes m (by omega) (by omega) _)) | (go_at_call 40; exact Calls.quiet_of_same (HS.out _))))
  go_wp2
  go_ret
  exact ⟨ret_b (by rw [hB, pow_test S m h16]), _, rfl⟩
theorem check_bad (zs : List Int) (m k : Nat) (h1 : 1 ≤ m) (h16 : m ≤ 16) (hl : zs.length ≤ 1024) (hk : k < zs.length) (hb : bad m (zs.getD k 0) = true) : check zs m = 2 := by
  have ha : zs.any (bad m) = true := by
    rw [List.any_eq_true]
    refine ⟨zs.getD k 0, ?_, hb⟩
    rw [List.getD_eq_getElem?_getD, List.getElem?_eq_getElem hk]; exact List.getElem_mem hk
  unfold check
  rw [if_neg (by omega), if_neg (by omega), Int.toNat_natCast, if_pos ha]
theorem check_good (zs : List Int) (m : Nat) (h1 : 1 ≤ m) (h16 : m ≤ 16) (hl : zs.length ≤ 1024) (hg : zs.any (bad m) = false) :
    check zs m = if used zs = 0 then 7 else if used zs = 1 then (if sole 0 zs = 1 then 0 else 6) else if ksum m zs = 2 ^ m then 0 else 6 := by
  unfold check
  rw [if_neg (by omega), if_neg (by omega), Int.toNat_natCast, if_neg (by rw [hg]; decide)]
  by_cases h0 : used zs = 0
  · rw [if_pos h0, if_pos h0]
  · rw [if_neg h0, if_neg h0]
    by_cases hu : used zs = 1
    · rw [if_pos hu, if_pos hu]
      obtain ⟨g1, g2, g3⟩ := ksum_one m 0 zs hu ((any_bad m zs).1 hg)
      rw [g3]
      have := pow_half m (sole 0 zs).toNat (by omega) (by omega)
      by_cases hs : sole 0 zs = 1
      · rw [if_pos hs, if_pos (this.2 (by omega))]
      · rw [if_neg hs, if_neg (fun h => hs (by have := this.1 h; omega))]
    · rw [if_neg hu, if_neg hu]
theorem any_succ (zs : List Int) (m k : Nat) (h : k < zs.length) (ha : (zs.take k).any (bad m) = false) (hb : bad m (zs.getD k 0) = false) : (zs.take (k + 1)).any (bad m) = false := by
  rw [take_succ_getD zs k h, List.any_append, ha, Bool.false_or]; simp only [List.any_cons, List.any_nil, Bool.or_false]; exact hb
theorem sole_append (s : Int) (l : List Int) (x : Int) : sole s (l ++ [x]) = if x = 0 then sole s l else x := by
  induction l generalizing s with
  | nil => rfl
  | cons n l ih => exact ih _
theorem sole_succ (zs : List Int) (k : Nat) (h : k < zs.length) : sole 0 (zs.take (k + 1)) = if zs.getD k 0 = 0 then sole 0 (zs.take k) else zs.getD k 0 := by
  rw [take_succ_getD zs k h, sole_append]
def Soles (zs : List Int) (m k : Nat) (s : Int) : Prop := (zs.take k).any (bad m) = false ∧ s = sole 0 (zs.take k)
set_option maxHeartbeats 3200000 in
theorem kCheck (a : Option Addr) (cap m : Nat) (zs : List Int) (w : World) (h : IsInts w a zs) (h1 : 1 ≤ m) (h16 : m ≤ 16) (hl : zs.length ≤ 1024) : Calls Try.prog 15 #[.slice a zs.length cap, .int .i64 m] w fun e w' => e = .returned (.int .i64 (check zs m)) ∧ ∃ k, w' = w.drewN k := by
  have HUsed := Lib.hid (kUsed a cap zs w h)
  have HWh := Lib.hid (kWhole a cap m zs w h h1 h16)
  have hx := h.2
  clear h
  have HB := Lib.hid (fun k hk hb => check_bad zs m k h1 h16 hl hk hb)
  have HGd := Lib.hid (fun hg => check_good zs m h1 h16 hl hg)
  have HA := Lib.hid (any_succ zs m); have HSo := Lib.hid (sole_succ zs)
  obtain ⟨R, hR⟩ : ∃ R, check zs m = R := ⟨_, rfl⟩
  rw [hR] at HB HGd ⊢
  clear hR
  have HX := Lib.hid hx
  clear hx
  go_enter Try.func15, Try.ntmps15
  go_wp2
  go_step3
  go_wp2_with fail
  refine (may_yes m (by omega) (by omega) _).mono ?_; rintro e w1 ⟨rfl, rfl⟩
  go_wp2_with fail
  go_step3
  go_wp2_with fail
  go_loop [5, 6, 17] (fun b s i => ∃ (k : Nat) (S : Int), k ≤ zs.length ∧ i = .int .i64 k ∧ b = .bool false ∧ s = .int .i64 S ∧ Soles zs m k S) (fun _ _ i => zs.length - (intOf i).toNat)
  case atStart => exact ⟨0, 0, Nat.zero_le _, rfl, rfl, rfl, rfl, rfl⟩
  case round =>
    obtain ⟨k, S, hk, rfl, rfl, rfl, hS⟩ := hrel
    have HS := Lib.hid hS
    clear hS
    by_cases hlt : k < zs.length
    · rcases HX.out with hx | ⟨x, rfl, hc⟩
      · rw [hx] at hlt; simp at hlt
      have hcell := hc k hlt
      clear hc
      obtain ⟨z, hz⟩ : ∃ z, zs.getD k 0 = z := ⟨_, rfl⟩
      rw [hz] at hcell
      have HZ := Lib.hid hz
      clear hz
      by_cases hneg : z < 0
      · have HE := Lib.hid (HB.out k hlt (by rw [HZ.out]; simp [bad, hneg]))
        go_wp2
        go_ret
        exact ⟨ret_i HE.out.symm, 0, rfl⟩
      · by_cases hbig : (m : Int) < z
        · have HE := Lib.hid (HB.out k hlt (by rw [HZ.out]; simp [bad, hbig]))
          go_wp2
          go_ret
          exact ⟨ret_i HE.out.symm, 0, rfl⟩
        · have hok : bad m (zs.getD k 0) = false := by rw [HZ.out]; unfold bad; rw [Bool.or_eq_false_iff, decide_eq_false_iff_not, decide_eq_false_iff_not]; exact ⟨hneg, hbig⟩
          have HQ := Lib.hid (HA.out k hlt HS.out.1 hok)
          have HP := Lib.hid (HSo.out k hlt)
          clear hok
          by_cases hz0 : z = 0
          · subst hz0
            go_wp2
            go_round
            case rel => exact ⟨k + 1, S, by omega, by go_num, rfl, rfl, HQ.out, by rw [HP.out, HZ.out, if_pos rfl]; exact HS.out.2⟩
            case measure => simp [intOf]; omega
          · have hz1 : (z == 0) = false := by rw [beq_eq_false_iff_ne]; exact hz0
            go_wp2
            go_round
            case rel => exact ⟨k + 1, z, by omega, by go_num, rfl, rfl, HQ.out, by rw [HP.out, HZ.out, if_neg hz0]⟩
            case measure => simp [intOf]; omega
    · obtain rfl : k = zs.length := by omega
      have hS := HS.out
      unfold Soles at hS
      rw [List.take_length] at hS
      have hE := HGd.out hS.1
      have hs := hS.2
      obtain ⟨U, hU⟩ : ∃ U, used zs = U := ⟨_, rfl⟩
      obtain ⟨Q, hQ⟩ : ∃ Q, ksum m zs = Q := ⟨_, rfl⟩
      rw [hU, hQ, ← hs] at hE
      rw [hU] at HUsed
      rw [hQ] at HWh
      have HE := Lib.hid hE
      clear hS hE hs hU hQ
      by_cases h0 : U = 0
      · subst h0
        go_wp2_with fail
        refine HUsed.out.mono ?_; rintro e w2 ⟨rfl, rfl⟩
        go_wp2_with fail
        try rw [Exit.noGoto_ret]
        go_ret
        exact ⟨ret_i (by rw [HE.out]; simp), 0, rfl⟩
      · have e0 : ((U : Int) == 0) = false := by rw [beq_eq_false_iff_ne]; omega
        by_cases hu1 : U = 1
        · subst hu1
          by_cases hs1 : S = 1
          · subst hs1
            go_wp2_with fail
            refine HUsed.out.mono ?_; rintro e w2 ⟨rfl, rfl⟩
            go_wp2_with fail
            try rw [Exit.noGoto_ret]
            go_ret
            exact ⟨ret_i (by rw [HE.out]; rfl), 0, rfl⟩
          · have es : (S == 1) = false := by rw [beq_eq_false_iff_ne]; exact hs1
            have es2 : (S != 1) = true := by rw [bne, es]; rfl
            go_wp2_with fail
            refine HUsed.out.mono ?_; rintro e w2 ⟨rfl, rfl⟩
            go_wp2_with fail
            try rw [Exit.noGoto_ret]
            go_ret
            exact ⟨ret_i (by rw [HE.out]; simp [hs1]), 0, rfl⟩
        · have e1 : ((U : Int) == 1) = false := by rw [beq_eq_false_iff_ne]; omega
          by_cases hq : Q = 2 ^ m
          · have HW := Lib.hid (HWh.out true (by simp [hq]))
            have HQ := Lib.hid hq
            clear hq
            go_wp2_with fail
            refine HUsed.out.mono ?_; rintro e w2 ⟨rfl, rfl⟩
            go_wp2_with fail
            refine HW.out.mono ?_; rintro e w3 ⟨rfl, k3, rfl⟩
            go_wp2_with fail
            try rw [Exit.noGoto_ret]
            go_ret
            exact ⟨ret_i (by rw [HE.out, if_neg h0, if_neg hu1, if_pos HQ.out]), _, rfl⟩
          · have HW := Lib.hid (HWh.out false (by simp [hq]))
            have HQ := Lib.hid hq
            clear hq
            go_wp2_with fail
            refine HUsed.out.mono ?_; rintro e w2 ⟨rfl, rfl⟩
            go_wp2_with fail
            refine HW.out.mono ?_; rintro e w3 ⟨rfl, k3, rfl⟩
            go_wp2_with fail
            try rw [Exit.noGoto_ret]
            go_ret
            exact ⟨ret_i (by rw [HE.out, if_neg h0, if_neg hu1, if_neg HQ.out]), _, rfl⟩
theorem check_lim (zs : List Int) (m : Int) (h : m < 1 ∨ 16 < m) : check zs m = 1 := by unfold check; rw [if_pos h]
theorem check_long (zs : List Int) (m : Nat) (h1 : 1 ≤ m) (h16 : m ≤ 16) (hl : 1024 < zs.length) : check zs m = 5 := by unfold check; rw [if_neg (by omega), if_pos hl]
theorem kCheck_lim (a : Option Addr) (n cap : Nat) (m : Int) (h : m < 1 ∨ 16 < m) (w : World) : Calls Try.prog 15 #[.slice a n cap, .int .i64 m] w fun e w' => e = .returned (.int .i64 1) ∧ ∃ k, w' = w.drewN k := by
  go_enter Try.func15, Try.ntmps15
  go_wp2
  go_step3
  go_wp2_with fail
  refine (may_no m h _).mono ?_; rintro e w1 ⟨rfl, rfl⟩
  go_wp2_with fail
  try rw [Exit.noGoto_ret]
  go_ret
  exact ⟨rfl, 0, rfl⟩
theorem kCheck_long (a : Option Addr) (n cap m : Nat) (h1 : 1 ≤ m) (h16 : m ≤ 16) (hl : 1024 < n) (hn : n ≤ 70368744177664) (w : World) : Calls Try.prog 15 #[.slice a n cap, .int .i64 m] w fun e w' => e = .returned (.int .i64 5) ∧ ∃ k, w' = w.drewN k := by
  go_enter Try.func15, Try.ntmps15
  go_wp2
  go_step3
  go_wp2_with fail
  refine (may_yes m (by omega) (by omega) _).mono ?_; rintro e w1 ⟨rfl, rfl⟩
  go_wp2_with fail
  try rw [Exit.noGoto_ret]
  go_ret
  exact ⟨rfl, 0, rfl⟩
theorem kCheck_any (a : Option Addr) (cap : Nat) (m : Int) (zs : List Int) (w : World) (h : IsInts w a zs) : Calls Try.prog 15 #[.slice a zs.length cap, .int .i64 m] w fun e w' => e = .returned (.int .i64 (check zs m)) ∧ ∃ k, w' = w.drewN k := by
  by_cases hm : m < 1 ∨ 16 < m
  · rw [check_lim zs m hm]; exact kCheck_lim a _ cap m hm w
  · obtain ⟨M, rfl⟩ : ∃ M : Nat, m = M := ⟨m.toNat, by omega⟩
    by_cases hl : 1024 < zs.length
    · rw [check_long zs M (by omega) (by omega) hl]; exact kCheck_long a _ cap M (by omega) (by omega) hl h.1 w
    · exact kCheck a cap M zs w h (by omega) (by omega) (by omega)
def wholeB (zs : List Int) (m : Int) : Bool := decide (1 ≤ m ∧ m ≤ 16 ∧ ksum m.toNat zs = 2 ^ m.toNat)
theorem kWhole_out (a : Option Addr) (n cap : Nat) (m : Int) (h : m < 1 ∨ 16 < m) (w : World) : Calls Try.prog 30 #[.slice a n cap, .int .i64 m] w fun e w' => e = .returned (.bool false) ∧ ∃ k, w' = w.drewN k := by
  go_enter Try.func30, Try.ntmps30
  go_wp2
  go_quiet ((go_at_call 28; exact Calls.quiet_of_same (may_no m h _)))
  go_wp2
  go_ret
  exact ⟨rfl, _, rfl⟩
theorem kWhole_any (a : Option Addr) (cap : Nat) (m : Int) (zs : List Int) (w : World) (h : IsInts w a zs) : Calls Try.prog 30 #[.slice a zs.length cap, .int .i64 m] w fun e w' => e = .returned (.bool (wholeB zs m)) ∧ ∃ k, w' = w.drewN k := by
  by_cases hm : m < 1 ∨ 16 < m
  · rw [show wholeB zs m = false from by unfold wholeB; rw [decide_eq_false_iff_not]; omega]; exact kWhole_out a _ cap m hm w
  · obtain ⟨M, rfl⟩ : ∃ M : Nat, m = M := ⟨m.toNat, by omega⟩
    refine kWhole a cap M zs w h (by omega) (by omega) _ ?_
    unfold wholeB
    rw [Int.toNat_natCast, decide_eq_decide]
    constructor
    · exact fun h => h.2.2
    · exact fun h => ⟨by omega, by omega, h⟩
theorem kSum_any (a : Option Addr) (cap : Nat) (m : Int) (zs : List Int) (w : World) (h : IsInts w a zs) : ∃ S : Int, (∀ k, Calls Try.prog 40 #[.slice a zs.length cap, .int .i64 m] (w.drewN k) fun e w' => e = .returned (.int .i64 S) ∧ w' = w.drewN k) ∧ (∀ k, Calls Try.prog 36 #[.slice a zs.length cap, .int .i64 m] (w.drewN k) fun e w' => e = .returned (.int .i64 S) ∧ w' = w.drewN k) := by
  by_cases hm : m < 1 ∨ 16 < m
  · exact ⟨0, fun k => kSum_out a _ cap m hm _, fun k => rSum_out a _ cap m hm _⟩
  · obtain ⟨M, rfl⟩ : ∃ M : Nat, m = M := ⟨m.toNat, by omega⟩
    exact ⟨_, fun k => kSum a cap M zs _ h (by omega) (by omega), fun k => rSum a cap M zs _ h (by omega) (by omega)⟩
end Go.Proofs.Ytbdhfmoididkgaa
