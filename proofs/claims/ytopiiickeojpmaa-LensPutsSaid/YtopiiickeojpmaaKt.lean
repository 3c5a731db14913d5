import Derived.Test.YtopiiickeojpmaaJ07
/- Layer 6: the document's Check and Whole. -/
namespace Go.Proofs.Ytopiiickeojpmaa
open Go.ChangeShapes Go.WideShapes Go.ChangeAt Go.RowKit
set_option linter.unusedVariables false
set_option maxRecDepth 100000
open KraftMath

theorem check_good' (zs : List Int) (m : Nat) (h1 : 1 ≤ m) (h16 : m ≤ 16) (hl : zs.length ≤ 1024) (hg : zs.any (bad m) = false) :
    check zs m = if used zs = 0 then 7 else if used zs = 1 then (if ksum m zs = 2 ^ m / 2 then 0 else 6) else if ksum m zs = 2 ^ m then 0 else 6 := by
  unfold check
  rw [if_neg (by omega), if_neg (by omega), Int.toNat_natCast, if_neg (by rw [hg]; decide)]
theorem half_test (S m : Nat) (h : m ≤ 16) : ((S : Int) == wrap64 ((wrap64 (2 ^ m)).tdiv 2)) = decide (S = 2 ^ m / 2) := by
  have hb : 2 ^ m ≤ 2 ^ 16 := Nat.pow_le_pow_right (by decide) h
  rw [wrap_pow m h, Bool.eq_iff_iff, beq_iff_eq, decide_eq_true_iff]
  have e : ((2 : Int) ^ m) = ((2 ^ m : Nat) : Int) := by simp
  rw [e] at *
  generalize 2 ^ m = P at *
  have hPP : P / 2 ≤ P := Nat.div_le_self _ _
  have : ((P : Nat) : Int).tdiv 2 = ((P / 2 : Nat) : Int) := by rw [Int.tdiv_eq_ediv_of_nonneg (by omega)]; omega
  rw [this]
  generalize P / 2 = H at *
  unfold wrap64; omega
set_option maxHeartbeats 3200000 in
theorem rCheck (a : Option Addr) (cap m : Nat) (zs : List Int) (w : World) (h : IsInts w a zs) (h1 : 1 ≤ m) (h16 : m ≤ 16) (hl : zs.length ≤ 1024) : Calls Try.prog 68 #[.slice a zs.length cap, .int .i64 m] w fun e w' => e = .returned (.int .i64 (check zs m)) ∧ w' = w := by
  have HUsed := Lib.hid (rUsed a cap zs w h)
  have HSum := Lib.hid (rSum a cap m zs w h h1 h16)
  have hx := h.2
  clear h
  have HB := Lib.hid (fun k hk hb => check_bad zs m k h1 h16 hl hk hb)
  have HGd := Lib.hid (fun hg => check_good' zs m h1 h16 hl hg)
  have HA := Lib.hid (any_succ zs m)
  obtain ⟨R, hR⟩ : ∃ R, check zs m = R := ⟨_, rfl⟩
  rw [hR] at HB HGd ⊢
  clear hR
  have HX := Lib.hid hx
  clear hx
  go_enter Try.func68, Try.ntmps68
  go_wp2_with fail
  go_loop [5] (fun i => ∃ k : Nat, k ≤ zs.length ∧ i = .int .i64 k ∧ Hid ((zs.take k).any (bad m) = false)) (fun i => zs.length - (intOf i).toNat)
  case atStart => exact ⟨0, Nat.zero_le _, rfl, rfl⟩
  case round =>
    obtain ⟨k, hk, rfl, HS⟩ := hrel
    by_cases hlt : k < zs.length
    · rcases HX.out with hx | ⟨x, rfl, hc⟩
      · rw [hx] at hlt; simp at hlt
      have hcell := hc k hlt
      clear hc
      obtain ⟨z, hz⟩ : ∃ z, zs.getD k 0 = z := ⟨_, rfl⟩
      rw [hz] at hcell
      have HZ := Lib.hid hz
      clear hz
      by_cases hneg : z < 0
      · have HE := Lib.hid (HB.out k hlt (by rw [HZ.out]; simp [bad, hneg]))
        go_wp2
        go_ret
        exact ⟨ret_i HE.out.symm, rfl⟩
      · by_cases hbig : (m : Int) < z
        · have HE := Lib.hid (HB.out k hlt (by rw [HZ.out]; simp [bad, hbig]))
          go_wp2
          go_ret
          exact ⟨ret_i HE.out.symm, rfl⟩
        · have hok : bad m (zs.getD k 0) = false := by rw [HZ.out]; unfold bad; rw [Bool.or_eq_false_iff, decide_eq_false_iff_not, decide_eq_false_iff_not]; exact ⟨hneg, hbig⟩
          have HQ := Lib.hid (HA.out k hlt HS.out hok)
          clear hok
          go_wp2
          go_round
          case rel => exact ⟨k + 1, by omega, by go_num, HQ⟩
          case measure => simp [intOf]; omega
    · obtain rfl : k = zs.length := by omega
      have hS := HS.out
      rw [List.take_length] at hS
      have hE := HGd.out hS
      obtain ⟨U, hU⟩ : ∃ U, used zs = U := ⟨_, rfl⟩
      obtain ⟨Q, hQ⟩ : ∃ Q, ksum m zs = Q := ⟨_, rfl⟩
      rw [hU, hQ] at hE
      rw [hU] at HUsed
      rw [hQ] at HSum
      have HE := Lib.hid hE
      clear hS hE hU hQ
      have hh := half_test Q m h16
      have hp := pow_test Q m h16
      by_cases h0 : U = 0
      · subst h0
        go_wp2_with fail
        refine HUsed.out.mono ?_; rintro e w2 ⟨rfl, rfl⟩
        go_wp2_with fail
        go_ret
        exact ⟨ret_i (by rw [HE.out]; simp), rfl⟩
      · have e0 : ((U : Int) == 0) = false := by rw [beq_eq_false_iff_ne]; omega
        by_cases hu1 : U = 1
        · subst hu1
          have e1 : ((1 : Int) == 0) = false := by decide
          by_cases hs1 : Q = 2 ^ m / 2
          · rw [show decide (Q = 2 ^ m / 2) = true from decide_eq_true hs1] at hh
            have hh2 : ((Q : Int) != wrap64 ((wrap64 (2 ^ m)).tdiv 2)) = false := by rw [bne, hh]; rfl
            have HQ := Lib.hid hs1; clear hs1
            go_wp2_with fail
            refine HUsed.out.mono ?_; rintro e w2 ⟨rfl, rfl⟩
            go_wp2_with fail
            refine HSum.out.mono ?_; rintro e w2 ⟨rfl, rfl⟩
            go_wp2_with fail
            all_goals first
              | (go_ret; exact ⟨ret_i (by rw [HE.out]; simp [HQ.out]), rfl⟩)
              | (exfalso; simp_all)
          · rw [show decide (Q = 2 ^ m / 2) = false from decide_eq_false hs1] at hh
            have hh2 : ((Q : Int) != wrap64 ((wrap64 (2 ^ m)).tdiv 2)) = true := by rw [bne, hh]; rfl
            have HQ := Lib.hid hs1; clear hs1
            go_wp2_with fail
            refine HUsed.out.mono ?_; rintro e w2 ⟨rfl, rfl⟩
            go_wp2_with fail
            refine HSum.out.mono ?_; rintro e w2 ⟨rfl, rfl⟩
            go_wp2_with fail
            all_goals first
              | (go_ret; exact ⟨ret_i (by rw [HE.out]; simp [HQ.out]), rfl⟩)
              | (exfalso; simp_all)
        · have e1 : ((U : Int) == 1) = false := by rw [beq_eq_false_iff_ne]; omega
          have h0' := h0; have hu1' := hu1
          have e2 : (1 : Int) < (U : Int) := by omega
          by_cases hq : Q = 2 ^ m
          · rw [show decide (Q = 2 ^ m) = true from decide_eq_true hq] at hp
            have hp2 : ((Q : Int) != wrap64 (2 ^ m)) = false := by rw [bne, hp]; rfl
            have HQ := Lib.hid hq; clear hq
            go_wp2_with fail
            refine HUsed.out.mono ?_; rintro e w2 ⟨rfl, rfl⟩
            go_wp2_with fail
            refine HSum.out.mono ?_; rintro e w2 ⟨rfl, rfl⟩
            go_wp2_with fail
            all_goals first
              | (go_ret; exact ⟨ret_i (by rw [HE.out]; simp [HQ.out, h0', hu1']), rfl⟩)
              | (exfalso; simp_all)
          · rw [show decide (Q = 2 ^ m) = false from decide_eq_false hq] at hp
            have hp2 : ((Q : Int) != wrap64 (2 ^ m)) = true := by rw [bne, hp]; rfl
            have HQ := Lib.hid hq; clear hq
            go_wp2_with fail
            refine HUsed.out.mono ?_; rintro e w2 ⟨rfl, rfl⟩
            go_wp2_with fail
            refine HSum.out.mono ?_; rintro e w2 ⟨rfl, rfl⟩
            go_wp2_with fail
            all_goals first
              | (go_ret; exact ⟨ret_i (by rw [HE.out]; simp [HQ.out, h0', hu1']), rfl⟩)
              | (exfalso; simp_all)
theorem rCheck_lim (a : Option Addr) (n cap : Nat) (m : Int) (h : m < 1 ∨ 16 < m) (w : World) : Calls Try.prog 68 #[.slice a n cap, .int .i64 m] w fun e w' => e = .returned (.int .i64 1) ∧ w' = w := by
  by_cases h1 : m < 1
  · go_enter Try.func68, Try.ntmps68
    go_wp2_with fail
    go_ret
    exact ⟨rfl, rfl⟩
  · have h2 : 16 < m := by omega
    go_enter Try.func68, Try.ntmps68
    go_wp2_with fail
    go_ret
    exact ⟨rfl, rfl⟩
theorem rCheck_long (a : Option Addr) (n cap m : Nat) (h1 : 1 ≤ m) (h16 : m ≤ 16) (hl : 1024 < n) (hn : n ≤ 70368744177664) (w : World) : Calls Try.prog 68 #[.slice a n cap, .int .i64 m] w fun e w' => e = .returned (.int .i64 5) ∧ w' = w := by
  go_enter Try.func68, Try.ntmps68
  go_wp2_with fail
  go_ret
  exact ⟨rfl, rfl⟩
theorem rCheck_any (a : Option Addr) (cap : Nat) (m : Int) (zs : List Int) (w : World) (h : IsInts w a zs) : Calls Try.prog 68 #[.slice a zs.length cap, .int .i64 m] w fun e w' => e = .returned (.int .i64 (check zs m)) ∧ w' = w := by
  by_cases hm : m < 1 ∨ 16 < m
  · rw [check_lim zs m hm]; exact rCheck_lim a _ cap m hm w
  · obtain ⟨M, rfl⟩ : ∃ M : Nat, m = M := ⟨m.toNat, by omega⟩
    by_cases hl : 1024 < zs.length
    · rw [check_long zs M (by omega) (by omega) hl]; exact rCheck_long a _ cap M (by omega) (by omega) hl h.1 w
    · exact rCheck a cap M zs w h (by omega) (by omega) (by omega)
end Go.Proofs.Ytopiiickeojpmaa
