/- Layer 31: Read. -/
import Derived.Test.YtekageibffhloaaH4
namespace Go.Proofs.Ytekageibffhloaa
open Go.ChangeShapes Go.WideShapes Go.ChangeAt Go.RowKit
set_option linter.unusedVariables false
set_option maxRecDepth 100000
abbrev hV (L : Int) (D : Bool) (I : Int) : Value := .agg #[.int .i64 L, .bool D, .int .u32 I]
/-- Where the name breaks off, or is another one. -/
def pre (l : List UInt8) : Int := if l.take 4 = nameB then 0 else if l.take 4 = nameB.take l.length then 3 else 11
def PreR (l : List UInt8) (k : Nat) : Prop := l.take k = nameB.take k
theorem pre_step (l : List UInt8) (k : Nat) (hk : k < 4) (hl : k < l.length) (h : PreR l k) (e : l.getD k 0 = nameB.getD k 0) : PreR l (k + 1) := by
  unfold PreR at *
  have h1 : l.take (k + 1) = l.take k ++ [l.getD k 0] := by rw [List.take_succ_eq_append_getElem hl]; simp [List.getD_eq_getElem?_getD, hl]
  have h2 : nameB.take (k + 1) = nameB.take k ++ [nameB.getD k 0] := by
    have : k < nameB.length := hk
    rw [List.take_succ_eq_append_getElem this]; simp [List.getD_eq_getElem?_getD, this]
  rw [h1, h2, h, e]
theorem pre_no (l : List UInt8) (k : Nat) (hk : k < 4) (hl : k < l.length) (e : l.getD k 0 ≠ nameB.getD k 0) : pre l = 11 := by
  have hn : k < nameB.length := hk
  have key : ∀ m : List UInt8, (∃ q, m = nameB.take q) → k < m.length → l.take 4 = m → False := by
    rintro m ⟨q, rfl⟩ hm h
    have h1 : (l.take 4)[k]? = some (l.getD k 0) := by rw [List.getElem?_take_of_lt hk]; simp [List.getD_eq_getElem?_getD, hl]
    rw [h, List.getElem?_take_of_lt (by rw [List.length_take] at hm; omega)] at h1
    rw [List.getElem?_eq_getElem hn] at h1
    apply e
    simp [List.getD_eq_getElem?_getD, hn] at h1 ⊢
    exact h1.symm
  unfold pre
  rw [if_neg (fun h => key nameB ⟨4, rfl⟩ hn h), if_neg (fun h => key _ ⟨l.length, rfl⟩ (by rw [List.length_take]; simp [nameB]; omega) h)]
theorem pre_short (l : List UInt8) (hl : l.length < 4) (h : PreR l l.length) : pre l = 3 := by
  unfold PreR at h
  rw [List.take_length] at h
  have h4 : l.take 4 = l := List.take_of_length_le (by omega)
  unfold pre
  rw [h4, if_neg (fun e => by rw [e] at hl; simp [nameB] at hl), if_pos h]
theorem pre_yes (l : List UInt8) (h : PreR l 4) : pre l = 0 := by
  unfold pre PreR at *
  rw [if_pos (by rw [h]; rfl)]
/-- The name's bytes. -/
theorem name_at (k : Nat) (hk : k < 4) : ∀ h : k < (ByteArray.mk #[71, 76, 68, 49]).size, ((ByteArray.mk #[71, 76, 68, 49])[k]'h) = nameB.getD k 0 := by
  intro h
  match k, hk with
  | 0, _ => rfl
  | 1, _ => rfl
  | 2, _ => rfl
  | 3, _ => rfl
set_option maxHeartbeats 3200000 in
theorem hReadPre (l : List UInt8) (hl : l.length ≤ 2000) (E : Int) (hp : pre l = E) (h0 : E ≠ 0) (w : World) : Calls Try.prog 40 #[.string (sB l)] w fun e w' => e = .returned (.tuple #[hV 0 false 0, .string (sB []), .int .i64 E]) ∧ Below w.heap.size w w' := by
  have hm : (sB l).size ≤ 2000 := by rw [sB_size]; exact hl
  have HZ := Lib.hid (sB_size l)
  have HG := Lib.hid (fun k h h2 => sB_get l k h h2)
  have HN := Lib.hid name_at
  have HP := Lib.hid hp
  clear hp
  go_enter Try.func40, Try.ntmps40
  go_wp2
  go_loopw [8] (fun i wr => ∃ k : Nat, k ≤ 4 ∧ k ≤ l.length ∧ i = .int .i64 k ∧ Hid (PreR l k) ∧ ∃ q, wr = (w.alloc (.cells #[.int .i64 0, .bool false, .int .u32 0] 53)).drewN q) (fun i _ => 4 - (intOf i).toNat)
  case atStart => exact ⟨0, Nat.zero_le _, Nat.zero_le _, rfl, Lib.hid rfl, 0, rfl⟩
  case round =>
    obtain ⟨k, hk, hkl, rfl, hpr, q, rfl⟩ := hrel
    by_cases hk4 : k < 4
    · by_cases hlt : k < l.length
      · have h2 : k < (sB l).size := by rw [HZ.out]; exact hlt
        have hne : ((k : Int) == ((sB l).size : Int)) = false := by rw [beq_eq_false_iff_ne]; omega
        have hg := HG.out k hlt h2
        have hgt : ((sB l)[k]'h2).toNat = (l.getD k 0).toNat := by rw [hg]
        have hn4 : k < (ByteArray.mk #[71, 76, 68, 49]).size := hk4
        have hnt : ((ByteArray.mk #[71, 76, 68, 49])[k]'hn4).toNat = (nameB.getD k 0).toNat := by rw [HN.out k hk4 hn4]
        obtain ⟨X, hX⟩ : ∃ X, (l.getD k 0).toNat = X := ⟨_, rfl⟩
        obtain ⟨Y, hY⟩ : ∃ Y, (nameB.getD k 0).toNat = Y := ⟨_, rfl⟩
        rw [hX] at hgt
        rw [hY] at hnt
        by_cases hxy : X = Y
        · have hb : ((X : Int) != (Y : Int)) = false := by rw [bne_eq_false_iff_eq]; omega
          have HS := Lib.hid (pre_step l k hk4 hlt hpr.out (UInt8.toNat_inj.1 (by rw [hX, hY, hxy])))
          clear hX hY hg
          subst hxy
          go_wp2
          go_region
          all_goals
            go_wp2
            go_roundw
            case rel => exact ⟨k + 1, by omega, by omega, by go_num, HS, _, rfl⟩
            case measure => simp [intOf]; omega
        · have hb : ((X : Int) != (Y : Int)) = true := by rw [bne_iff_ne]; omega
          have HS := Lib.hid (show E = 11 by rw [← HP.out]; exact pre_no l k hk4 hlt (fun e => hxy (by rw [← hX, ← hY, e])))
          clear hX hY hg
          go_wp2
          go_region
          all_goals
            go_wp2
            exact bodyPost_ret (v := .tuple #[hV 0 false 0, .string ⟨#[]⟩, .int .i64 11]) (by simp [results, Try.results40, go_sem]) rfl ⟨by rw [HS.out]; rfl, (((below_dn ((Below.refl _ _).alloc (Nat.le_refl _) _) _).setCell (p := ⟨w.heap.size, 0, none⟩) (Nat.le_refl _) _).setCell (p := ⟨w.heap.size, 1, none⟩) (Nat.le_refl _) _).setCell (p := ⟨w.heap.size, 2, none⟩) (Nat.le_refl _) _⟩
      · obtain rfl : k = l.length := by omega
        have hne : ((l.length : Int) == ((sB l).size : Int)) = true := by rw [beq_iff_eq]; have := HZ.out; omega
        have HS := Lib.hid (show E = 3 by rw [← HP.out]; exact pre_short l hk4 hpr.out)
        go_wp2
        exact bodyPost_ret (v := .tuple #[hV 0 false 0, .string ⟨#[]⟩, .int .i64 3]) (by simp [results, Try.results40, go_sem]) rfl ⟨by rw [HS.out]; rfl, (((below_dn ((Below.refl _ _).alloc (Nat.le_refl _) _) _).setCell (p := ⟨w.heap.size, 0, none⟩) (Nat.le_refl _) _).setCell (p := ⟨w.heap.size, 1, none⟩) (Nat.le_refl _) _).setCell (p := ⟨w.heap.size, 2, none⟩) (Nat.le_refl _) _⟩
    · obtain rfl : k = 4 := by omega
      exact absurd (by rw [← HP.out]; exact pre_yes l hpr.out) h0
set_option maxHeartbeats 3200000 in
theorem hReadEnd (r : List UInt8) (hr : r = []) (w : World) : Calls Try.prog 40 #[.string (sB (71 :: 76 :: 68 :: 49 :: r))] w fun e w' => e = .returned (.tuple #[hV 0 false 0, .string (sB []), .int .i64 3]) ∧ Below w.heap.size w w' := by
  have hl : r.length ≤ 1000 := by rw [hr]; simp
  have hm : (sB (71 :: 76 :: 68 :: 49 :: r)).size ≤ 2000 := by rw [sB_size]; simp; omega
  have j4 : 4 ≤ (sB (71 :: 76 :: 68 :: 49 :: r)).size := by rw [sB_size]; simp
  have j0 : 0 < (sB (71 :: 76 :: 68 :: 49 :: r)).size := by omega
  have j1 : 1 < (sB (71 :: 76 :: 68 :: 49 :: r)).size := by omega
  have j2 : 2 < (sB (71 :: 76 :: 68 :: 49 :: r)).size := by omega
  have j3 : 3 < (sB (71 :: 76 :: 68 :: 49 :: r)).size := by omega
  have y0 : ((0 : Int) == ((sB (71 :: 76 :: 68 :: 49 :: r)).size : Int)) = false := by rw [beq_eq_false_iff_ne]; omega
  have y1 : ((1 : Int) == ((sB (71 :: 76 :: 68 :: 49 :: r)).size : Int)) = false := by rw [beq_eq_false_iff_ne]; omega
  have y2 : ((2 : Int) == ((sB (71 :: 76 :: 68 :: 49 :: r)).size : Int)) = false := by rw [beq_eq_false_iff_ne]; omega
  have y3 : ((3 : Int) == ((sB (71 :: 76 :: 68 :: 49 :: r)).size : Int)) = false := by rw [beq_eq_false_iff_ne]; omega
  have u0 : ((sB (71 :: 76 :: 68 :: 49 :: r))[0]'j0).toNat = 71 := by rw [sB_get _ 0 (by simp) j0]; rfl
  have u1 : ((sB (71 :: 76 :: 68 :: 49 :: r))[1]'j1).toNat = 76 := by rw [sB_get _ 1 (by simp) j1]; rfl
  have u2 : ((sB (71 :: 76 :: 68 :: 49 :: r))[2]'j2).toNat = 68 := by rw [sB_get _ 2 (by simp) j2]; rfl
  have u3 : ((sB (71 :: 76 :: 68 :: 49 :: r))[3]'j3).toNat = 49 := by rw [sB_get _ 3 (by simp) j3]; rfl
  have hT : (sB (71 :: 76 :: 68 :: 49 :: r)).extract 4 (sB (71 :: 76 :: 68 :: 49 :: r)).size = sB r := by rw [sB_drop]; rfl
  obtain ⟨S, hS⟩ : ∃ S, sB (71 :: 76 :: 68 :: 49 :: r) = S := ⟨_, rfl⟩
  simp only [hS] at *
  clear hS
  rw [hr, show sB [] = ⟨#[]⟩ from rfl] at hT
  clear hr hl
  go_enter Try.func40, Try.ntmps40
  go_wp2
  refine wp_loop_rounds 5 ?_
  rw [rounds_succ]
  go_wp2
  go_region
  go_wp2
  rw [rounds_succ]
  go_wp2
  go_region
  go_wp2
  rw [rounds_succ]
  go_wp2
  go_region
  go_wp2
  rw [rounds_succ]
  go_wp2
  go_region
  go_wp2
  rw [rounds_succ]
  go_wp2
  exact bodyPost_ret (v := .tuple #[hV 0 false 0, .string ⟨#[]⟩, .int .i64 3]) (by simp [results, Try.results40, go_sem]) rfl ⟨rfl, ((Below.refl _ _).alloc (Nat.le_refl _) _).drew.drew.drew.drew⟩
set_option maxHeartbeats 3200000 in
theorem hReadWin (a : UInt8) (A : Nat) (hA : a.toNat = A) (t r : List UInt8) (hr : r = a :: t) (ht : t.length ≤ 996) (h : 64 ≤ A ∨ A % 32 < 15 ∨ 26 < A % 32) (w : World) : Calls Try.prog 40 #[.string (sB (71 :: 76 :: 68 :: 49 :: r))] w fun e w' => e = .returned (.tuple #[hV 0 false 0, .string (sB []), .int .i64 12]) ∧ Below w.heap.size w w' := by
  have hl : r.length ≤ 1000 := by rw [hr]; simp; omega
  have hm : (sB (71 :: 76 :: 68 :: 49 :: r)).size ≤ 2000 := by rw [sB_size]; simp; omega
  have j4 : 4 ≤ (sB (71 :: 76 :: 68 :: 49 :: r)).size := by rw [sB_size]; simp
  have j0 : 0 < (sB (71 :: 76 :: 68 :: 49 :: r)).size := by omega
  have j1 : 1 < (sB (71 :: 76 :: 68 :: 49 :: r)).size := by omega
  have j2 : 2 < (sB (71 :: 76 :: 68 :: 49 :: r)).size := by omega
  have j3 : 3 < (sB (71 :: 76 :: 68 :: 49 :: r)).size := by omega
  have y0 : ((0 : Int) == ((sB (71 :: 76 :: 68 :: 49 :: r)).size : Int)) = false := by rw [beq_eq_false_iff_ne]; omega
  have y1 : ((1 : Int) == ((sB (71 :: 76 :: 68 :: 49 :: r)).size : Int)) = false := by rw [beq_eq_false_iff_ne]; omega
  have y2 : ((2 : Int) == ((sB (71 :: 76 :: 68 :: 49 :: r)).size : Int)) = false := by rw [beq_eq_false_iff_ne]; omega
  have y3 : ((3 : Int) == ((sB (71 :: 76 :: 68 :: 49 :: r)).size : Int)) = false := by rw [beq_eq_false_iff_ne]; omega
  have u0 : ((sB (71 :: 76 :: 68 :: 49 :: r))[0]'j0).toNat = 71 := by rw [sB_get _ 0 (by simp) j0]; rfl
  have u1 : ((sB (71 :: 76 :: 68 :: 49 :: r))[1]'j1).toNat = 76 := by rw [sB_get _ 1 (by simp) j1]; rfl
  have u2 : ((sB (71 :: 76 :: 68 :: 49 :: r))[2]'j2).toNat = 68 := by rw [sB_get _ 2 (by simp) j2]; rfl
  have u3 : ((sB (71 :: 76 :: 68 :: 49 :: r))[3]'j3).toNat = 49 := by rw [sB_get _ 3 (by simp) j3]; rfl
  have hT : (sB (71 :: 76 :: 68 :: 49 :: r)).extract 4 (sB (71 :: 76 :: 68 :: 49 :: r)).size = sB r := by rw [sB_drop]; rfl
  obtain ⟨S, hS⟩ : ∃ S, sB (71 :: 76 :: 68 :: 49 :: r) = S := ⟨_, rfl⟩
  simp only [hS] at *
  clear hS
  subst hr
  clear hl
  have m0 : 0 < (sB (a :: t)).size := by rw [sB_size]; simp
  have m0b : 0 < (sB (a :: t)).size := m0
  have m0c : 1 ≤ (sB (a :: t)).size := m0
  have mm : (sB (a :: t)).size ≤ 2000 := by rw [sB_size]; simp; omega
  have me := sB_ne a t
  have mT : (sB (a :: t)).extract 1 (sB (a :: t)).size = sB t := by rw [sB_drop]; rfl
  have mA : ((sB (a :: t))[0]'m0).toNat = A := by rw [sB_get _ 0 (by simp) m0, ← hA]; rfl
  have hA8 : A < 256 := by rw [← hA]; exact a.toNat_lt
  have z1 : IntKind.i64.wrap ((A : Int) % 32) = (A : Int) % 32 := IntWalk.i64_in _ (by omega)
  obtain ⟨R, hR⟩ : ∃ R, sB (a :: t) = R := ⟨_, rfl⟩
  simp only [hR] at *
  clear hR hA
  clear ht
  by_cases c1 : 64 ≤ A
  · have d1 : decide (64 ≤ (A : Int)) = true := by simp; omega
    have d2 : decide ((64 : Int) ≤ A) = true := by simp; omega
    clear h
    go_enter Try.func40, Try.ntmps40
    go_wp2
    refine wp_loop_rounds 5 ?_
    rw [rounds_succ]
    go_wp2
    go_region
    go_wp2
    rw [rounds_succ]
    go_wp2
    go_region
    go_wp2
    rw [rounds_succ]
    go_wp2
    go_region
    go_wp2
    rw [rounds_succ]
    go_wp2
    go_region
    go_wp2
    rw [rounds_succ]
    go_wp2
    go_region
    all_goals go_wp2
    all_goals exact bodyPost_ret (v := .tuple #[hV 0 false 0, .string ⟨#[]⟩, .int .i64 12]) (by simp [results, Try.results40, go_sem]) rfl ⟨rfl, ((((((Below.refl _ _).alloc (Nat.le_refl _) _).alloc (by simp) _).drew).drew).drew).drew.drew⟩
  · have d1 : decide (64 ≤ (A : Int)) = false := by simp; omega
    have d2 : decide ((64 : Int) ≤ A) = false := by simp; omega
    by_cases c2 : A % 32 < 15
    · have d3 : decide ((A : Int) % 32 < 15) = true := by simp; omega
      clear h
      go_enter Try.func40, Try.ntmps40
      go_wp2
      refine wp_loop_rounds 5 ?_
      rw [rounds_succ]
      go_wp2
      go_region
      go_wp2
      rw [rounds_succ]
      go_wp2
      go_region
      go_wp2
      rw [rounds_succ]
      go_wp2
      go_region
      go_wp2
      rw [rounds_succ]
      go_wp2
      go_region
      go_wp2
      rw [rounds_succ]
      go_wp2
      go_region
      all_goals go_wp2
      all_goals exact bodyPost_ret (v := .tuple #[hV 0 false 0, .string ⟨#[]⟩, .int .i64 12]) (by simp [results, Try.results40, go_sem]) rfl ⟨rfl, ((((((Below.refl _ _).alloc (Nat.le_refl _) _).alloc (by simp) _).drew).drew).drew).drew.drew⟩
    · have c3 : 26 < A % 32 := by omega
      have d3 : decide ((A : Int) % 32 < 15) = false := by simp; omega
      have d4 : decide (26 < (A : Int) % 32) = true := by simp; omega
      clear h
      go_enter Try.func40, Try.ntmps40
      go_wp2
      refine wp_loop_rounds 5 ?_
      rw [rounds_succ]
      go_wp2
      go_region
      go_wp2
      rw [rounds_succ]
      go_wp2
      go_region
      go_wp2
      rw [rounds_succ]
      go_wp2
      go_region
      go_wp2
      rw [rounds_succ]
      go_wp2
      go_region
      go_wp2
      rw [rounds_succ]
      go_wp2
      go_region
      all_goals go_wp2
      all_goals exact bodyPost_ret (v := .tuple #[hV 0 false 0, .string ⟨#[]⟩, .int .i64 12]) (by simp [results, Try.results40, go_sem]) rfl ⟨rfl, ((((((Below.refl _ _).alloc (Nat.le_refl _) _).alloc (by simp) _).drew).drew).drew).drew.drew⟩
set_option maxHeartbeats 3200000 in
theorem hReadNo (a : UInt8) (A : Nat) (hA : a.toNat = A) (t r : List UInt8) (hr : r = a :: t) (ht : t.length ≤ 996) (h : A < 32 ∧ 15 ≤ A % 32 ∧ A % 32 ≤ 26) (w : World) : Calls Try.prog 40 #[.string (sB (71 :: 76 :: 68 :: 49 :: r))] w fun e w' => e = .returned (.tuple #[hV ((A : Int) % 32) false 0, .string (sB t), .int .i64 0]) ∧ Below w.heap.size w w' := by
  have hl : r.length ≤ 1000 := by rw [hr]; simp; omega
  have hm : (sB (71 :: 76 :: 68 :: 49 :: r)).size ≤ 2000 := by rw [sB_size]; simp; omega
  have j4 : 4 ≤ (sB (71 :: 76 :: 68 :: 49 :: r)).size := by rw [sB_size]; simp
  have j0 : 0 < (sB (71 :: 76 :: 68 :: 49 :: r)).size := by omega
  have j1 : 1 < (sB (71 :: 76 :: 68 :: 49 :: r)).size := by omega
  have j2 : 2 < (sB (71 :: 76 :: 68 :: 49 :: r)).size := by omega
  have j3 : 3 < (sB (71 :: 76 :: 68 :: 49 :: r)).size := by omega
  have y0 : ((0 : Int) == ((sB (71 :: 76 :: 68 :: 49 :: r)).size : Int)) = false := by rw [beq_eq_false_iff_ne]; omega
  have y1 : ((1 : Int) == ((sB (71 :: 76 :: 68 :: 49 :: r)).size : Int)) = false := by rw [beq_eq_false_iff_ne]; omega
  have y2 : ((2 : Int) == ((sB (71 :: 76 :: 68 :: 49 :: r)).size : Int)) = false := by rw [beq_eq_false_iff_ne]; omega
  have y3 : ((3 : Int) == ((sB (71 :: 76 :: 68 :: 49 :: r)).size : Int)) = false := by rw [beq_eq_false_iff_ne]; omega
  have u0 : ((sB (71 :: 76 :: 68 :: 49 :: r))[0]'j0).toNat = 71 := by rw [sB_get _ 0 (by simp) j0]; rfl
  have u1 : ((sB (71 :: 76 :: 68 :: 49 :: r))[1]'j1).toNat = 76 := by rw [sB_get _ 1 (by simp) j1]; rfl
  have u2 : ((sB (71 :: 76 :: 68 :: 49 :: r))[2]'j2).toNat = 68 := by rw [sB_get _ 2 (by simp) j2]; rfl
  have u3 : ((sB (71 :: 76 :: 68 :: 49 :: r))[3]'j3).toNat = 49 := by rw [sB_get _ 3 (by simp) j3]; rfl
  have hT : (sB (71 :: 76 :: 68 :: 49 :: r)).extract 4 (sB (71 :: 76 :: 68 :: 49 :: r)).size = sB r := by rw [sB_drop]; rfl
  obtain ⟨S, hS⟩ : ∃ S, sB (71 :: 76 :: 68 :: 49 :: r) = S := ⟨_, rfl⟩
  simp only [hS] at *
  clear hS
  subst hr
  clear hl
  have m0 : 0 < (sB (a :: t)).size := by rw [sB_size]; simp
  have m0b : 0 < (sB (a :: t)).size := m0
  have m0c : 1 ≤ (sB (a :: t)).size := m0
  have mm : (sB (a :: t)).size ≤ 2000 := by rw [sB_size]; simp; omega
  have me := sB_ne a t
  have mT : (sB (a :: t)).extract 1 (sB (a :: t)).size = sB t := by rw [sB_drop]; rfl
  have mA : ((sB (a :: t))[0]'m0).toNat = A := by rw [sB_get _ 0 (by simp) m0, ← hA]; rfl
  have hA8 : A < 256 := by rw [← hA]; exact a.toNat_lt
  have z1 : IntKind.i64.wrap ((A : Int) % 32) = (A : Int) % 32 := IntWalk.i64_in _ (by omega)
  obtain ⟨R, hR⟩ : ∃ R, sB (a :: t) = R := ⟨_, rfl⟩
  simp only [hR] at *
  clear hR hA
  clear ht
  obtain ⟨h1, h2, h3⟩ := h
  have d1 : decide (64 ≤ (A : Int)) = false := by simp; omega
  have d3 : decide ((A : Int) % 32 < 15) = false := by simp; omega
  have d4 : decide (26 < (A : Int) % 32) = false := by simp; omega
  have d5 : ((A : Int) / 32 == 1) = false := by rw [beq_eq_false_iff_ne]; omega
  go_enter Try.func40, Try.ntmps40
  go_wp2
  refine wp_loop_rounds 5 ?_
  rw [rounds_succ]
  go_wp2
  go_region
  go_wp2
  rw [rounds_succ]
  go_wp2
  go_region
  go_wp2
  rw [rounds_succ]
  go_wp2
  go_region
  go_wp2
  rw [rounds_succ]
  go_wp2
  go_region
  go_wp2
  rw [rounds_succ]
  go_wp2
  go_region
  go_wp2
  have hbe : Below w.heap.size w (((w.alloc (.cells #[.int .i64 ((A : Int) % 32), .bool false, .int .u32 0] 53)).alloc (.cells #[.int .i64 ((A : Int) % 32), .bool false, .int .u32 0] 53)).drew.drew.drew.drew.drew) := ((((((Below.refl _ _).alloc (Nat.le_refl _) _).alloc (by simp) _).drew).drew).drew).drew.drew
  exact bodyPost_ret (v := .tuple #[hV ((A : Int) % 32) false 0, .string (sB t), .int .i64 0]) (by simp [results, Try.results40, go_sem]) rfl ⟨rfl, hbe⟩
set_option maxHeartbeats 3200000 in
theorem hReadShort (a : UInt8) (A : Nat) (hA : a.toNat = A) (t r : List UInt8) (hr : r = a :: t) (ht : t.length < 4) (h : 32 ≤ A ∧ A < 64 ∧ 15 ≤ A % 32 ∧ A % 32 ≤ 26) (w : World) : Calls Try.prog 40 #[.string (sB (71 :: 76 :: 68 :: 49 :: r))] w fun e w' => e = .returned (.tuple #[hV 0 false 0, .string (sB []), .int .i64 3]) ∧ Below w.heap.size w w' := by
  have hl : r.length ≤ 1000 := by rw [hr]; simp; omega
  have hT4 : decide (((sB t).size : Int) < 4) = true := by rw [sB_size]; simp; omega
  have hm : (sB (71 :: 76 :: 68 :: 49 :: r)).size ≤ 2000 := by rw [sB_size]; simp; omega
  have j4 : 4 ≤ (sB (71 :: 76 :: 68 :: 49 :: r)).size := by rw [sB_size]; simp
  have j0 : 0 < (sB (71 :: 76 :: 68 :: 49 :: r)).size := by omega
  have j1 : 1 < (sB (71 :: 76 :: 68 :: 49 :: r)).size := by omega
  have j2 : 2 < (sB (71 :: 76 :: 68 :: 49 :: r)).size := by omega
  have j3 : 3 < (sB (71 :: 76 :: 68 :: 49 :: r)).size := by omega
  have y0 : ((0 : Int) == ((sB (71 :: 76 :: 68 :: 49 :: r)).size : Int)) = false := by rw [beq_eq_false_iff_ne]; omega
  have y1 : ((1 : Int) == ((sB (71 :: 76 :: 68 :: 49 :: r)).size : Int)) = false := by rw [beq_eq_false_iff_ne]; omega
  have y2 : ((2 : Int) == ((sB (71 :: 76 :: 68 :: 49 :: r)).size : Int)) = false := by rw [beq_eq_false_iff_ne]; omega
  have y3 : ((3 : Int) == ((sB (71 :: 76 :: 68 :: 49 :: r)).size : Int)) = false := by rw [beq_eq_false_iff_ne]; omega
  have u0 : ((sB (71 :: 76 :: 68 :: 49 :: r))[0]'j0).toNat = 71 := by rw [sB_get _ 0 (by simp) j0]; rfl
  have u1 : ((sB (71 :: 76 :: 68 :: 49 :: r))[1]'j1).toNat = 76 := by rw [sB_get _ 1 (by simp) j1]; rfl
  have u2 : ((sB (71 :: 76 :: 68 :: 49 :: r))[2]'j2).toNat = 68 := by rw [sB_get _ 2 (by simp) j2]; rfl
  have u3 : ((sB (71 :: 76 :: 68 :: 49 :: r))[3]'j3).toNat = 49 := by rw [sB_get _ 3 (by simp) j3]; rfl
  have hT : (sB (71 :: 76 :: 68 :: 49 :: r)).extract 4 (sB (71 :: 76 :: 68 :: 49 :: r)).size = sB r := by rw [sB_drop]; rfl
  obtain ⟨S, hS⟩ : ∃ S, sB (71 :: 76 :: 68 :: 49 :: r) = S := ⟨_, rfl⟩
  simp only [hS] at *
  clear hS
  subst hr
  clear hl
  have m0 : 0 < (sB (a :: t)).size := by rw [sB_size]; simp
  have m0b : 0 < (sB (a :: t)).size := m0
  have m0c : 1 ≤ (sB (a :: t)).size := m0
  have mm : (sB (a :: t)).size ≤ 2000 := by rw [sB_size]; simp; omega
  have me := sB_ne a t
  have mT : (sB (a :: t)).extract 1 (sB (a :: t)).size = sB t := by rw [sB_drop]; rfl
  have mA : ((sB (a :: t))[0]'m0).toNat = A := by rw [sB_get _ 0 (by simp) m0, ← hA]; rfl
  have hA8 : A < 256 := by rw [← hA]; exact a.toNat_lt
  have z1 : IntKind.i64.wrap ((A : Int) % 32) = (A : Int) % 32 := IntWalk.i64_in _ (by omega)
  obtain ⟨R, hR⟩ : ∃ R, sB (a :: t) = R := ⟨_, rfl⟩
  simp only [hR] at *
  clear hR hA
  clear ht
  obtain ⟨h0, h1, h2, h3⟩ := h
  have d1 : decide (64 ≤ (A : Int)) = false := by simp; omega
  have d3 : decide ((A : Int) % 32 < 15) = false := by simp; omega
  have d4 : decide (26 < (A : Int) % 32) = false := by simp; omega
  have d5 : ((A : Int) / 32 == 1) = true := by rw [beq_iff_eq]; omega
  go_enter Try.func40, Try.ntmps40
  go_wp2
  refine wp_loop_rounds 5 ?_
  rw [rounds_succ]
  go_wp2
  go_region
  go_wp2
  rw [rounds_succ]
  go_wp2
  go_region
  go_wp2
  rw [rounds_succ]
  go_wp2
  go_region
  go_wp2
  rw [rounds_succ]
  go_wp2
  go_region
  go_wp2
  rw [rounds_succ]
  go_wp2
  go_region
  all_goals go_wp2
  all_goals exact bodyPost_ret (v := .tuple #[hV 0 false 0, .string ⟨#[]⟩, .int .i64 3]) (by simp [results, Try.results40, go_sem]) rfl ⟨rfl, ((((((Below.refl _ _).alloc (Nat.le_refl _) _).alloc (by simp) _).drew).drew).drew).drew.drew⟩
end Go.Proofs.Ytekageibffhloaa
