/- Layer 20: Of, Row. -/
import Derived.Test.YtpkidedepcnoaaaX2
namespace Go.Proofs.Ytpkidedepcnoaaa
open Go.ChangeShapes Go.WideShapes Go.ChangeAt Go.RowKit
set_option linter.unusedVariables false
set_option linter.unusedSimpArgs false
set_option maxRecDepth 100000
theorem cLofIn (L : List UInt8) (i k : Nat) (w : World) (hL : L.length ≤ 1000000) (hi : i ≤ L.length) (hk : k ≤ L.length) (C : Nat) (hC : comAt L i k = C) :
    Calls Try.prog 21 #[.string (sM L), .int .i64 i, .int .i64 k] w fun e w' => e = .returned (.int .i64 C) ∧ Below w.heap.size w w' := by
  have hS : (sM L).size = L.length := sM_size L
  have CF := Lib.hid (cFrom L i k 0 w hL hi hk C hC (Nat.zero_le _))
  have q1 : decide ((L.length : Int) < i) = false := decide_eq_false (by omega)
  have q2 : decide ((L.length : Int) < k) = false := decide_eq_false (by omega)
  have q3 : decide (L.length < i) = false := decide_eq_false (by omega)
  have q4 : decide (L.length < k) = false := decide_eq_false (by omega)
  clear hC
  go_enter Try.func21, Try.ntmps21
  go_wp2_with fail
  refine CF.out.mono ?_; rintro e w1 ⟨rfl, hb⟩
  go_wp2_with fail
  go_ret
  exact ⟨rfl, hb⟩
theorem cLofOut (L : List UInt8) (i k : Int) (w : World) (hL : L.length ≤ 1000000) (h : ¬ ((0 ≤ i ∧ i ≤ L.length) ∧ (0 ≤ k ∧ k ≤ L.length))) :
    Calls Try.prog 21 #[.string (sM L), .int .i64 i, .int .i64 k] w fun e w' => e = .returned (.int .i64 0) ∧ Below w.heap.size w w' := by
  have hS : (sM L).size = L.length := sM_size L
  by_cases h1 : i < 0
  · go_enter Try.func21, Try.ntmps21
    go_wp2_with fail
    go_ret
    exact ⟨rfl, Below.refl _ _⟩
  · have p1 : decide (i < 0) = false := decide_eq_false h1
    by_cases h2 : (L.length : Int) < i
    · have q1 : decide ((L.length : Int) < i) = true := decide_eq_true h2
      go_enter Try.func21, Try.ntmps21
      go_wp2_with fail
      go_ret
      exact ⟨rfl, Below.refl _ _⟩
    · have q1 : decide ((L.length : Int) < i) = false := decide_eq_false h2
      by_cases h3 : k < 0
      · have p3 : decide (k < 0) = true := decide_eq_true h3
        go_enter Try.func21, Try.ntmps21
        go_wp2_with fail
        go_ret
        exact ⟨rfl, Below.refl _ _⟩
      · have p3 : decide (k < 0) = false := decide_eq_false h3
        have h4 : (L.length : Int) < k := by omega
        have q4 : decide ((L.length : Int) < k) = true := decide_eq_true h4
        go_enter Try.func21, Try.ntmps21
        go_wp2_with fail
        go_ret
        exact ⟨rfl, Below.refl _ _⟩
theorem dOfOut (L : List UInt8) (i k : Int) (w : World) (hL : L.length ≤ 1000000) (h : ¬ ((0 ≤ i ∧ i ≤ L.length) ∧ (0 ≤ k ∧ k ≤ L.length))) :
    Calls Try.prog 22 #[.string (sM L), .int .i64 i, .int .i64 k] w fun e w' => e = .returned (.int .i64 0) ∧ Below w.heap.size w w' := by
  have hS : (sM L).size = L.length := sM_size L
  by_cases h1 : i < 0
  · go_enter Try.func22, Try.ntmps22
    go_wp2_with fail
    go_ret
    exact ⟨rfl, Below.refl _ _⟩
  · have p1 : decide (i < 0) = false := decide_eq_false h1
    by_cases h2 : (L.length : Int) < i
    · have q1 : decide ((L.length : Int) < i) = true := decide_eq_true h2
      go_enter Try.func22, Try.ntmps22
      go_wp2_with fail
      go_ret
      exact ⟨rfl, Below.refl _ _⟩
    · have q1 : decide ((L.length : Int) < i) = false := decide_eq_false h2
      by_cases h3 : k < 0
      · have p3 : decide (k < 0) = true := decide_eq_true h3
        go_enter Try.func22, Try.ntmps22
        go_wp2_with fail
        go_ret
        exact ⟨rfl, Below.refl _ _⟩
      · have p3 : decide (k < 0) = false := decide_eq_false h3
        have h4 : (L.length : Int) < k := by omega
        have q4 : decide ((L.length : Int) < k) = true := decide_eq_true h4
        go_enter Try.func22, Try.ntmps22
        go_wp2_with fail
        go_ret
        exact ⟨rfl, Below.refl _ _⟩
theorem cLofZ (L : List UInt8) (i k : Int) (w : World) (hL : L.length ≤ 1000000) (C : Nat) (hC : ofZ L i k = C) : Calls Try.prog 21 #[.string (sM L), .int .i64 i, .int .i64 k] w fun e w' => e = .returned (.int .i64 C) ∧ Below w.heap.size w w' := by
  unfold ofZ at hC
  by_cases h : (0 ≤ i ∧ i ≤ L.length) ∧ (0 ≤ k ∧ k ≤ L.length)
  · rw [if_pos h] at hC
    have := cLofIn L i.toNat k.toNat w hL (by omega) (by omega) C hC
    rwa [Int.toNat_of_nonneg h.1.1, Int.toNat_of_nonneg h.2.1] at this
  · rw [if_neg h] at hC
    subst hC
    exact cLofOut L i k w hL h
theorem dOfZ (L : List UInt8) (i k : Int) (w : World) (hL : L.length ≤ 1000000) (C : Nat) (hC : ofZ L i k = C) : Calls Try.prog 22 #[.string (sM L), .int .i64 i, .int .i64 k] w fun e w' => e = .returned (.int .i64 C) ∧ Below w.heap.size w w' := by
  unfold ofZ at hC
  by_cases h : (0 ≤ i ∧ i ≤ L.length) ∧ (0 ≤ k ∧ k ≤ L.length)
  · rw [if_pos h] at hC
    have := dOfIn L i.toNat k.toNat w hL (by omega) (by omega) C hC
    rwa [Int.toNat_of_nonneg h.1.1, Int.toNat_of_nonneg h.2.1] at this
  · rw [if_neg h] at hC
    subst hC
    exact dOfOut L i k w hL h
theorem cRowNo (L : List UInt8) (v : Value) (l : List Int) (w : World) (h : IsL w v l) (hl : l.length ≤ 1000000) (hL : L.length ≤ 100000) (hN : ¬ SufI L l) : Calls Try.prog 20 #[.string (sM L), v] w fun e w' => e = .returned (.slice none 0 0) ∧ Below w.heap.size w w' := by
  have CI := Lib.hid (isV L h hl hL false ⟨fun h => (by cases h), fun h => absurd h hN⟩)
  go_enter Try.func20, Try.ntmps20
  go_wp2_with fail
  refine CI.out.mono ?_; rintro e w1 ⟨rfl, hb⟩
  go_wp2_with fail
  go_ret
  exact ⟨rfl, hb⟩
theorem add0 (g i : Nat) : (⟨g, 0, none⟩ : Addr).add i = ⟨g, i, none⟩ := by unfold Addr.add; split <;> simp_all
set_option maxHeartbeats 3200000 in
theorem cRow (L : List UInt8) (v : Value) (a : List Nat) (w : World) (h : IsL w v (nI a)) (hs : IsSuf L a) (hL : L.length ≤ 10000) : Calls Try.prog 20 #[.string (sM L), v] w fun e w' => ∃ u, e = .returned u ∧ IsL w' u (nI (rowL L a)) ∧ Below w.heap.size w w' := by
  have hal := hs.len
  have hnl : (nI a).length = L.length := by rw [nI_len, hal]
  have CI := Lib.hid (isV L h (by omega) (by omega) true ⟨fun _ => ⟨a, hs, rfl⟩, fun _ => rfl⟩)
  obtain ⟨va, vc, rfl, hi⟩ := h
  have HI := Lib.hid hi
  have HS := Lib.hid hs
  have CR := Lib.hid (fun W (hW : IsInts W va (nI a)) => cRanks (nI a) va L.length vc W hW hnl (by omega))
  have CF := Lib.hid (fun W i p n (h1 : i ≤ L.length) (h2 : p ≤ L.length) C (hC : comAt L i p = C) (hn : n ≤ C) => cFrom L i p n W (by omega) h1 h2 C hC hn)
  obtain ⟨n, hn⟩ : ∃ n, L.length = n := ⟨_, rfl⟩
  rw [hnl, hn] at CI
  rw [hn] at CR CF hL
  have HN := Lib.hid hn
  have HAL := Lib.hid (hal.trans hn)
  have HRK := Lib.hid (suf_ranked (nI a) a n rfl (hal.trans hn) hs.nodup (fun x hx => by have := hs.lt x hx; omega)).2
  rw [hnl, hn]
  clear hi hs hn hal hnl
  go_enter Try.func20, Try.ntmps20
  go_wp2_with fail
  refine CI.out.mono ?_; rintro e w1 ⟨rfl, hb⟩
  have HI := Lib.hid (HI.out.kept hb)
  have HB := Lib.hid hb
  clear hb CI
  go_wp2_with fail
  refine (CR.out _ HI.out).mono ?_; rintro e w2 ⟨gr, rfl, hr, hb2⟩
  have HR := Lib.hid (show IsInts w2 (some ⟨gr, 0, none⟩) (ranksL (nI a)) by
    obtain ⟨a', c', e, h⟩ := hr.isL (by rw [ranksL_len, nI_len, HAL.out]; omega)
    injection e with e1 e2 e3; rw [e1]; exact h)
  have HI := Lib.hid (HI.out.kept hb2)
  have HB := Lib.hid (HB.out.trans (hb2.mono HB.out.size))
  clear hr hb2 CR
  go_wp2_with (refine make_int rfl _ _ rfl .i64 .i64 (n : Int) (n : Int) n rfl rfl rfl rfl (by omega) ?_; intro w3 ho3 hb3 hs3)
  obtain ⟨g, hg⟩ : ∃ g, w2.heap.size = g := ⟨_, rfl⟩
  have HO := Lib.hid ho3
  have HW := Lib.hid hb3
  have HG := Lib.hid hg
  rw [hg] at HO HW ⊢
  clear ho3 hb3 hs3 hg
  have HZ := Lib.hid (show ∀ j, j < n → (List.replicate n (0 : Int)).getD j 0 = 0 from fun j hj => by rw [List.getD_eq_getElem?_getD, List.getElem?_replicate, if_pos hj]; rfl)
  go_loopw [7, 20] (fun cv iv wr => ∃ (i c : Nat) (o : List Int), i ≤ n ∧ c ≤ 10000 ∧ iv = .int .i64 i ∧ cv = .int .i64 c ∧ Hid (∀ j, 0 < j → j < n → a.getD j 0 = i → c ≤ comAt L i (a.getD (j - 1) 0)) ∧ Hid (o.length = n ∧ ∀ j, j < n → (a.getD j 0 < i ∨ j = 0) → o.getD j 0 = ((rowL L a).getD j 0 : Nat)) ∧ Hid (OwnI g wr (.slice (some ⟨g, 0, none⟩) n n) o) ∧ Hid (Below g w2 wr)) (fun _ iv _ => n - (intOf iv).toNat)
  case atStart => exact ⟨0, 0, _, Nat.zero_le _, by decide, rfl, rfl, Lib.hid (fun _ _ _ _ => Nat.zero_le _), Lib.hid ⟨List.length_replicate, fun j hj h => by
    rw [HZ.out j hj, rowL_getD L a j (by rw [HAL.out]; exact hj)]
    rw [if_pos (by omega)]; rfl⟩, HO, HW⟩
  case round =>
    clear HO HW HZ
    obtain ⟨i, c, o, hi, hc6, rfl, rfl, HC, HT, HO, HW⟩ := hrel
    by_cases hlt : i < n
    · have hii : (i : Int) < n := by omega
      obtain ⟨j, hj, ej⟩ := List.getElem_of_mem (HS.out.mem i (by rw [HN.out]; exact hlt))
      have hjn : j < n := by rw [← HAL.out]; exact hj
      have gj : a.getD j 0 = i := by rw [List.getD_eq_getElem?_getD, List.getElem?_eq_getElem hj, Option.getD_some, ej]
      have hWg : Below w2.heap.size w2 wr := by rw [HG.out]; exact HW.out
      obtain ⟨x, ex, hxb, hcr⟩ := (HR.out.kept hWg).at i (by rw [ranksL_len, nI_len, HAL.out]; exact hlt)
      injection ex with ex
      subst ex
      have cr := hcr i (by rw [ranksL_len, nI_len, HAL.out]; exact hlt)
      rw [ranksL_getD (nI a) i (by rw [nI_len, HAL.out]; exact hlt)] at cr
      have hrk := HRK.out j hjn
      rw [gj] at hrk
      rw [nI_len, HAL.out, hrk, add0] at cr
      have hxb : gr < wr.heap.size := hxb
      have hGJ := Lib.hid gj
      clear hcr ej hj hrk gj
      by_cases hj0 : j = 0
      · subst hj0
        have HT2 := Lib.hid (show o.length = n ∧ ∀ j, j < n → (a.getD j 0 < i + 1 ∨ j = 0) → o.getD j 0 = ((rowL L a).getD j 0 : Nat) from ⟨HT.out.1, fun j hj h => by
          by_cases f : j = 0
          · exact HT.out.2 j hj (.inr f)
          · refine HT.out.2 j hj (.inl ?_)
            have hne := pw_getD HS.out.nodup 0 j (by omega) (by rw [HAL.out]; exact hj)
            rw [hGJ.out] at hne
            omega⟩)
        go_wp2_with fail
        go_roundw
        case rel => exact ⟨i + 1, 0, o, by omega, by decide, by go_num, rfl, Lib.hid (fun _ _ _ _ => Nat.zero_le _), HT2, HO, HW⟩
        case measure => simp [intOf] <;> omega
      · obtain ⟨z, hz⟩ : ∃ z, j - 1 = z := ⟨_, rfl⟩
        have hzi : (j : Int) - 1 = (z : Int) := by omega
        have hzn : (z : Int) < n := by omega
        have hji : (j : Int) < n := by omega
        have hj0i : ((j : Int) == 0) = false := by rw [beq_eq_false_iff_ne]; omega
        obtain ⟨y, rfl, hyb, hcy⟩ := (HI.out.kept hWg).at z (by rw [nI_len, HAL.out]; omega)
        have cy := hcy z (by rw [nI_len, HAL.out]; omega)
        have hg2 : (nI a).getD z 0 = ((a.getD z 0 : Nat) : Int) := mapN_getD a z (by rw [HAL.out]; omega)
        rw [hg2] at cy
        have hpl := HS.out.lt _ (getD_mem a z (by rw [HAL.out]; omega))
        rw [HN.out] at hpl
        obtain ⟨p, hp⟩ : ∃ p, a.getD z 0 = p := ⟨_, rfl⟩
        rw [hp] at cy hpl
        obtain ⟨C, hC⟩ : ∃ C, comAt L i p = C := ⟨_, rfl⟩
        have hcC : c ≤ C := by have := HC.out j (by omega) hjn hGJ.out; rw [hz, hp, hC] at this; exact this
        have hC6 : C ≤ 10000 := by have := (comAt_le L i p).1; have := HN.out; omega
        have CF1 := Lib.hid (fun W => CF.out W i p c (by omega) (by omega) C hC hcC)
        have HC2 := Lib.hid (show ∀ j', 0 < j' → j' < n → a.getD j' 0 = i + 1 → C - 1 ≤ comAt L (i + 1) (a.getD (j' - 1) 0) from fun j' h1 h2 h3 => by
          have := kasai HS.out j j' (by omega) (by rw [HAL.out]; exact hjn) h1 (by rw [HAL.out]; exact h2) (by rw [h3, hGJ.out])
          rw [h3, hGJ.out, hz, hp, hC] at this
          exact this)
        have HT2 := Lib.hid (show (o.set j (C : Int)).length = n ∧ ∀ q, q < n → (a.getD q 0 < i + 1 ∨ q = 0) → (o.set j (C : Int)).getD q 0 = ((rowL L a).getD q 0 : Nat) from ⟨by rw [List.length_set]; exact HT.out.1, fun q hq h => by
          rw [set_getD _ _ _ _ (by rw [HT.out.1]; exact hjn)]
          by_cases f : j = q
          · subst f
            rw [if_pos rfl, rowL_getD L a j (by rw [HAL.out]; exact hjn), if_neg hj0, hz, hp, hGJ.out, comAt_sym, hC]
          · rw [if_neg f]
            refine HT.out.2 q hq ?_
            by_cases f2 : q = 0
            · exact .inr f2
            · left
              have hne : a.getD q 0 ≠ a.getD j 0 := by
                rcases Nat.lt_trichotomy q j with g | g | g
                · exact pw_getD HS.out.nodup q j g (by rw [HAL.out]; exact hjn)
                · exact absurd g.symm f
                · exact (pw_getD HS.out.nodup j q g (by rw [HAL.out]; exact hq)).symm
              rw [hGJ.out] at hne
              omega⟩)
        have hHO := Lib.hid (fun W (hW : Below w2.heap.size w2 W) => True.intro)
        have co := HO.out.int_cell j (by rw [HT.out.1]; exact hjn)
        have lo := (HO.out.lt _ rfl).2
        clear hcy hg2 hp hC hz hWg hHO
        go_wp2_with fail
        refine (CF1.out _).mono ?_; rintro e w5 ⟨rfl, hb5⟩
        have HO5 := Lib.hid (HO.out.kept hb5)
        have cr5 := (hb5.cell (p := ⟨gr, i, none⟩) hxb).trans cr
        have hxb5 : gr < w5.heap.size := Nat.lt_of_lt_of_le hxb hb5.size
        have lo5 : g < w5.heap.size := Nat.lt_of_lt_of_le lo hb5.size
        have HW5 := Lib.hid (HW.out.trans (hb5.mono (by have := HW.out.size; have := HG.out; omega)))
        clear hb5 CF1 cr hxb lo cy hyb co
        have co := HO5.out.int_cell j (by rw [HT.out.1]; exact hjn)
        have fo := HO5.out.free j
        obtain ⟨D, hD⟩ : ∃ D, C - 1 = D := ⟨_, rfl⟩
        have hm1 : (if (C : Int) - 1 < 0 then (0 : Int) else (C : Int) - 1) = (D : Int) := by split <;> omega
        have hm2 : (if C < 1 then (0 : Int) else (C : Int) - 1) = (D : Int) := by split <;> omega
        have HD := Lib.hid hD
        have HO6 := Lib.hid (HO5.out.set_int j (C : Int) (by rw [HT.out.1]; exact hjn))
        have HW6 := Lib.hid (HW5.out.setCell (p := ⟨g, j, none⟩) (Nat.le_refl _) (.int .i64 (C : Int)))
        clear hD
        go_wp2_with fail
        go_roundw
        case rel => exact ⟨i + 1, D, _, by omega, by have := HD.out; omega, by go_num, rfl, by rw [← HD.out]; exact HC2, HT2, HO6, HW6⟩
        case measure => simp [intOf] <;> omega
    · obtain rfl : i = n := by omega
      have e : o = nI (rowL L a) := listI_ext _ _ (by rw [HT.out.1, nI_len, rowL_len, HAL.out]) (fun j hj => by
        rw [HT.out.1] at hj
        rw [HT.out.2 j hj (.inl (by rw [← HN.out]; exact HS.out.lt _ (getD_mem a j (by rw [HAL.out]; exact hj))))]
        exact (mapN_getD (rowL L a) j (by rw [rowL_len, HAL.out]; exact hj)).symm)
      have HO9 := Lib.hid (show IsL wr (.slice (some ⟨g, 0, none⟩) i i) (nI (rowL L a)) by rw [← e]; exact HO.out.isL (by rw [HT.out.1]; omega))
      clear e
      go_wp2_with fail
      go_ret
      exact ⟨_, rfl, HO9.out, HB.out.trans (HW.out.mono (by rw [← HG.out]; exact HB.out.size))⟩
end Go.Proofs.Ytpkidedepcnoaaa
