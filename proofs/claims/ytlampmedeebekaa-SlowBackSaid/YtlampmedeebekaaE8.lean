/- Layer 9: Encode. -/
import Derived.Test.YtlampmedeebekaaE7
namespace Go.Proofs.Ytlampmedeebekaa
open Go.ChangeShapes Go.WideShapes Go.ChangeAt Go.RowKit
set_option linter.unusedVariables false
set_option linter.unusedSimpArgs false
set_option maxRecDepth 100000
open KraftMath CanonMath
/-- May the number be encoded? -/
def goodS (l : List Int) (x : Int) : Bool := decide (0 ≤ x) && decide (x < l.length) && decide (l.getD x.toNat 0 ≠ 0)
def bitsS (l : List Int) (x : Int) : List Bool := msb (code l x.toNat) (len l x.toNat)
def encT (l syms : List Int) : List Bool := syms.flatMap (bitsS l)
def encL (l syms : List Int) : List Bool × Int := if check l 16 ≠ 0 then ([], check l 16) else if syms.all (goodS l) then (encT l syms, 0) else ([], 7)
theorem encT_take (l syms : List Int) (k : Nat) (h : k < syms.length) : encT l (syms.take (k + 1)) = encT l (syms.take k) ++ bitsS l (syms.getD k 0) := by
  rw [take_getD syms k h]; simp [encT]
theorem all_take (l syms : List Int) (k : Nat) (h : k < syms.length) (h1 : (syms.take k).all (goodS l) = true) (h2 : goodS l (syms.getD k 0) = true) : (syms.take (k + 1)).all (goodS l) = true := by
  rw [take_getD syms k h, List.all_append, h1]; simp only [List.all_cons, List.all_nil, h2]; rfl
theorem all_bad (l syms : List Int) (k : Nat) (h : k < syms.length) (h2 : goodS l (syms.getD k 0) = false) : syms.all (goodS l) = false := by
  rw [← Bool.not_eq_true]
  intro h3
  have := List.all_eq_true.1 h3 (syms.getD k 0) (by simp [List.getD_eq_getElem?_getD, h])
  rw [h2] at this; cases this
theorem encT_len {l : List Int} (h : check l 16 = 0) (syms : List Int) (hg : syms.all (goodS l) = true) : (encT l syms).length ≤ 16 * syms.length := by
  induction syms with
  | nil => simp [encT]
  | cons x t ih =>
    rw [List.all_cons, Bool.and_eq_true] at hg
    have := ih hg.2
    have e : encT l (x :: t) = bitsS l x ++ encT l t := by simp [encT]
    rw [e, List.length_append, List.length_cons]
    have h2 : (bitsS l x).length ≤ 16 := by
      unfold bitsS
      rw [msb_len]
      have hx := hg.1
      unfold goodS at hx
      simp only [Bool.and_eq_true, decide_eq_true_eq] at hx
      exact (ok_b h x.toNat (by omega)).2
    omega
theorem msb_part (c n k : Nat) (hk : k + 1 ≤ n) : (msb c n).take (n - (k + 1)) ++ [c / 2 ^ k % 2 == 1] = (msb c n).take (n - k) := by
  have h1 := takeB (msb c n) (n - (k + 1)) (by rw [msb_len]; omega)
  rw [show n - (k + 1) + 1 = n - k by omega] at h1
  rw [h1]
  congr 2
  have h2 := msb_drop c n (k + 1) hk
  rw [dropB _ _ (by rw [msb_len]; omega), msb] at h2
  exact (List.cons.inj h2).1.symm
set_option maxHeartbeats 3200000 in
theorem sEncode9 (a b : Option Addr) (ca cb : Nat) (l syms : List Int) (w : World) (h1 : IsInts w a l) (h2 : IsInts w b syms) (hs : syms.length ≤ 1000) (S : List Bool) (E : Int) (hR : encL l syms = (S, E)) :
    Calls Try.prog 18 #[.slice a l.length ca, .slice b syms.length cb] w fun e w' => ∃ v, e = .returned (.tuple #[v, .int .i64 E]) ∧ OwnB w.heap.size w' v S ∧ Below w.heap.size w w' := by
  have C1 := Lib.hid (cCodes a ca l w h1)
  by_cases hE : check l 16 = 0
  · have HCL := Lib.hid (codes_len (l := l) hE)
    have HBAD := Lib.hid (show syms.all (goodS l) = false → S = [] ∧ E = 7 by
      intro h
      unfold encL at hR
      rw [if_neg (by simp [hE]), h, if_neg (by decide)] at hR
      injection hR with e1 e2
      exact ⟨e1.symm, e2.symm⟩)
    have HGOOD := Lib.hid (show syms.all (goodS l) = true → S = encT l syms ∧ E = 0 by
      intro h
      unfold encL at hR
      rw [if_neg (by simp [hE]), h, if_pos rfl] at hR
      injection hR with e1 e2
      exact ⟨e1.symm, e2.symm⟩)
    have HCA := Lib.hid (fun s hs => codes_at (l := l) hE (s := s) hs)
    have HLI := Lib.hid (fun s hs => lenI (l := l) hE (s := s) hs)
    have HLB := Lib.hid (fun s hs => ok_b (l := l) hE s hs)
    have HCB := Lib.hid (fun s hs => ok_c (l := l) hE (s := s) hs)
    have HTL := Lib.hid (fun t hg => encT_len (l := l) hE t hg)
    have G1 := Lib.hid h1; have G2 := Lib.hid h2
    rw [hE] at C1
    have hll := h1.1
    clear hE hR h1 h2
    go_enter Try.func18, Try.ntmps18
    go_wp2_with fail
    refine C1.out.mono ?_; rintro e w1 ⟨v1, rfl, hI1, hb1⟩
    obtain ⟨cc, cd, rfl, hI1⟩ := hI1
    rw [HCL.out]
    have HI := Lib.hid hI1
    have HB := Lib.hid hb1
    have HG1 := Lib.hid (G1.out.kept hb1)
    have HG2 := Lib.hid (G2.out.kept hb1)
    clear hI1 hb1
    go_wp2_with fail
    go_loopw [8, 22] (fun u i wr => ∃ k : Nat, k ≤ syms.length ∧ i = .int .i64 k ∧ Hid ((syms.take k).all (goodS l) = true) ∧ OwnB w1.heap.size wr u (encT l (syms.take k)) ∧ Below w1.heap.size w1 wr) (fun _ i _ => syms.length - (intOf i).toNat)
    case atStart => exact ⟨0, Nat.zero_le _, rfl, Lib.hid (by simp), by simpa [encT] using OwnS.nil, Below.refl _ _⟩
    case round =>
      obtain ⟨k, hk, rfl, hgd, hown, hb⟩ := hrel
      obtain ⟨wo, hwo⟩ : ∃ wo : World, wo = wr := ⟨_, rfl⟩
      subst hwo
      by_cases hlt : k < syms.length
      · have hgs := HG2.out.kept hb
        obtain ⟨x, rfl, hxb, cx0⟩ := hgs.at k hlt
        have cx := cx0 k hlt
        have HNT := Lib.hid (encT_take l syms k hlt)
        have HAT := Lib.hid (fun h2 => all_take l syms k hlt hgd.out h2)
        have HAB := Lib.hid (fun h2 => HBAD.out (all_bad l syms k hlt h2))
        have HTLk := Lib.hid (HTL.out _ hgd.out)
        obtain ⟨Z, hZ⟩ : ∃ Z, syms.getD k 0 = Z := ⟨_, rfl⟩
        rw [hZ] at cx HNT HAT HAB
        have HGS := Lib.hid (show goodS l Z = (decide (0 ≤ Z) && decide (Z < l.length) && decide (l.getD Z.toNat 0 ≠ 0)) from rfl)
        have HBO := Lib.hid hb
        have HOW := Lib.hid hown
        clear hZ cx0 hgs hb hown
        by_cases hz1 : Z < 0
        · obtain ⟨rfl, rfl⟩ := HAB.out (by rw [HGS.out]; simp; omega)
          have HBF := Lib.hid (HB.out.trans (HBO.out.mono HB.out.size))
          have hd1 : decide (Z < 0) = true := by simpa using hz1
          clear HAB
          go_wp2_with fail
          go_ret2
          exact ⟨_, rfl, OwnS.nil, HBF.out⟩
        · obtain ⟨s, rfl⟩ : ∃ s : Nat, Z = s := ⟨Z.toNat, by omega⟩
          have hd1 : decide ((s : Int) < 0) = false := by simp
          by_cases hz2 : s < l.length
          · have hd2 : decide ((l.length : Int) ≤ (s : Int)) = false := by simp; omega
            have hgl := HG1.out.kept HBO.out
            have hgc := HI.out.kept HBO.out
            obtain ⟨y, rfl, hyb, cy0⟩ := hgl.at s hz2
            have cy := cy0 s hz2
            have hLs := HLI.out s hz2
            rw [hLs] at cy
            rw [Int.toNat_natCast, hLs] at HGS
            by_cases hz3 : len l s = 0
            · obtain ⟨rfl, rfl⟩ := HAB.out (by rw [HGS.out, hz3]; simp)
              have HBF := Lib.hid (HB.out.trans (HBO.out.mono HB.out.size))
              rw [hz3] at cy
              clear HAB cy0 hgl hgc hLs
              go_wp2_with fail
              go_ret2
              exact ⟨_, rfl, OwnS.nil, HBF.out⟩
            · have hne : (((len l s : Nat) : Int) == 0) = false := by rw [beq_eq_false_iff_ne]; omega
              obtain ⟨z, rfl, hzb, cz0⟩ := HI.out.at s (by rw [HCL.out]; exact hz2)
              have hzb2 : (z.add s).block < w1.heap.size := by rw [add_block]; exact hzb
              have cz := (HBO.out.cell hzb2).trans (cz0 s (by rw [HCL.out]; exact hz2))
              rw [HCA.out s hz2] at cz
              have HAT2 := Lib.hid (HAT.out (by rw [HGS.out]; simp; omega))
              have hL16 := (HLB.out s hz2).2
              have hC := HCB.out s hz2
              have hBS : bitsS l (s : Int) = msb (code l s) (len l s) := by unfold bitsS; rw [Int.toNat_natCast]
              rw [hBS] at HNT
              obtain ⟨PRE, hPRE⟩ : ∃ PRE, encT l (syms.take k) = PRE := ⟨_, rfl⟩
              rw [hPRE] at HNT HOW HTLk
              obtain ⟨L, hL⟩ : ∃ L, len l s = L := ⟨_, rfl⟩
              obtain ⟨C, hCC⟩ : ∃ C, code l s = C := ⟨_, rfl⟩
              rw [hL] at cy hne hL16 hC HNT hz3
              rw [hCC] at cz hC HNT
              have hC60 : C < 2 ^ 60 := Nat.lt_of_lt_of_le hC (Nat.pow_le_pow_right (by decide) (by omega))
              have HBIT := Lib.hid (fun k (hk : k < 61) => shr_and C k hC60 hk)
              have HPL := Lib.hid (show PRE.length ≤ 16000 by
                have h1 := HTLk.out
                have h2 : (syms.take k).length ≤ 1000 := by rw [List.length_take]; omega
                omega)
              clear cy0 cz0 hgl hgc hLs hBS hL hCC hC hC60 hPRE
              have hs0 : (0 : Int) ≤ (s : Int) := by omega
              have hs1 : (s : Int) < (l.length : Int) := by omega
              go_wp2_with fail
              go_loopw [8, 11] (fun u i wr => ∃ j : Nat, j ≤ L ∧ i = .int .i64 ((j : Int) - 1) ∧ OwnB w1.heap.size wr u (PRE ++ (msb C L).take (L - j)) ∧ wr.cell? (z.add s) = some (.int .i64 C) ∧ Below w1.heap.size w1 wr) (fun _ i _ => (intOf i + 1).toNat)
              case atStart => exact ⟨L, Nat.le_refl _, rfl, by rw [Nat.sub_self, List.take_zero, List.append_nil]; exact HOW.out, cz, HBO.out⟩
              case round =>
                obtain ⟨j, hj, rfl, hown, cz, hb⟩ := hrel
                rcases j with _ | j
                · have HT := Lib.hid (show (msb C L).take (L - 0) = msb C L by rw [List.take_of_length_le (by rw [msb_len]; omega)])
                  rw [HT.out, ← HNT.out] at hown
                  have HO2 := Lib.hid hown; have HB2 := Lib.hid hb
                  clear hown hb
                  go_wp2_with fail
                  go_roundw
                  case rel => exact ⟨k + 1, by omega, by go_num, HAT2, HO2.out, HB2.out⟩
                  case measure => simp [intOf]; omega
                · have HN := Lib.hid (show PRE ++ (msb C L).take (L - (j + 1)) ++ [C / 2 ^ j % 2 == 1] = PRE ++ (msb C L).take (L - j) by rw [List.append_assoc, msb_part C L j hj])
                  have hbit := HBIT.out j (by omega)
                  have hbs := hb.size
                  have HLn := Lib.hid (show (PRE ++ (msb C L).take (L - (j + 1))).length ≤ 1099511627776 by rw [List.length_append, List.length_take, msb_len]; have := HPL.out; omega)
                  have HBs := Lib.hid hbs
                  have hk1 : ((j + 1 : Nat) : Int) - 1 = j := by omega
                  rw [hk1]
                  clear hk1
                  obtain ⟨BT, hBT⟩ : ∃ BT, (C / 2 ^ j % 2 == 1) = BT := ⟨_, rfl⟩
                  rw [hBT] at HN hbit
                  clear hBT
                  have hown_ := Lib.hid hown
                  have hb_ := Lib.hid hb
                  clear hown hb
                  go_wp2_with (at_builtin; refine app_bool rfl _ _ rfl _ _ _ _ BT rfl hown_.out _ 1 rfl rfl HLn.out HBs.out ?_; intro v2 w2 hown2 hb2 hg2)
                  rw [HN.out] at hown2
                  have cz2 := (hb2.cell hzb2).trans cz
                  have HO3 := Lib.hid hown2
                  have HB3 := Lib.hid (hb_.out.trans hb2)
                  clear hb2 hg2 hown2
                  go_wp2_with fail
                  go_roundw
                  case rel => exact ⟨j, by omega, by go_num, HO3.out, cz2, HB3.out⟩
                  case measure => simp [intOf]
          · obtain ⟨rfl, rfl⟩ := HAB.out (by rw [HGS.out]; simp; omega)
            have HBF := Lib.hid (HB.out.trans (HBO.out.mono HB.out.size))
            have hd2 : decide ((l.length : Int) ≤ (s : Int)) = true := by simp; omega
            clear HAB
            go_wp2_with fail
            go_ret2
            exact ⟨_, rfl, OwnS.nil, HBF.out⟩
      · obtain rfl : k = syms.length := by omega
        have hT := hgd.out
        rw [List.take_length] at hT hown
        obtain ⟨rfl, rfl⟩ := HGOOD.out hT
        have HO2 := Lib.hid (hown.base HB.out.size)
        have HBF := Lib.hid (HB.out.trans (hb.mono HB.out.size))
        clear hown hb hT HGOOD HBAD
        go_wp2_with fail
        go_ret2
        exact ⟨_, rfl, HO2.out, HBF.out⟩
  · have hR2 : S = [] ∧ E = check l 16 := by
      unfold encL at hR
      rw [if_pos hE] at hR
      injection hR with e1 e2
      exact ⟨e1.symm, e2.symm⟩
    obtain ⟨rfl, rfl⟩ := hR2
    clear hR h1 h2
    obtain ⟨CE, hCE⟩ : ∃ CE, check l 16 = CE := ⟨_, rfl⟩
    rw [hCE] at hE C1 ⊢
    have hne : (CE != 0) = true := by rw [bne_iff_ne]; exact hE
    clear hCE
    go_enter Try.func18, Try.ntmps18
    go_wp2_with fail
    refine C1.out.mono ?_; rintro e w1 ⟨v1, rfl, hI1, hb1⟩
    have HB := Lib.hid hb1
    clear hI1 hb1
    go_wp2_with fail
    go_ret2
    exact ⟨_, rfl, OwnS.nil, HB.out⟩
end Go.Proofs.Ytlampmedeebekaa
