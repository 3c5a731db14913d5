/- Layer 9: the document's Encode. -/
import Derived.Test.YtlampmedeebekaaE8
namespace Go.Proofs.Ytlampmedeebekaa
open Go.ChangeShapes Go.WideShapes Go.ChangeAt Go.RowKit
set_option linter.unusedVariables false
set_option linter.unusedSimpArgs false
set_option maxRecDepth 100000
open KraftMath CanonMath
/-- append of a row of bools to a row of the call's own, as a step of a region that draws. -/
theorem step_rowB {ops : Array Oper} {o : Oper} {a : Act} {W : World} {K : Act → World → Prop} {Q : Exit → Act → World → Prop} {R : Prop} (hgd : o.guard = none) (s x : Operand)
    (ho : o.op = .call { callee := .builtin .append, args := #[s, x], argTypes := #[23, 23] })
    (B : Nat) (v : Value) (l ys : List Bool) (hs : a.eval s = v) (hown : OwnB B W v l) (va : Option Addr) (m c : Nat) (hx : a.eval x = .slice va m c) (hm : m = ys.length) (hys : IsBoo W va ys) (hpos : 1 ≤ ys.length) (hl : l.length + ys.length ≤ 1000000) (hB : B ≤ W.heap.size)
    (h : ∀ v' w', OwnB B w' v' (l ++ ys) → Below B W w' → K (a.put o.dst v') w') : if Region.wanted o (yielded ops a.tmps) = true then Oper.wp Try.prog o a W K Q else R := by
  obtain ⟨i0, hi, h1, h2, h3⟩ := info_get info_bool
  obtain ⟨ad, rfl, -, -⟩ := hys.at 0 hpos
  have hc : ∀ j, j < ys.length → W.cell? (ad.add j) = some (.bool (ys.getD j false)) := by
    intro j hj
    obtain ⟨ad', e, -, hc⟩ := hys.at j hj
    injection e with e; subst e; exact hc
  have hf : ∀ q : List Bool, q.flatMap fB = q.map Value.bool := by
    intro q
    induction q with
    | nil => rfl
    | cons z q ih => rw [List.flatMap_cons, ih]; rfl
  subst hm
  refine step_append_at hgd s x 23 ho B 4 i0 (.bool false) 1 Try.underlying23 hi h1 h2 h3 rfl v l.length (l.flatMap fB) hs hown ad ys.length c (ys.map Value.bool) hx (by simp) ?_ (by intro u hu; obtain ⟨z, -, rfl⟩ := List.mem_map.1 hu; rfl) (by unfold maxLen; omega) (by omega) hB hpos ?_
  · intro j u hj
    rw [List.getElem?_map] at hj
    cases hq : ys[j]? with
    | none => rw [hq] at hj; simp at hj
    | some z =>
      rw [hq] at hj
      have hlt := (List.getElem?_eq_some_iff.1 hq).1
      simp only [Option.map_some, Option.some.injEq] at hj
      rw [hc j hlt, ← hj]
      simp [List.getD_eq_getElem?_getD, hq]
  · intro k cap w' ho' hg' hk
    refine h _ w' ?_ ?_
    · unfold OwnB OwnS
      rw [List.flatMap_append, hf ys, List.length_append]
      exact ho'
    · exact (Below.refl _ _).grown hg' hB (fun j hj => (World.ownsRow.lt hown j hj).1)
set_option maxHeartbeats 3200000 in
theorem dEncode9 (a b : Option Addr) (ca cb : Nat) (l syms : List Int) (w : World) (h1 : IsInts w a l) (h2 : IsInts w b syms) (hl0 : l.length ≤ 1000) (hs : syms.length ≤ 1000) (S : List Bool) (E : Int) (hR : encL l syms = (S, E)) :
    Calls Try.prog 19 #[.slice a l.length ca, .slice b syms.length cb] w fun e w' => ∃ v, e = .returned (.tuple #[v, .int .i64 E]) ∧ OwnB w.heap.size w' v S ∧ Below w.heap.size w w' := by
  have C1 := Lib.hid (rCodes a ca l w h1 (by omega))
  by_cases hE : check l 16 = 0
  · have HCL := Lib.hid (codes_len (l := l) hE)
    have HBAD := Lib.hid (show syms.all (goodS l) = false → S = [] ∧ E = 7 by
      intro h
      unfold encL at hR
      rw [if_neg (by simp [hE]), h, if_neg (by decide)] at hR
      injection hR with e1 e2
      exact ⟨e1.symm, e2.symm⟩)
    have HGOOD := Lib.hid (show syms.all (goodS l) = true → S = encT l syms ∧ E = 0 by
      intro h
      unfold encL at hR
      rw [if_neg (by simp [hE]), h, if_pos rfl] at hR
      injection hR with e1 e2
      exact ⟨e1.symm, e2.symm⟩)
    have HCA := Lib.hid (fun s hs => codes_at (l := l) hE (s := s) hs)
    have HLI := Lib.hid (fun s hs => lenI (l := l) hE (s := s) hs)
    have HLB := Lib.hid (fun s hs => ok_b (l := l) hE s hs)
    have HCB := Lib.hid (fun s hs => ok_c (l := l) hE (s := s) hs)
    have HTL := Lib.hid (fun t hg => encT_len (l := l) hE t hg)
    have G1 := Lib.hid h1; have G2 := Lib.hid h2
    rw [hE] at C1
    have hll := h1.1
    clear hE hR h1 h2
    go_enter Try.func19, Try.ntmps19
    go_wp2_with fail
    refine C1.out.mono ?_; rintro e w1 ⟨v1, rfl, hI1, hb1⟩
    obtain ⟨cc, cd, rfl, hI1⟩ := hI1
    rw [HCL.out]
    have HI := Lib.hid hI1
    have HB := Lib.hid hb1
    have HG1 := Lib.hid (G1.out.kept hb1)
    have HG2 := Lib.hid (G2.out.kept hb1)
    clear hI1 hb1
    go_wp2_with fail
    go_loopw [8, 9] (fun u i wr => ∃ k : Nat, k ≤ syms.length ∧ i = .int .i64 k ∧ Hid ((syms.take k).all (goodS l) = true) ∧ OwnB w1.heap.size wr u (encT l (syms.take k)) ∧ Below w1.heap.size w1 wr) (fun _ i _ => syms.length - (intOf i).toNat)
    case atStart => exact ⟨0, Nat.zero_le _, rfl, Lib.hid (by simp), by simpa [encT] using OwnS.nil, Below.refl _ _⟩
    case round =>
      obtain ⟨k, hk, rfl, hgd, hown, hb⟩ := hrel
      obtain ⟨wo, hwo⟩ : ∃ wo : World, wo = wr := ⟨_, rfl⟩
      subst hwo
      by_cases hlt : k < syms.length
      · have hgs := HG2.out.kept hb
        obtain ⟨x, rfl, hxb, cx0⟩ := hgs.at k hlt
        have cx := cx0 k hlt
        have HNT := Lib.hid (encT_take l syms k hlt)
        have HAT := Lib.hid (fun h2 => all_take l syms k hlt hgd.out h2)
        have HAB := Lib.hid (fun h2 => HBAD.out (all_bad l syms k hlt h2))
        have HTLk := Lib.hid (HTL.out _ hgd.out)
        obtain ⟨Z, hZ⟩ : ∃ Z, syms.getD k 0 = Z := ⟨_, rfl⟩
        rw [hZ] at cx HNT HAT HAB
        have HGS := Lib.hid (show goodS l Z = (decide (0 ≤ Z) && decide (Z < l.length) && decide (l.getD Z.toNat 0 ≠ 0)) from rfl)
        have HBO := Lib.hid hb
        have HOW := Lib.hid hown
        clear hZ cx0 hgs hb hown
        by_cases hz1 : Z < 0
        · obtain ⟨rfl, rfl⟩ := HAB.out (by rw [HGS.out]; simp; omega)
          have HBF := Lib.hid (HB.out.trans (HBO.out.mono HB.out.size))
          have hd1 : decide (Z < 0) = true := by simpa using hz1
          clear HAB
          go_wp2_with fail
          go_ret2
          exact ⟨_, rfl, OwnS.nil, HBF.out⟩
        · obtain ⟨s, rfl⟩ : ∃ s : Nat, Z = s := ⟨Z.toNat, by omega⟩
          have hd1 : decide ((s : Int) < 0) = false := by simp
          by_cases hz2 : s < l.length
          · have hd2 : decide ((l.length : Int) ≤ (s : Int)) = false := by simp; omega
            have hgl := HG1.out.kept HBO.out
            have hgc := HI.out.kept HBO.out
            obtain ⟨y, rfl, hyb, cy0⟩ := HG1.out.at s hz2
            have hyb2 : (y.add s).block < w1.heap.size := by rw [add_block]; exact hyb
            have cy := (HBO.out.cell hyb2).trans (cy0 s hz2)
            have hLs := HLI.out s hz2
            rw [hLs] at cy
            rw [Int.toNat_natCast, hLs] at HGS
            by_cases hz3 : len l s = 0
            · obtain ⟨rfl, rfl⟩ := HAB.out (by rw [HGS.out, hz3]; simp)
              have HBF := Lib.hid (HB.out.trans (HBO.out.mono HB.out.size))
              rw [hz3] at cy
              clear HAB cy0 hgl hgc hLs
              go_wp2_with fail
              go_ret2
              exact ⟨_, rfl, OwnS.nil, HBF.out⟩
            · have hne : (((len l s : Nat) : Int) == 0) = false := by rw [beq_eq_false_iff_ne]; omega
              obtain ⟨z, rfl, hzb, cz0⟩ := HI.out.at s (by rw [HCL.out]; exact hz2)
              have hzb2 : (z.add s).block < w1.heap.size := by rw [add_block]; exact hzb
              have cz := (HBO.out.cell hzb2).trans (cz0 s (by rw [HCL.out]; exact hz2))
              rw [HCA.out s hz2] at cz
              have HAT2 := Lib.hid (HAT.out (by rw [HGS.out]; simp; omega))
              have hL16 := (HLB.out s hz2).2
              have hC := HCB.out s hz2
              have hBS : bitsS l (s : Int) = msb (code l s) (len l s) := by unfold bitsS; rw [Int.toNat_natCast]
              rw [hBS] at HNT
              obtain ⟨PRE, hPRE⟩ : ∃ PRE, encT l (syms.take k) = PRE := ⟨_, rfl⟩
              rw [hPRE] at HNT HOW HTLk
              obtain ⟨L, hL⟩ : ∃ L, len l s = L := ⟨_, rfl⟩
              obtain ⟨C, hCC⟩ : ∃ C, code l s = C := ⟨_, rfl⟩
              rw [hL] at cy hne hL16 hC HNT hz3
              rw [hCC] at cz hC HNT
              have hC60 : C < 2 ^ 60 := Nat.lt_of_lt_of_le hC (Nat.pow_le_pow_right (by decide) (by omega))
              have CM := Lib.hid (fun W => dMsb C L (by omega) hC60 W)
              have HPL := Lib.hid (show PRE.length ≤ 16000 by
                have h1 := HTLk.out
                have h2 : (syms.take k).length ≤ 1000 := by rw [List.length_take]; omega
                omega)
              have hyw : (y.add s).block < wo.heap.size := by have := HBO.out.size; omega
              have hzw : (z.add s).block < wo.heap.size := by have := HBO.out.size; omega
              clear cy0 cz0 hgl hgc hLs hBS hL hCC hC hC60 hPRE
              have hs0 : (0 : Int) ≤ (s : Int) := by omega
              have hs1 : (s : Int) < (l.length : Int) := by omega
              have hBo := HBO.out.size
              go_wp2_with fail
              have HL1 := Lib.hid (show 1 ≤ (msb C L).length by rw [msb_len]; omega)
              have HL2 := Lib.hid (show PRE.length + (msb C L).length ≤ 1000000 by rw [msb_len]; have := HPL.out; omega)
              have HC2 := Lib.hid (show wo.cell? (z.add s) = some (.int .i64 C) ∧ wo.cell? (y.add s) = some (.int .i64 L) from ⟨cz, cy⟩)
              go_region_held3 (fun w2 => w2.cell? (z.add s) = some (.int .i64 C) ∧ w2.cell? (y.add s) = some (.int .i64 L)) (first | exact HC2.out | exact ⟨(hb5.cell hzw).trans HC2.out.1, (hb5.cell hyw).trans HC2.out.2⟩ | exact ⟨(hb6.cell hzb2).trans ((hb5.cell hzw).trans HC2.out.1), (hb6.cell hyb2).trans ((hb5.cell hyw).trans HC2.out.2)⟩ | fail) (first | ((go_at_call 56; refine (CM.out _).mono ?_; rintro e w5 ⟨v5, rfl, ho5, hb5⟩; obtain ⟨va, vc, rfl, hi5⟩ := ho5.isB; have hsz5 : wo.heap.size ≤ w5.heap.size := hb5.size)) | ((refine step_rowB rfl (.tmp 44) (.tmp 53) (by rfl) w1.heap.size _ PRE (msb C L) (by rfl) (OwnS.kept HOW.out ((Below.refl _ wo).drew.trans hb5)) va _ vc (by rfl) rfl hi5 HL1.out HL2.out (Nat.le_trans hBo hsz5) ?_; intro v6 w6 ho6 hb6)) | fail)
              all_goals
                have HO6 := Lib.hid (show OwnB w1.heap.size w6 v6 (encT l (syms.take (k + 1))) by rw [HNT.out]; exact ho6)
                have HB6 := Lib.hid (HBO.out.trans (((Below.refl _ wo).drew.trans hb5).mono hBo |>.trans hb6))
                clear ho6 hb6 hb5 hi5 ho5
                go_wp2_with fail
                go_roundw
                case rel => exact ⟨k + 1, by omega, by go_num, HAT2, HO6.out, HB6.out⟩
                case measure => simp [intOf]; omega
          · obtain ⟨rfl, rfl⟩ := HAB.out (by rw [HGS.out]; simp; omega)
            have HBF := Lib.hid (HB.out.trans (HBO.out.mono HB.out.size))
            have hd2 : decide ((l.length : Int) ≤ (s : Int)) = true := by simp; omega
            clear HAB
            go_wp2_with fail
            go_ret2
            exact ⟨_, rfl, OwnS.nil, HBF.out⟩
      · obtain rfl : k = syms.length := by omega
        have hT := hgd.out
        rw [List.take_length] at hT hown
        obtain ⟨rfl, rfl⟩ := HGOOD.out hT
        have HO2 := Lib.hid (hown.base HB.out.size)
        have HBF := Lib.hid (HB.out.trans (hb.mono HB.out.size))
        clear hown hb hT HGOOD HBAD
        go_wp2_with fail
        go_ret2
        exact ⟨_, rfl, HO2.out, HBF.out⟩
  · have hR2 : S = [] ∧ E = check l 16 := by
      unfold encL at hR
      rw [if_pos hE] at hR
      injection hR with e1 e2
      exact ⟨e1.symm, e2.symm⟩
    obtain ⟨rfl, rfl⟩ := hR2
    clear hR h1 h2
    obtain ⟨CE, hCE⟩ : ∃ CE, check l 16 = CE := ⟨_, rfl⟩
    rw [hCE] at hE C1 ⊢
    have hne : (CE != 0) = true := by rw [bne_iff_ne]; exact hE
    clear hCE
    go_enter Try.func19, Try.ntmps19
    go_wp2_with fail
    refine C1.out.mono ?_; rintro e w1 ⟨v1, rfl, hI1, hb1⟩
    have HB := Lib.hid hb1
    clear hI1 hb1
    go_wp2_with fail
    go_ret2
    exact ⟨_, rfl, OwnS.nil, HB.out⟩
end Go.Proofs.Ytlampmedeebekaa
