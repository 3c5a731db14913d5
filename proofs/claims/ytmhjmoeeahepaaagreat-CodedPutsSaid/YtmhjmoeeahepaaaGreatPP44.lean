import Derived.Test.YtmhjmoeeahepaaaGreatPP17
import Derived.Test.YtmhjmoeeahepaaaGreatPP43
/- Layer 9: the document's Encode. -/
namespace Go.Proofs.YtmhjmoeeahepaaaGreat
open Go.ChangeShapes Go.WideShapes Go.ChangeAt Go.RowKit
set_option linter.unusedVariables false
set_option linter.unusedSimpArgs false
set_option maxRecDepth 100000
open KraftMath CanonMath
/-- append of a row of bools to a row of the call's own, as a step of a region that draws. -/
theorem step_rowB {ops : Array Oper} {o : Oper} {a : Act} {W : World} {K : Act → World → Prop} {Q : Exit → Act → World → Prop} {R : Prop} (hgd : o.guard = none) (s x : Operand)
    (ho : o.op = .call { callee := .builtin .append, args := #[s, x], argTypes := #[32, 32] })
    (B : Nat) (v : Value) (l ys : List Bool) (hs : a.eval s = v) (hown : OwnB B W v l) (va : Option Addr) (m c : Nat) (hx : a.eval x = .slice va m c) (hm : m = ys.length) (hys : IsBoo W va ys) (hpos : 1 ≤ ys.length) (hl : l.length + ys.length ≤ 1000000) (hB : B ≤ W.heap.size)
    (h : ∀ v' w', OwnB B w' v' (l ++ ys) → Below B W w' → K (a.put o.dst v') w') : if Region.wanted o (yielded ops a.tmps) = true then Oper.wp Tryz.prog o a W K Q else R := by
  obtain ⟨i0, hi, h1, h2, h3⟩ := info_get info_bool
  obtain ⟨ad, rfl, -, -⟩ := hys.at 0 hpos
  have hc : ∀ j, j < ys.length → W.cell? (ad.add j) = some (.bool (ys.getD j false)) := by
    intro j hj
    obtain ⟨ad', e, -, hc⟩ := hys.at j hj
    injection e with e; subst e; exact hc
  have hf : ∀ q : List Bool, q.flatMap fB = q.map Value.bool := by
    intro q
    induction q with
    | nil => rfl
    | cons z q ih => rw [List.flatMap_cons, ih]; rfl
  subst hm
  refine step_append_at hgd s x 32 ho B 4 i0 (.bool false) 1 Tryz.underlying32 hi h1 h2 h3 rfl v l.length (l.flatMap fB) hs hown ad ys.length c (ys.map Value.bool) hx (by simp) ?_ (by intro u hu; obtain ⟨z, -, rfl⟩ := List.mem_map.1 hu; rfl) (by unfold maxLen; omega) (by omega) hB hpos ?_
  · intro j u hj
    rw [List.getElem?_map] at hj
    cases hq : ys[j]? with
    | none => rw [hq] at hj; simp at hj
    | some z =>
      rw [hq] at hj
      have hlt := (List.getElem?_eq_some_iff.1 hq).1
      simp only [Option.map_some, Option.some.injEq] at hj
      rw [hc j hlt, ← hj]
      simp [List.getD_eq_getElem?_getD, hq]
  · intro k cap w' ho' hg' hk
    refine h _ w' ?_ ?_
    · unfold OwnB OwnS
      rw [List.flatMap_append, hf ys, List.length_append]
      exact ho'
    · exact (Below.refl _ _).grown hg' hB (fun j hj => (World.ownsRow.lt hown j hj).1)
set_option maxHeartbeats 3200000 in
theorem dEncode9 (a b : Option Addr) (ca cb : Nat) (l syms : List Int) (w : World) (h1 : IsInts w a l) (h2 : IsInts w b syms) (hl0 : l.length ≤ 1000) (hs : syms.length ≤ 1000) (S : List Bool) (E : Int) (hR : encL l syms = (S, E)) :
    Calls Tryz.prog 24 #[.slice a l.length ca, .slice b syms.length cb] w fun e w' => ∃ v, e = .returned (.tuple #[v, .int .i64 E]) ∧ OwnB w.heap.size w' v S ∧ Below w.heap.size w w' := by
  have C1 := Lib.hid (rCodes a ca l w h1 (by omega))
  by_cases hE : check l 16 = 0
  · have HCL := Lib.hid (codes_len (l := l) hE)
    have HBAD := Lib.hid (show syms.all (goodS l) = false → S = [] ∧ E = 7 by
      intro h
      unfold encL at hR
      rw [if_neg (by simp [hE]), h, if_neg (by decide)] at hR
      injection hR with e1 e2
      exact ⟨e1.symm, e2.symm⟩)
    have HGOOD := Lib.hid (show syms.all (goodS l) = true → S = encT l syms ∧ E = 0 by
      intro h
      unfold encL at hR
      rw [if_neg (by simp [hE]), h, if_pos rfl] at hR
      injection hR with e1 e2
      exact ⟨e1.symm, e2.symm⟩)
    have HCA := Lib.hid (fun s hs => codes_at (l := l) hE (s := s) hs)
    have HLI := Lib.hid (fun s hs => lenI (l := l) hE (s := s) hs)
    have HLB := Lib.hid (fun s hs => ok_b (l := l) hE s hs)
    have HCB := Lib.hid (fun s hs => ok_c (l := l) hE (s := s) hs)
    have HTL := Lib.hid (fun t hg => encT_len (l := l) hE t hg)
    have G1 := Lib.hid h1; have G2 := Lib.hid h2
    rw [hE] at C1
    have hll := h1.1
    clear hE hR h1 h2
    go_enter Tryz.func24, Tryz.ntmps24
    go_wp2_with fail
    refine C1.out.mono ?_; rintro e w1 ⟨v1, rfl, hI1, hb1⟩
    obtain ⟨cc, cd, rfl, hI1⟩ := hI1
    rw [HCL.out]
    have HI := Lib.hid hI1
    have HB := Lib.hid hb1
    have HG1 := Lib.hid (G1.out.kept hb1)
    have HG2 := Lib.hid (G2.out.kept hb1)
    clear hI1 hb1
    go_wp2_with fail
    go_loopw [8, 9] (fun u i wr => ∃ k : Nat, k ≤ syms.length ∧ i = .int .i64 k ∧ Hid ((syms.take k).all (goodS l) = true) ∧ OwnB w1.heap.size wr u (encT l (syms.take k)) ∧ Below w1.heap.size w1 wr) (fun _ i _ => syms.length - (intOf i).toNat)
    case atStart => exact ⟨0, Nat.zero_le _, rfl, Lib.hid (by simp), by simpa [encT] using OwnS.nil, Below.refl _ _⟩
    case round =>
      obtain ⟨k, hk, rfl, hgd, hown, hb⟩ := hrel
      obtain ⟨wo, hwo⟩ : ∃ wo : World, wo = wr := ⟨_, rfl⟩
      subst hwo
      by_cases hlt : k < syms.length
      · have hgs := HG2.out.kept hb
        obtain ⟨x, rfl, hxb, cx0⟩ := hgs.at k hlt
        have cx := cx0 k hlt
        have HNT := Lib.hid (encT_take l syms k hlt)
        have HAT := Lib.hid (fun h2 => all_take l syms k hlt hgd.out h2)
        have HAB := Lib.hid (fun h2 => HBAD.out (all_bad l syms k hlt h2))
        have HTLk := Lib.hid (HTL.out _ hgd.out)
        obtain ⟨Z, hZ⟩ : ∃ Z, syms.getD k 0 = Z := ⟨_, rfl⟩
        rw [hZ] at cx HNT HAT HAB
        have HGS := Lib.hid (show goodS l Z = (decide (0 ≤ Z) && decide (Z < l.length) && decide (l.getD Z.toNat 0 ≠ 0)) from rfl)
        have HBO := Lib.hid hb
        have HOW := Lib.hid hown
        clear hZ cx0 hgs hb hown
        by_cases hz1 : Z < 0
        · obtain ⟨rfl, rfl⟩ := HAB.out (by rw [HGS.out]; simp; omega)
          have HBF := Lib.hid (HB.out.trans (HBO.out.mono HB.out.size))
          have hd1 : decide (Z < 0) = true := by simpa using hz1
          clear HAB
          go_wp2_with fail
          go_ret2
          exact ⟨_, rfl, OwnS.nil, HBF.out⟩
        · obtain ⟨s, rfl⟩ : ∃ s : Nat, Z = s := ⟨Z.toNat, by omega⟩
          have hd1 : decide ((s : Int) < 0) = false := by simp
          by_cases hz2 : s < l.length
          · have hd2 : decide ((l.length : Int) ≤ (s : Int)) = false := by simp; omega
            have hgl := HG1.out.kept HBO.out
            have hgc := HI.out.kept HBO.out
            obtain ⟨y, rfl, hyb, cy0⟩ := HG1.out.at s hz2
            have hyb2 : (y.add s).block < w1.heap.size := by rw [add_block]; exact hyb
            have cy := (HBO.out.cell hyb2).trans (cy0 s hz2)
            have hLs := HLI.out s hz2
            rw [hLs] at cy
            rw [Int.toNat_natCast, hLs] at HGS
            by_cases hz3 : len l s = 0
            · obtain ⟨rfl, rfl⟩ := HAB.out (by rw [HGS.out, hz3]; simp)
              have HBF := Lib.hid (HB.out.trans (HBO.out.mono HB.out.size))
              rw [hz3] at cy
              clear HAB cy0 hgl hgc hLs
              go_wp2_with fail
              go_ret2
              exact ⟨_, rfl, OwnS.nil, HBF.out⟩
            · have hne : (((len l s : Nat) : Int) == 0) = false := by rw [beq_eq_false_iff_ne]; omega
              obtain ⟨z, rfl, hzb, cz0⟩ := HI.out.at s (by rw [HCL.out]; exact hz2)
              have hzb2 : (z.add s).block < w1.heap.size := by rw [add_block]; exact hzb
              have cz := (HBO.out.cell hzb2).trans (cz0 s (by rw [HCL.out]; exact hz2))
              rw [HCA.out s hz2] at cz
              have HAT2 := Lib.hid (HAT.out (by rw [HGS.out]; simp; omega))
              have hL16 := (HLB.out s hz2).2
              have hC := HCB.out s hz2
              have hBS : bitsS l (s : Int) = msb (code l s) (len l s) := by unfold bitsS; rw [Int.toNat_natCast]
              rw [hBS] at HNT
              obtain ⟨PRE, hPRE⟩ : ∃ PRE, encT l (syms.take k) = PRE := ⟨_, rfl⟩
              rw [hPRE] at HNT HOW HTLk
              obtain ⟨L, hL⟩ : ∃ L, len l s = L := ⟨_, rfl⟩
              obtain ⟨C, hCC⟩ : ∃ C, code l s = C := ⟨_, rfl⟩
              rw [hL] at cy hne hL16 hC HNT hz3
              rw [hCC] at cz hC HNT
              have hC60 : C < 2 ^ 60 := Nat.lt_of_lt_of_le hC (Nat.pow_le_pow_right (by decide) (by omega))
              have CM := Lib.hid (fun W => dMsb C L (by omega) hC60 W)
              have HPL := Lib.hid (show PRE.length ≤ 16000 by
                have h1 := HTLk.out
                have h2 : (syms.take k).length ≤ 1000 := by rw [List.length_take]; omega
                omega)
              have hyw : (y.add s).block < wo.heap.size := by have := HBO.out.size; omega
              have hzw : (z.add s).block < wo.heap.size := by have := HBO.out.size; omega
              clear cy0 cz0 hgl hgc hLs hBS hL hCC hC hC60 hPRE
              have hs0 : (0 : Int) ≤ (s : Int) := by omega
              have hs1 : (s : Int) < (l.length : Int) := by omega
              have hBo := HBO.out.size
              go_wp2_with fail
              have HL1 := Lib.hid (show 1 ≤ (msb C L).length by rw [msb_len]; omega)
              have HL2 := Lib.hid (show PRE.length + (msb C L).length ≤ 1000000 by rw [msb_len]; have := HPL.out; omega)
              have HC2 := Lib.hid (show wo.cell? (z.add s) = some (.int .i64 C) ∧ wo.cell? (y.add s) = some (.int .i64 L) from ⟨cz, cy⟩)
              go_region_held3 (fun w2 => w2.cell? (z.add s) = some (.int .i64 C) ∧ w2.cell? (y.add s) = some (.int .i64 L)) (first | exact HC2.out | exact ⟨(hb5.cell hzw).trans HC2.out.1, (hb5.cell hyw).trans HC2.out.2⟩ | exact ⟨(hb6.cell hzb2).trans ((hb5.cell hzw).trans HC2.out.1), (hb6.cell hyb2).trans ((hb5.cell hyw).trans HC2.out.2)⟩ | fail) (first | ((go_at_call 50; refine (CM.out _).mono ?_; rintro e w5 ⟨v5, rfl, ho5, hb5⟩; obtain ⟨va, vc, rfl, hi5⟩ := ho5.isB; have hsz5 : wo.heap.size ≤ w5.heap.size := hb5.size)) | ((refine step_rowB rfl (.tmp 44) (.tmp 53) (by rfl) w1.heap.size _ PRE (msb C L) (by rfl) (OwnS.kept HOW.out ((Below.refl _ wo).drew.trans hb5)) va _ vc (by rfl) rfl hi5 HL1.out HL2.out (Nat.le_trans hBo hsz5) ?_; intro v6 w6 ho6 hb6)) | fail)
              all_goals
                have HO6 := Lib.hid (show OwnB w1.heap.size w6 v6 (encT l (syms.take (k + 1))) by rw [HNT.out]; exact ho6)
                have HB6 := Lib.hid (HBO.out.trans (((Below.refl _ wo).drew.trans hb5).mono hBo |>.trans hb6))
                clear ho6 hb6 hb5 hi5 ho5
                go_wp2_with fail
                go_roundw
                case rel => exact ⟨k + 1, by omega, by go_num, HAT2, HO6.out, HB6.out⟩
                case measure => simp [intOf]; omega
          · obtain ⟨rfl, rfl⟩ := HAB.out (by rw [HGS.out]; simp; omega)
            have HBF := Lib.hid (HB.out.trans (HBO.out.mono HB.out.size))
            have hd2 : decide ((l.length : Int) ≤ (s : Int)) = true := by simp; omega
            clear HAB
            go_wp2_with fail
            go_ret2
            exact ⟨_, rfl, OwnS.nil, HBF.out⟩
      · obtain rfl : k = syms.length := by omega
        have hT := hgd.out
        rw [List.take_length] at hT hown
        obtain ⟨rfl, rfl⟩ := HGOOD.out hT
        have HO2 := Lib.hid (hown.base HB.out.size)
        have HBF := Lib.hid (HB.out.trans (hb.mono HB.out.size))
        clear hown hb hT HGOOD HBAD
        go_wp2_with fail
        go_ret2
        exact ⟨_, rfl, HO2.out, HBF.out⟩
  · have hR2 : S = [] ∧ E = check l 16 := by
      unfold encL at hR
      rw [if_pos hE] at hR
      injection hR with e1 e2
      exact ⟨e1.symm, e2.symm⟩
    obtain ⟨rfl, rfl⟩ := hR2
    clear hR h1 h2
    obtain ⟨CE, hCE⟩ : ∃ CE, check l 16 = CE := ⟨_, rfl⟩
    rw [hCE] at hE C1 ⊢
    have hne : (CE != 0) = true := by rw [bne_iff_ne]; exact hE
    clear hCE
    go_enter Tryz.func24, Tryz.ntmps24
    go_wp2_with fail
    refine C1.out.mono ?_; rintro e w1 ⟨v1, rfl, hI1, hb1⟩
    have HB := Lib.hid hb1
    clear hI1 hb1
    go_wp2_with fail
    go_ret2
    exact ⟨_, rfl, OwnS.nil, HB.out⟩
end Go.Proofs.YtmhjmoeeahepaaaGreat

/- Layer 27: the document's One. -/
namespace Go.Proofs.YtmhjmoeeahepaaaGreat
open Go.ChangeShapes Go.WideShapes Go.ChangeAt Go.RowKit
set_option linter.unusedVariables false
set_option linter.unusedSimpArgs false
set_option maxRecDepth 100000
open Bits hiding packF pack_length
open RunsMath KraftMath CanonMath TurnMath Pm
theorem run_nilB27 {B : Nat} {W : World} {v : Value} {l : List Bool} (h : OwnB B W v l) (ty : TypeId) (c : Nat) : (Builtin.append_ #[32, 32] ty #[v, .slice none 0 c]).run Tryz.prog W = .ok v W := by
  obtain ⟨i0, hi, h1, h2, h3⟩ := info_get info_bool
  rcases h.2 with ⟨rfl, -⟩ | ⟨g, cap, cur, rfl, -, -, hnc, -⟩
  · simp [Builtin.append_, run_underlying Tryz.underlying32, sizeOf, typeInfo, hi, Builtin.lenOf, Builtin.firstCells]
  · simp [Builtin.append_, run_underlying Tryz.underlying32, sizeOf, typeInfo, hi, Builtin.lenOf, Builtin.firstCells, hnc, storeCells]
theorem app_rowB27 {W : World} {ops : Array Oper} {rest : List Oper} {o : Oper} {a : Act} {Q : Exit → Act → World → Prop} (hgd : o.guard = none) (s x : Operand)
    (ho : o.op = .call { callee := .builtin .append, args := #[s, x], argTypes := #[32, 32] })
    (B : Nat) (v : Value) (l ys : List Bool) (hs : a.eval s = v) (hown : OwnB B W v l) (va : Option Addr) (m c : Nat) (hx : a.eval x = .slice va m c) (hm : m = ys.length) (hys : IsBoo W va ys) (hl : l.length + ys.length ≤ 1000000) (hB : B ≤ W.heap.size)
    (h : ∀ v' w', OwnB B w' v' (l ++ ys) → Below B W w' → wpList Tryz.prog ops Q rest (a.put o.dst v') w') : wpList Tryz.prog ops Q (o :: rest) a W := by
  by_cases hpos : 1 ≤ ys.length
  · exact wpList_step (fun K hK => step_rowB hgd s x ho B v l ys hs hown va m c hx hm hys hpos hl hB (fun v' w' h1 h2 => hK _ _ (h v' w' h1 h2)))
  · have hy : ys = [] := List.length_eq_zero_iff.1 (by omega)
    subst hy
    obtain rfl : m = 0 := by simpa using hm
    cases va with
    | none =>
      refine wpList_plain hgd fun K hK => ?_
      have hrun := run_nilB27 hown o.type c
      unfold Oper.wp
      simp only [execOp, ho, resolve, invoke, builtin, Sem.run_bind, Sem.run_pure, Result.andThen_ok, List.map_toArray, List.map_cons, List.map_nil, hs, hx, hrun]
      exact hK _ _ (h v W (by rw [List.append_nil]; exact hown) (Below.refl _ _))
    | some ad =>
      obtain ⟨i0, hi, h1, h2, h3⟩ := info_get info_bool
      refine wpList_append_own _ hgd s x 32 ho B 4 i0 (.bool false) 1 1 Tryz.underlying32 hi h1 h2 h3 rfl (by decide) v l.length (l.flatMap fB) hs hown ad 0 c [] hx rfl (by intro j u hj; simp at hj) (by simp) (by unfold maxLen; simp at hl; omega) (by simp at hl; omega) hB ?_
      intro v' w' ho' hg' _
      refine h v' w' ?_ ((Below.refl _ _).grown hg' hB (fun j hj => (World.ownsRow.lt hown j hj).1))
      rw [List.append_nil]
      simpa [OwnS] using ho'
theorem enc_one27 {o : List Int} {s : Nat} (hc : check o 16 = 0) (hs : s < o.length) (h0 : 0 < len o s) : encL o [(s : Int)] = (bitsS o s, 0) := by
  have hg : goodS o (s : Int) = true := by
    unfold goodS
    unfold len at h0
    rw [Int.toNat_natCast, decide_eq_true (show (0 : Int) ≤ (s : Int) by omega), decide_eq_true (show (s : Int) < ((o.length : Nat) : Int) by omega), decide_eq_true (show o.getD s 0 ≠ 0 by omega)]
    rfl
  unfold encL
  rw [if_neg (by simp [hc]), if_pos (by simp [hg])]
  simp [encT]
/-- A code, by the document. -/
theorem dCode27 (a b : Option Addr) (c d n s : Nat) (l : List Int) (hl : l.length = n) (hn : n ≤ 1000) (hc : check l 16 = 0) (hs : s < n) (h0 : 0 < len l s) (w : World) (h1 : IsInts w a l) (h2 : IsInts w b [(s : Int)]) :
    Calls Tryz.prog 24 #[.slice a n c, .slice b 1 d] w fun e w' => ∃ v, e = .returned (.tuple #[v, .int .i64 0]) ∧ OwnB w.heap.size w' v (bitsS l s) ∧ Below w.heap.size w w' := by
  have := dEncode9 a b c d l [(s : Int)] w h1 h2 (by omega) (by simp) (bitsS l s) 0 (enc_one27 hc (by omega) h0)
  rw [hl] at this
  exact this
theorem ints_1 {w : World} {g : Nat} {t : TypeId} {x : Int} (h : w.heap[g]? = some (.cells #[.int .i64 x] t (0, 0))) : IsInts w (some ⟨g, 0, none⟩) [x] := by
  refine ⟨by simp, .inr ⟨_, rfl, fun i hi => ?_⟩⟩
  obtain rfl : i = 0 := by simpa using hi
  have e : (⟨g, 0, none⟩ : Addr).add 0 = ⟨g, 0, none⟩ := by simp [Addr.add]
  rw [e]
  exact cell_in h 0
set_option maxHeartbeats 1600000 in
theorem dPut27 (B : Nat) (v : Value) (x n : Nat) (bs : List Bool) (w : World) (hown : OwnB B w v bs) (hb0 : B ≤ w.heap.size) (hl : bs.length ≤ 1000000) (hn : n ≤ 56) (hx : x < 2 ^ n) :
    Calls Tryz.prog 26 #[v, .int .i64 x, .int .i64 n] w fun e w' => ∃ v', e = .returned v' ∧ OwnB B w' v' (bs ++ bitsOf x n) ∧ Below B w w' := by
  have C := Lib.hid (dPut B v x n bs w hown hb0 hl hn hx)
  have HBL := Lib.hid (fun w' v' (h : Row1 w v w' v') => h.below hb0 (fun k e => (OwnS.lt hown k e).1))
  have hx56 : x < 2 ^ 56 := Nat.lt_of_lt_of_le hx (Nat.pow_le_pow_right (by decide) hn)
  have hwx : IntKind.u64.wrap (x : Int) = (x : Int) := by rw [IntKind.wrap_u64]; omega
  clear hown hx
  go_enter Tryz.func26, Tryz.ntmps26
  go_wp2_with fail
  refine C.out.mono ?_; rintro e w1 ⟨v', rfl, ho, hr⟩
  have HE := Lib.hid (show OwnB B w1 v' (bs ++ bitsOf x n) ∧ Below B w w1 from ⟨ho, HBL.out _ _ hr⟩)
  clear ho hr C HBL
  go_wp2_with fail
  go_ret
  exact ⟨_, rfl, HE.out⟩
set_option maxHeartbeats 3200000 in
theorem one27Lit {l : List Tk} {M D : List Int} (T : Tabs l M D) (b : Int) (hb : 0 ≤ b ∧ b ≤ 255) (ht : (⟨0, b, 0, 0, 0⟩ : Tk) ∈ l) (aM aD : Option Addr) (cM cD : Nat) (w0 : World) (hM : IsInts w0 aM M) :
    Calls Tryz.prog 10 #[.agg #[.int .i64 0, .int .i64 b, .int .i64 0, .int .i64 0, .int .i64 0], .slice aM 401 cM, .slice aD 52 cD] w0 fun e w' => ∃ v, e = .returned v ∧ OwnB w0.heap.size w' v (tokB M D ⟨0, b, 0, 0, 0⟩) ∧ Below w0.heap.size w0 w' := by
  have hok : (⟨0, b, 0, 0, 0⟩ : Tk).ok := .inl ⟨rfl, hb.1, hb.2, rfl, rfl, rfl⟩
  have he : tokB M D ⟨0, b, 0, 0, 0⟩ = bitsS M (symN ⟨0, b, 0, 0, 0⟩ : Int) := by unfold tokB; rw [if_pos rfl, List.append_nil]
  rw [he]
  have hs0 := T.sM _ ht
  have CS := Lib.hid (fun W => Tok.refSym_any 0 b 0 0 0 W)
  obtain ⟨q1, q2, q3, -⟩ := sym_ok _ hok
  simp only at q1 q3
  rw [q1, q3] at CS
  have hs4 : symN ⟨0, b, 0, 0, 0⟩ < 401 := by omega
  obtain ⟨s, hs⟩ : ∃ s, symN ⟨0, b, 0, 0, 0⟩ = s := ⟨_, rfl⟩
  rw [hs] at hs4 hs0 CS ⊢
  clear q1 q2 q3 hs hok he ht hb
  have HM := Lib.hid hM
  have CE := Lib.hid (fun W b d (h1 : IsInts W aM M) (h2 : IsInts W b [(s : Int)]) => dCode27 aM b cM d 401 s M T.lm (by decide) (check_16 T.okM).1 hs4 hs0 W h1 h2)
  obtain ⟨ES, hES⟩ : ∃ ES, bitsS M (s : Int) = ES := ⟨_, rfl⟩
  have hESl : ES.length ≤ 15 := by rw [← hES, bitsS_len]; exact T.bM s (by omega)
  rw [hES] at CE ⊢
  clear hES hM hs4 hs0
  go_enter Tryz.func10, Tryz.ntmps10
  go_wp2_with fail
  have hbx := box_new w0 0 b 0 0 0
  have hb1 := (Below.refl w0.heap.size w0).alloc (Nat.le_refl _) (.cells #[.int .i64 0, .int .i64 b, .int .i64 0, .int .i64 0, .int .i64 0] 35)
  obtain ⟨w1, hw1⟩ : ∃ w1, w0.alloc (.cells #[.int .i64 0, .int .i64 b, .int .i64 0, .int .i64 0, .int .i64 0] 35) = w1 := ⟨_, rfl⟩
  obtain ⟨gx, hgx⟩ : ∃ gx, w0.heap.size = gx := ⟨_, rfl⟩
  rw [hw1] at hbx hb1 ⊢
  rw [hgx] at hbx ⊢
  have HB1 := Lib.hid hb1
  have HX1 := Lib.hid hbx
  clear hw1 hgx hb1 hbx
  refine (CS.out w1).mono ?_; rintro e w2 ⟨rfl, hb2⟩
  have HX2 := Lib.hid ((hb2.block gx (block_lt HX1.out)).trans HX1.out)
  have HB2 := Lib.hid (HB1.out.trans (hb2.mono HB1.out.size))
  clear hb2 CS HX1 HB1
  go_wp2_with fail
  have hi3 : IsInts (w2.alloc (.cells #[.int .i64 (s : Int)] 3)) (some ⟨w2.heap.size, 0, none⟩) [(s : Int)] := ints_1 (heap_alloc_new w2 _)
  have hb3 := (Below.refl w2.heap.size w2).alloc (Nat.le_refl _) (.cells #[.int .i64 (s : Int)] 3)
  obtain ⟨w3, hw3⟩ : ∃ w3, w2.alloc (.cells #[.int .i64 (s : Int)] 3) = w3 := ⟨_, rfl⟩
  rw [hw3] at hi3 hb3 ⊢
  have HX3 := Lib.hid ((hb3.block gx (block_lt HX2.out)).trans HX2.out)
  have HB3 := Lib.hid (HB2.out.trans (hb3.mono HB2.out.size))
  have hsz3 : w0.heap.size ≤ w3.heap.size := HB3.out.size
  refine (CE.out w3 _ _ (HM.out.kept HB3.out) hi3).mono ?_; rintro e w4 ⟨v4, rfl, ho4, hb4⟩
  obtain ⟨⟨x0, x1, x2, x3, x4⟩, -, hxl⟩ := box_cell ((hb4.block gx (block_lt HX3.out)).trans HX3.out)
  have HX4 := Lib.hid ((hb4.block gx (block_lt HX3.out)).trans HX3.out)
  have HB4 := Lib.hid (HB3.out.trans (hb4.mono HB3.out.size))
  have hgD := block_lt HX3.out
  have hD4 := hb4.size
  have HO4 := Lib.hid ho4
  obtain ⟨D0, hD0⟩ : ∃ D0, w3.heap.size = D0 := ⟨_, rfl⟩
  rw [hD0] at hgD hD4 HO4 hsz3
  have hgxD : gx < D0 := hgD
  clear hi3 hb3 hw3 ho4 hb4 CE HX2 HX3 HB2 HB3 hgD hD0
  go_wp2_with fail
  go_ret
  exact ⟨_, rfl, HO4.out.base hsz3, HB4.out⟩
end Go.Proofs.YtmhjmoeeahepaaaGreat

/- Layer 27: the document's One, of what copies. -/
namespace Go.Proofs.YtmhjmoeeahepaaaGreat
open Go.ChangeShapes Go.WideShapes Go.ChangeAt Go.RowKit
set_option linter.unusedVariables false
set_option linter.unusedSimpArgs false
set_option maxRecDepth 100000
open Bits hiding packF pack_length
open RunsMath KraftMath CanonMath TurnMath Pm
set_option maxHeartbeats 3200000 in
theorem one27Rep {l : List Tk} {M D : List Int} (T : Tabs l M D) (n r : Nat) (hn : 2 ≤ n ∧ n ≤ 258) (hr : r ≤ 3) (ht : (⟨2, 0, (n : Int), 0, (r : Int)⟩ : Tk) ∈ l) (aM aD : Option Addr) (cM cD : Nat) (w0 : World) (hM : IsInts w0 aM M) :
    Calls Tryz.prog 10 #[.agg #[.int .i64 2, .int .i64 0, .int .i64 (n : Int), .int .i64 0, .int .i64 (r : Int)], .slice aM 401 cM, .slice aD 52 cD] w0 fun e w' => ∃ v, e = .returned v ∧ OwnB w0.heap.size w' v (tokB M D ⟨2, 0, (n : Int), 0, (r : Int)⟩) ∧ Below w0.heap.size w0 w' := by
  have hok : (⟨2, 0, (n : Int), 0, (r : Int)⟩ : Tk).ok := ok_rep hn hr
  rw [tokB_rep M D n (symN ⟨2, 0, (n : Int), 0, (r : Int)⟩) 0 0 (r : Int) rfl]
  have hs0 := T.sM _ ht
  have CS := Lib.hid (fun W => Tok.refSym_any 2 0 n 0 r W)
  obtain ⟨q1, q2, q3, -⟩ := sym_ok _ hok
  simp only at q1 q3
  rw [q1, q3] at CS
  have hs4 : symN ⟨2, 0, (n : Int), 0, (r : Int)⟩ < 401 := by omega
  obtain ⟨s, hs⟩ : ∃ s, symN ⟨2, 0, (n : Int), 0, (r : Int)⟩ = s := ⟨_, rfl⟩
  rw [hs] at hs4 hs0 CS ⊢
  clear q1 q2 q3 hs hok ht
  obtain ⟨e1, e2, e3⟩ := extL_lt n hn.1 hn.2
  have CLN := Lib.hid (fun W => Tok.refLen_in n hn.1 hn.2 W)
  obtain ⟨EL, hEL⟩ : ∃ EL, extL n = EL := ⟨_, rfl⟩
  have hELd : bitsOf (n - Tok.tbL (Tok.slotL n)) (Tok.exL (Tok.slotL n)) = EL := hEL
  obtain ⟨KS, hKS⟩ : ∃ K, Tok.slotL n = K := ⟨_, rfl⟩
  rw [hKS] at CLN e1 e2 hELd
  obtain ⟨KE, hKE⟩ : ∃ K, Tok.exL KS = K := ⟨_, rfl⟩
  rw [hKE] at CLN e1 e2 hELd
  obtain ⟨KV, hKV⟩ : ∃ K, n - Tok.tbL KS = K := ⟨_, rfl⟩
  rw [hKV] at CLN e1 hELd
  have hELl : EL.length ≤ 30 := by rw [← hELd, bitsOf_length]; exact e2
  have CPL := Lib.hid (fun D W v (bs : List Bool) (h1 : OwnB D W v bs) (h2 : D ≤ W.heap.size) (h3 : bs.length ≤ 1000000) => dPut27 D v KV KE bs W h1 h2 h3 (by omega) e1)
  rw [hELd] at CPL
  rw [hEL]
  clear e3 hKS hKE hKV hEL hELd e1
  have HM := Lib.hid hM
  have CE := Lib.hid (fun W b d (h1 : IsInts W aM M) (h2 : IsInts W b [(s : Int)]) => dCode27 aM b cM d 401 s M T.lm (by decide) (check_16 T.okM).1 hs4 hs0 W h1 h2)
  obtain ⟨ES, hES⟩ : ∃ ES, bitsS M (s : Int) = ES := ⟨_, rfl⟩
  have hESl : ES.length ≤ 15 := by rw [← hES, bitsS_len]; exact T.bM s (by omega)
  rw [hES] at CE ⊢
  clear hES hM hs4 hs0
  go_enter Tryz.func10, Tryz.ntmps10
  go_wp2_with fail
  have hbx := box_new w0 2 0 (n : Int) 0 (r : Int)
  have hb1 := (Below.refl w0.heap.size w0).alloc (Nat.le_refl _) (.cells #[.int .i64 2, .int .i64 0, .int .i64 (n : Int), .int .i64 0, .int .i64 (r : Int)] 35)
  obtain ⟨w1, hw1⟩ : ∃ w1, w0.alloc (.cells #[.int .i64 2, .int .i64 0, .int .i64 (n : Int), .int .i64 0, .int .i64 (r : Int)] 35) = w1 := ⟨_, rfl⟩
  obtain ⟨gx, hgx⟩ : ∃ gx, w0.heap.size = gx := ⟨_, rfl⟩
  rw [hw1] at hbx hb1 ⊢
  rw [hgx] at hbx ⊢
  have HB1 := Lib.hid hb1
  have HX1 := Lib.hid hbx
  clear hw1 hgx hb1 hbx
  refine (CS.out w1).mono ?_; rintro e w2 ⟨rfl, hb2⟩
  have HX2 := Lib.hid ((hb2.block gx (block_lt HX1.out)).trans HX1.out)
  have HB2 := Lib.hid (HB1.out.trans (hb2.mono HB1.out.size))
  clear hb2 CS HX1 HB1
  go_wp2_with fail
  have hi3 : IsInts (w2.alloc (.cells #[.int .i64 (s : Int)] 3)) (some ⟨w2.heap.size, 0, none⟩) [(s : Int)] := ints_1 (heap_alloc_new w2 _)
  have hb3 := (Below.refl w2.heap.size w2).alloc (Nat.le_refl _) (.cells #[.int .i64 (s : Int)] 3)
  obtain ⟨w3, hw3⟩ : ∃ w3, w2.alloc (.cells #[.int .i64 (s : Int)] 3) = w3 := ⟨_, rfl⟩
  rw [hw3] at hi3 hb3 ⊢
  have HX3 := Lib.hid ((hb3.block gx (block_lt HX2.out)).trans HX2.out)
  have HB3 := Lib.hid (HB2.out.trans (hb3.mono HB2.out.size))
  have hsz3 : w0.heap.size ≤ w3.heap.size := HB3.out.size
  refine (CE.out w3 _ _ (HM.out.kept HB3.out) hi3).mono ?_; rintro e w4 ⟨v4, rfl, ho4, hb4⟩
  obtain ⟨⟨x0, x1, x2, x3, x4⟩, -, hxl⟩ := box_cell ((hb4.block gx (block_lt HX3.out)).trans HX3.out)
  have HX4 := Lib.hid ((hb4.block gx (block_lt HX3.out)).trans HX3.out)
  have HB4 := Lib.hid (HB3.out.trans (hb4.mono HB3.out.size))
  have hgD := block_lt HX3.out
  have hD4 := hb4.size
  have HO4 := Lib.hid ho4
  obtain ⟨D0, hD0⟩ : ∃ D0, w3.heap.size = D0 := ⟨_, rfl⟩
  rw [hD0] at hgD hD4 HO4 hsz3
  have hgxD : gx < D0 := hgD
  clear hi3 hb3 hw3 ho4 hb4 CE HX2 HX3 HB2 HB3 hgD hD0
  go_wp2_with fail
  refine (CLN.out w4).mono ?_; rintro e w5 ⟨rfl, hb5⟩
  have HX5 := Lib.hid ((hb5.block gx (block_lt HX4.out)).trans HX4.out)
  obtain ⟨⟨x0, x1, x2, x3, x4⟩, -, hxl⟩ := box_cell HX5.out
  have HB5 := Lib.hid (HB4.out.trans (hb5.mono HB4.out.size))
  have HO5 := Lib.hid (OwnS.kept HO4.out hb5)
  have hD5 := Nat.le_trans hD4 hb5.size
  clear hb5 HX4 HB4 HO4 CLN hD4
  go_wp2_with fail
  refine (CPL.out D0 w5 _ _ HO5.out hD5 (by omega)).mono ?_; rintro e w6 ⟨v6, rfl, ho6, hb6⟩
  have HX6 := Lib.hid ((hb6.block gx hgxD).trans HX5.out)
  obtain ⟨⟨x0, x1, x2, x3, x4⟩, -, hxl⟩ := box_cell HX6.out
  have HB6 := Lib.hid (HB5.out.trans (hb6.mono hsz3))
  have HO6 := Lib.hid ho6
  have hD6 := Nat.le_trans hD5 hb6.size
  clear ho6 hb6 HX5 HB5 HO5 CPL hD5
  go_wp2_with fail
  go_ret
  exact ⟨_, rfl, HO6.out.base hsz3, HB6.out⟩
set_option maxHeartbeats 6400000 in
theorem one27Copy {l : List Tk} {M D : List Int} (T : Tabs l M D) (n d : Nat) (hn : 2 ≤ n ∧ n ≤ 258) (hd : 1 ≤ d ∧ d ≤ 67108864) (ht : (⟨1, 0, (n : Int), (d : Int), 0⟩ : Tk) ∈ l) (aM aD : Option Addr) (cM cD : Nat) (w0 : World) (hM : IsInts w0 aM M) (hD : IsInts w0 aD D) :
    Calls Tryz.prog 10 #[.agg #[.int .i64 1, .int .i64 0, .int .i64 (n : Int), .int .i64 (d : Int), .int .i64 0], .slice aM 401 cM, .slice aD 52 cD] w0 fun e w' => ∃ v, e = .returned v ∧ OwnB w0.heap.size w' v (tokB M D ⟨1, 0, (n : Int), (d : Int), 0⟩) ∧ Below w0.heap.size w0 w' := by
  have hok : (⟨1, 0, (n : Int), (d : Int), 0⟩ : Tk).ok := ok_copy hn hd
  rw [tokB_copy M D n d (symN ⟨1, 0, (n : Int), (d : Int), 0⟩) 0 0 rfl]
  have hs0 := T.sM _ ht
  obtain ⟨f1, f2⟩ := T.far ⟨_, ht, rfl⟩
  have fp := f2 _ ht rfl
  simp only [Int.toNat_natCast] at fp
  have CS := Lib.hid (fun W => Tok.refSym_any 1 0 n d 0 W)
  obtain ⟨q1, q2, q3, -⟩ := sym_ok _ hok
  simp only at q1 q3
  rw [q1, q3] at CS
  have hs4 : symN ⟨1, 0, (n : Int), (d : Int), 0⟩ < 401 := by omega
  obtain ⟨s, hs⟩ : ∃ s, symN ⟨1, 0, (n : Int), (d : Int), 0⟩ = s := ⟨_, rfl⟩
  rw [hs] at hs4 hs0 CS ⊢
  clear q1 q2 q3 hs hok ht
  obtain ⟨e1, e2, e3⟩ := extL_lt n hn.1 hn.2
  have CLN := Lib.hid (fun W => Tok.refLen_in n hn.1 hn.2 W)
  obtain ⟨EL, hEL⟩ : ∃ EL, extL n = EL := ⟨_, rfl⟩
  have hELd : bitsOf (n - Tok.tbL (Tok.slotL n)) (Tok.exL (Tok.slotL n)) = EL := hEL
  obtain ⟨KS, hKS⟩ : ∃ K, Tok.slotL n = K := ⟨_, rfl⟩
  rw [hKS] at CLN e1 e2 hELd
  obtain ⟨KE, hKE⟩ : ∃ K, Tok.exL KS = K := ⟨_, rfl⟩
  rw [hKE] at CLN e1 e2 hELd
  obtain ⟨KV, hKV⟩ : ∃ K, n - Tok.tbL KS = K := ⟨_, rfl⟩
  rw [hKV] at CLN e1 hELd
  have hELl : EL.length ≤ 30 := by rw [← hELd, bitsOf_length]; exact e2
  have CPL := Lib.hid (fun D W v (bs : List Bool) (h1 : OwnB D W v bs) (h2 : D ≤ W.heap.size) (h3 : bs.length ≤ 1000000) => dPut27 D v KV KE bs W h1 h2 h3 (by omega) e1)
  rw [hELd] at CPL
  rw [hEL]
  clear e3 hKS hKE hKV hEL hELd e1
  obtain ⟨g1, g2, g3⟩ := extD_lt d hd.1 hd.2
  have CDN := Lib.hid (fun W => Slo.refDist_in d hd.1 hd.2 W)
  obtain ⟨ED, hED⟩ : ∃ ED, extD d = ED := ⟨_, rfl⟩
  have hEDd : bitsOf (d - Slo.tbD (Slo.slotD d)) (Slo.exD (Slo.slotD d)) = ED := hED
  obtain ⟨DS, hDS⟩ : ∃ K, Slo.slotD d = K := ⟨_, rfl⟩
  rw [hDS] at CDN g1 g2 g3 hEDd fp
  obtain ⟨DE, hDE⟩ : ∃ K, Slo.exD DS = K := ⟨_, rfl⟩
  rw [hDE] at CDN g1 g2 hEDd
  obtain ⟨DV, hDV⟩ : ∃ K, d - Slo.tbD DS = K := ⟨_, rfl⟩
  rw [hDV] at CDN g1 hEDd
  have hEDl : ED.length ≤ 30 := by rw [← hEDd, bitsOf_length]; exact g2
  have CPD := Lib.hid (fun D W v (bs : List Bool) (h1 : OwnB D W v bs) (h2 : D ≤ W.heap.size) (h3 : bs.length ≤ 1000000) => dPut27 D v DV DE bs W h1 h2 h3 (by omega) g1)
  rw [hEDd] at CPD
  have HD := Lib.hid hD
  have CE2 := Lib.hid (fun W b c' (h1 : IsInts W aD D) (h2 : IsInts W b [(DS : Int)]) => dCode27 aD b cD c' 52 DS D T.ld (by decide) (check_16 f1).1 (by omega) fp W h1 h2)
  obtain ⟨BD, hBD⟩ : ∃ BD, bitsS D (DS : Int) = BD := ⟨_, rfl⟩
  have hBDl : BD.length ≤ 15 := by rw [← hBD, bitsS_len]; exact T.bD DS (by omega)
  rw [hBD] at CE2
  rw [hED, hDS, hBD]
  clear hDS hDE hDV hED hEDd hBD hD f1 f2 fp g1 g3
  have HM := Lib.hid hM
  have CE := Lib.hid (fun W b d (h1 : IsInts W aM M) (h2 : IsInts W b [(s : Int)]) => dCode27 aM b cM d 401 s M T.lm (by decide) (check_16 T.okM).1 hs4 hs0 W h1 h2)
  obtain ⟨ES, hES⟩ : ∃ ES, bitsS M (s : Int) = ES := ⟨_, rfl⟩
  have hESl : ES.length ≤ 15 := by rw [← hES, bitsS_len]; exact T.bM s (by omega)
  rw [hES] at CE ⊢
  clear hES hM hs4 hs0
  go_enter Tryz.func10, Tryz.ntmps10
  go_wp2_with fail
  have hbx := box_new w0 1 0 (n : Int) (d : Int) 0
  have hb1 := (Below.refl w0.heap.size w0).alloc (Nat.le_refl _) (.cells #[.int .i64 1, .int .i64 0, .int .i64 (n : Int), .int .i64 (d : Int), .int .i64 0] 35)
  obtain ⟨w1, hw1⟩ : ∃ w1, w0.alloc (.cells #[.int .i64 1, .int .i64 0, .int .i64 (n : Int), .int .i64 (d : Int), .int .i64 0] 35) = w1 := ⟨_, rfl⟩
  obtain ⟨gx, hgx⟩ : ∃ gx, w0.heap.size = gx := ⟨_, rfl⟩
  rw [hw1] at hbx hb1 ⊢
  rw [hgx] at hbx ⊢
  have HB1 := Lib.hid hb1
  have HX1 := Lib.hid hbx
  clear hw1 hgx hb1 hbx
  refine (CS.out w1).mono ?_; rintro e w2 ⟨rfl, hb2⟩
  have HX2 := Lib.hid ((hb2.block gx (block_lt HX1.out)).trans HX1.out)
  have HB2 := Lib.hid (HB1.out.trans (hb2.mono HB1.out.size))
  clear hb2 CS HX1 HB1
  go_wp2_with fail
  have hi3 : IsInts (w2.alloc (.cells #[.int .i64 (s : Int)] 3)) (some ⟨w2.heap.size, 0, none⟩) [(s : Int)] := ints_1 (heap_alloc_new w2 _)
  have hb3 := (Below.refl w2.heap.size w2).alloc (Nat.le_refl _) (.cells #[.int .i64 (s : Int)] 3)
  obtain ⟨w3, hw3⟩ : ∃ w3, w2.alloc (.cells #[.int .i64 (s : Int)] 3) = w3 := ⟨_, rfl⟩
  rw [hw3] at hi3 hb3 ⊢
  have HX3 := Lib.hid ((hb3.block gx (block_lt HX2.out)).trans HX2.out)
  have HB3 := Lib.hid (HB2.out.trans (hb3.mono HB2.out.size))
  have hsz3 : w0.heap.size ≤ w3.heap.size := HB3.out.size
  refine (CE.out w3 _ _ (HM.out.kept HB3.out) hi3).mono ?_; rintro e w4 ⟨v4, rfl, ho4, hb4⟩
  obtain ⟨⟨x0, x1, x2, x3, x4⟩, -, hxl⟩ := box_cell ((hb4.block gx (block_lt HX3.out)).trans HX3.out)
  have HX4 := Lib.hid ((hb4.block gx (block_lt HX3.out)).trans HX3.out)
  have HB4 := Lib.hid (HB3.out.trans (hb4.mono HB3.out.size))
  have hgD := block_lt HX3.out
  have hD4 := hb4.size
  have HO4 := Lib.hid ho4
  obtain ⟨D0, hD0⟩ : ∃ D0, w3.heap.size = D0 := ⟨_, rfl⟩
  rw [hD0] at hgD hD4 HO4 hsz3
  have hgxD : gx < D0 := hgD
  clear hi3 hb3 hw3 ho4 hb4 CE HX2 HX3 HB2 HB3 hgD hD0
  go_wp2_with fail
  refine (CLN.out w4).mono ?_; rintro e w5 ⟨rfl, hb5⟩
  have HX5 := Lib.hid ((hb5.block gx (block_lt HX4.out)).trans HX4.out)
  obtain ⟨⟨x0, x1, x2, x3, x4⟩, -, hxl⟩ := box_cell HX5.out
  have HB5 := Lib.hid (HB4.out.trans (hb5.mono HB4.out.size))
  have HO5 := Lib.hid (OwnS.kept HO4.out hb5)
  have hD5 := Nat.le_trans hD4 hb5.size
  clear hb5 HX4 HB4 HO4 CLN hD4
  go_wp2_with fail
  refine (CPL.out D0 w5 _ _ HO5.out hD5 (by omega)).mono ?_; rintro e w6 ⟨v6, rfl, ho6, hb6⟩
  have HX6 := Lib.hid ((hb6.block gx hgxD).trans HX5.out)
  obtain ⟨⟨x0, x1, x2, x3, x4⟩, -, hxl⟩ := box_cell HX6.out
  have HB6 := Lib.hid (HB5.out.trans (hb6.mono hsz3))
  have HO6 := Lib.hid ho6
  have hD6 := Nat.le_trans hD5 hb6.size
  clear ho6 hb6 HX5 HB5 HO5 CPL hD5
  go_wp2_with fail
  refine (CDN.out w6).mono ?_; rintro e w7 ⟨rfl, hb7⟩
  have HB7 := Lib.hid (HB6.out.trans (hb7.mono HB6.out.size))
  have HO7 := Lib.hid (OwnS.kept HO6.out hb7)
  have hD7 := Nat.le_trans hD6 hb7.size
  clear hb7 HB6 HO6 CDN HX6 x0 x1 x2 x3 x4 hxl hD6
  go_wp2_with fail
  have hi8 : IsInts (w7.alloc (.cells #[.int .i64 (DS : Int)] 3)) (some ⟨w7.heap.size, 0, none⟩) [(DS : Int)] := ints_1 (heap_alloc_new w7 _)
  have hb8 := (Below.refl w7.heap.size w7).alloc (Nat.le_refl _) (.cells #[.int .i64 (DS : Int)] 3)
  obtain ⟨w8, hw8⟩ : ∃ w8, w7.alloc (.cells #[.int .i64 (DS : Int)] 3) = w8 := ⟨_, rfl⟩
  rw [hw8] at hi8 hb8 ⊢
  have HB8 := Lib.hid (HB7.out.trans (hb8.mono HB7.out.size))
  have HO8 := Lib.hid (OwnS.kept HO7.out hb8)
  have hD8 := Nat.le_trans hD7 hb8.size
  refine (CE2.out w8 _ _ (HD.out.kept HB8.out) hi8).mono ?_; rintro e w9 ⟨v9, rfl, ho9, hb9⟩
  have HB9 := Lib.hid (HB8.out.trans (hb9.mono HB8.out.size))
  have HO9 := Lib.hid (OwnS.kept HO8.out hb9)
  have hD9 := Nat.le_trans hD8 hb9.size
  obtain ⟨va, vc, rfl, -, hbo⟩ := OwnB.boo ho9
  have HBO := Lib.hid hbo
  have HSS := Lib.hid (show (ES ++ EL).length + BD.length ≤ 1000000 by rw [List.length_append]; omega)
  have hD9' := Lib.hid hD9
  have hszz := Lib.hid hsz3
  clear hi8 hb8 hw8 ho9 hb9 hbo HB7 HO7 HB8 HO8 hD7 hD8 CE2 HD
  go_wp2_with (at_builtin; refine app_rowB27 rfl (.tmp 67) (.tmp 68) rfl D0 _ _ BD rfl HO9.out va BD.length vc rfl rfl HBO.out HSS.out hD9'.out ?_; intro v10 w10 ho10 hb10; have HO10 := Lib.hid ho10; have HB10 := Lib.hid (HB9.out.trans (hb10.mono hszz.out)); have hD10 := Nat.le_trans hD9'.out hb10.size; clear ho10 hb10)
  refine (CPD.out D0 w10 _ _ HO10.out hD10 (by rw [List.length_append, List.length_append]; omega)).mono ?_; rintro e w11 ⟨v11, rfl, ho11, hb11⟩
  have HO11 := Lib.hid (ho11.base hszz.out)
  have HB11 := Lib.hid (HB10.out.trans (hb11.mono hszz.out))
  clear ho11 hb11 CPD HO10 HB10
  go_wp2_with fail
  go_ret
  exact ⟨_, rfl, HO11.out, HB11.out⟩
end Go.Proofs.YtmhjmoeeahepaaaGreat

/- Layer 27: the law CodedPuts. -/
namespace Go.Proofs.YtmhjmoeeahepaaaGreat
open Go.ChangeShapes Go.WideShapes Go.ChangeAt Go.RowKit
set_option linter.unusedVariables false
set_option linter.unusedSimpArgs false
set_option maxRecDepth 100000
open Bits hiding packF pack_length
open RunsMath KraftMath CanonMath TurnMath Pm
theorem dOne27 {l : List Tk} {M D : List Int} (T : Tabs l M D) (t : Tk) (ht : t ∈ l) (hok : t.ok) (aM aD : Option Addr) (cM cD : Nat) (w0 : World) (hM : IsInts w0 aM M) (hD : IsInts w0 aD D) :
    Calls Tryz.prog 10 #[.agg #[.int .i64 t.k, .int .i64 t.b, .int .i64 t.l, .int .i64 t.d, .int .i64 t.r], .slice aM 401 cM, .slice aD 52 cD] w0 fun e w' => ∃ v, e = .returned v ∧ OwnB w0.heap.size w' v (tokB M D t) ∧ Below w0.heap.size w0 w' := by
  rcases tok_cases hok with ⟨b, hb, rfl⟩ | ⟨n, d, hn, hd, rfl⟩ | ⟨n, r, hn, hr, rfl⟩
  · exact one27Lit T b hb ht aM aD cM cD w0 hM
  · exact one27Copy T n d hn hd ht aM aD cM cD w0 hM hD
  · exact one27Rep T n r hn hr ht aM aD cM cD w0 hM
def anyD (D : List Int) (k : Nat) : Bool := (D.take k).any fun x => decide (0 < x)
theorem anyD_next (D : List Int) (k : Nat) (h : k < D.length) : anyD D (k + 1) = (anyD D k || decide (0 < D.getD k 0)) := by
  unfold anyD
  rw [List.take_succ_eq_append_getElem h, List.any_append]
  simp [List.getD_eq_getElem?_getD, h]
theorem anyD_far {l : List Tk} (h : Kt27 l) : anyD (tabD l) 52 = farB l := by
  have T := h.tabs
  unfold anyD
  rw [List.take_of_length_le (by have := T.ld; omega)]
  cases hf : farB l with
  | true =>
    obtain ⟨t, ht, hk⟩ := (far_iff l).1 hf
    have h2 := (T.far ⟨t, ht, hk⟩).2 t ht hk
    obtain ⟨d1, d2⟩ := (sym_ok t (h.ok t ht)).2.2.2 hk
    have hs := (Slo.slotD_facts t.d.toNat (by omega) (by omega)).1
    rw [List.any_eq_true]
    refine ⟨(tabD l).getD (Slo.slotD t.d.toNat) 0, ?_, ?_⟩
    · have hl := T.ld
      rw [List.getD_eq_getElem?_getD, List.getElem?_eq_getElem (by omega)]
      exact List.getElem_mem _
    · unfold len at h2
      rw [decide_eq_true_iff]; omega
  | false =>
    have hn : ¬ ∃ t ∈ l, t.k = 1 := fun e => by rw [(far_iff l).2 e] at hf; cases hf
    rw [T.near hn]
    decide
set_option maxHeartbeats 1600000 in
theorem puts27_none (a : Option Addr) (c : Nat) (w : World) : Calls Tryz.prog 3 #[.slice a 0 c] w fun e w' => e = .returned (.bool true) ∧ Below w.heap.size w w' := by
  have CP := Lib.hid (fun W => cPutNone a c W)
  have CT := Lib.hid (fun W => cTabG a c 0 [] W rfl (.inl rfl) (by decide) (tl []).1 (tl []).2 (frA_ok [] (fun i h => absurd h (by simp))) (tl_len []).1 (tl_len []).2)
  have CS := Lib.hid (fun W => cSizeNone a c W)
  have CA := Lib.hid awake27
  go_enter Tryz.func3, Tryz.ntmps3
  go_wp2_with fail
  refine (CP.out w).mono ?_; rintro e w1 ⟨rfl, hb1⟩
  have HB := Lib.hid hb1
  clear hb1
  go_wp2_with fail
  refine (CT.out w1).mono ?_; rintro e w2 ⟨u, v, rfl, -, -, hb2⟩
  have HB := Lib.hid (HB.out.trans (hb2.mono HB.out.size))
  clear hb2
  go_wp2_with fail
  refine (CS.out w2).mono ?_; rintro e w3 ⟨rfl, hb3⟩
  have HB := Lib.hid (HB.out.trans (hb3.mono HB.out.size))
  clear hb3
  go_wp2_with fail
  refine (CA.out w3).mono ?_; rintro e w4 ⟨rfl, hb4⟩
  have HB := Lib.hid (HB.out.trans (hb4.mono HB.out.size))
  clear hb4
  go_wp2_with fail
  go_ret
  exact ⟨rfl, HB.out⟩
set_option maxHeartbeats 1600000 in
theorem puts27_bad (a : Option Addr) (c n : Nat) (l : List Tk) (hl : l.length = n) (h0 : n ≠ 0) (hn : n ≤ 80) (hb : ¬ ∀ t ∈ l, t.ok) (w : World) (h : IsTk w a l) : Calls Tryz.prog 3 #[.slice a n c] w fun e w' => e = .returned (.bool true) ∧ Below w.heap.size w w' := by
  have CP := Lib.hid (fun W (h : IsTk W a l) => cPutNot a c n l W hl h h0 (by omega) hb)
  have hfr : (frA l).2.2 = 10 := by unfold frA; rw [if_neg hb]
  have CT := Lib.hid (fun W (h : IsTk W a l) => cTabBad a c n l W hl h (by omega) 10 hfr (by decide))
  have CS := Lib.hid (fun W (h : IsTk W a l) => cSizeNot a c n l W hl h h0 (by omega) hb)
  have CA := Lib.hid awake27
  have HT := Lib.hid h
  have h80 : ¬ (80 : Int) < (n : Int) := by omega
  have hnb : ((n : Int) == 0) = false := by rw [beq_eq_false_iff_ne]; omega
  have hpos : (0 : Int) < (n : Int) := by omega
  clear hb h hfr hl h0 hn
  go_enter Tryz.func3, Tryz.ntmps3
  go_wp2_with fail
  refine (CP.out w HT.out).mono ?_; rintro e w1 ⟨rfl, hb1⟩
  have HB := Lib.hid hb1
  have HT := Lib.hid (HT.out.kept hb1)
  clear hb1
  go_wp2_with fail
  refine (CT.out w1 HT.out).mono ?_; rintro e w2 ⟨rfl, hb2⟩
  have HB := Lib.hid (HB.out.trans (hb2.mono HB.out.size))
  have HT := Lib.hid (HT.out.kept hb2)
  clear hb2
  go_wp2_with fail
  refine (CS.out w2 HT.out).mono ?_; rintro e w3 ⟨rfl, hb3⟩
  have HB := Lib.hid (HB.out.trans (hb3.mono HB.out.size))
  clear hb3
  go_wp2_with fail
  refine (CA.out w3).mono ?_; rintro e w4 ⟨rfl, hb4⟩
  have HB := Lib.hid (HB.out.trans (hb4.mono HB.out.size))
  clear hb4
  go_wp2_with fail
  go_ret
  exact ⟨rfl, HB.out⟩
end Go.Proofs.YtmhjmoeeahepaaaGreat
