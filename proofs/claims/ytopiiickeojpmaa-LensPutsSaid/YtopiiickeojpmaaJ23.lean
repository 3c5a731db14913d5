import Derived.Test.YtopiiickeojpmaaAP13
import Derived.Test.YtopiiickeojpmaaJ14
/- Layer 13: the chapter's example. -/
namespace Go.Proofs.Ytopiiickeojpmaa
open Go.ChangeShapes Go.WideShapes Go.ChangeAt Go.RowKit
set_option linter.unusedVariables false
set_option linter.unusedSimpArgs false
set_option maxRecDepth 100000
open Bits hiding packF pack_length
open RunsMath KraftMath CanonMath TurnMath Pm
theorem i2 (w : World) : IsInts (w.alloc (.cells #[.int .i64 1, .int .i64 1] 3)) (some ⟨w.heap.size, 0, none⟩) [1, 1] := IsInts.new w [1, 1] 3 (0, 0) (by decide)
theorem i16 (w : World) : IsInts (w.alloc (.cells #[.int .i64 16] 3)) (some ⟨w.heap.size, 0, none⟩) [16] := IsInts.new w [16] 3 (0, 0) (by decide)
set_option maxHeartbeats 3200000 in
theorem awake13 (w : World) : Calls Try.prog 5 #[] w fun e w' => e = .returned (.bool true) ∧ Below w.heap.size w w' := by
  have hwl : writeB (packL [1, 1]) (ofR (packL [1, 1])) = writeB [(1, 0), (1, 0)] O11 := by rw [p11, o11]; rfl
  obtain ⟨b, hb⟩ : ∃ b, writeB [(1, 0), (1, 0)] O11 = b := ⟨_, rfl⟩
  have hbl : b.length = 60 := by rw [← hb]; exact w11
  obtain ⟨k, -, hsp, -⟩ := spread_pack b
  obtain ⟨S, hS⟩ : ∃ S, pack b = S := ⟨_, rfl⟩
  rw [hS] at hsp
  have CN := Lib.hid (wNew w)
  have CP := Lib.hid (fun W g B A (h : IsWriter W g B []) (hi : IsInts W A [1, 1]) => show Calls Try.prog 8 #[.pointer (some ⟨g, 0, none⟩), .slice A 2 2] W fun e w' => e = .returned (.int .i64 0) ∧ PenW W w' g B b from by
    have := cPutOk W g B [] h (by simp) A 2 [1, 1] hi (by simp) (by decide) (by decide)
    rw [hwl, hb] at this
    exact this)
  have CB := Lib.hid (fun W g B (h : IsWriter W g B b) => show Calls Try.prog 14 #[.pointer (some ⟨g, 0, none⟩)] W fun e w' => e = .returned (.string ⟨S.toArray⟩) ∧ Below W.heap.size W w' from by
    have := wBytes W g B b h
    rw [hS] at this
    exact this)
  have CRN := Lib.hid (fun W => show Calls Try.prog 16 #[.string ⟨S.toArray⟩] W fun e w' => e = .returned (.pointer (some ⟨W.heap.size + 1, 0, none⟩)) ∧ IsReader w' (W.heap.size + 1) S 0 ∧ Below W.heap.size W w' ∧ w'.heap.size = W.heap.size + 2 from
    rNew ⟨S.toArray⟩ (by rw [← hS]; show (pack b).toArray.size ≤ _; rw [List.size_toArray, Bits.pack_length, hbl]; decide) W)
  have CR2 := Lib.hid (fun W g (h : IsReader W g S 0) => show Calls Try.prog 17 #[.pointer (some ⟨g, 0, none⟩), .int .i64 2] W fun e w' => ∃ v, e = .returned (.tuple #[v, .int .i64 0]) ∧ Keeps (fun k => k = g) W w' ∧ OwnI W.heap.size w' v [1, 1] from
    (cReadOk W g S [1, 1] (by simp) (by decide) (by decide) _ (by rw [hwl, hb]; exact hsp) h).mono fun e w' ⟨v, h1, h2, h3, _⟩ => ⟨v, h1, h2, h3⟩)
  have CR7 := Lib.hid (fun W g (h : IsReader W g S 0) => cRead7 W g (by rw [hb, hS]; exact h))
  have CR0 := Lib.hid (fun p W => cRead0 p W)
  have CLN := Lib.hid (fun W g B (h : IsWriter W g B b) => show Calls Try.prog 9 #[.pointer (some ⟨g, 0, none⟩)] W fun e w' => e = .returned (.int .i64 60) ∧ ∃ k, w' = W.drewN k from by
    have := wLen W g B b h
    rw [hbl] at this
    exact this)
  have CSZ := Lib.hid (fun W A (hi : IsInts W A [1, 1]) => show Calls Try.prog 10 #[.slice A 2 2] W fun e w' => e = .returned (.int .i64 60) ∧ Below W.heap.size W w' from by
    have := cSizeOk A 2 [1, 1] (by simp) (by decide) (by decide) W hi
    rw [hwl, hb, hbl] at this
    exact this)
  have CIN := Lib.hid (fun W v u (h1 : IsL W v [1, 1]) (h2 : IsL W u [1, 1]) => show Calls Try.prog 18 #[v, u] W fun e w' => e = .returned (.bool true) ∧ ∃ k, w' = W.drewN k from intsL h1 h2 true (by simp))
  have CPN := Lib.hid (fun (gw : Nat) W => cPutBad ⟨gw, 0, none⟩ (.slice none 0 0) 5 (by decide) W (cCheckLim none 0 0 (.inl rfl) (by decide) W))
  have CPS := Lib.hid (fun (gw : Nat) A W (hi : IsInts W A [16]) => show Calls Try.prog 8 #[.pointer (some ⟨gw, 0, none⟩), .slice A 1 1] W fun e w' => e = .returned (.int .i64 2) ∧ w' = W from cPutBad ⟨gw, 0, none⟩ (.slice A 1 1) 2 (by decide) W (cCheckIn A 1 [16] (by decide) (by decide) W hi 2 (by decide)))
  have CPZ := Lib.hid (fun a n c W => cPutNil a n c W)
  have I2 := Lib.hid i2
  have I16 := Lib.hid i16
  clear hwl hb hbl hS hsp
  go_enter Try.func5, Try.ntmps5
  go_wp2_with fail
  refine CN.out.mono ?_; rintro e w1 ⟨rfl, hw, hbw, hz, hf⟩
  have HW := Lib.hid (show Wr w.heap.size w w1 w.heap.size w.heap.size [] from ⟨hw, hbw, hf⟩)
  have hsz1 := hbw.size
  clear hw hbw hz hf CN
  go_wp2_with fail
  obtain ⟨gw, hgw⟩ : ∃ gw, w.heap.size = gw := ⟨_, rfl⟩
  have HI1 := Lib.hid (I2.out w1)
  have hba : Below w1.heap.size w1 (w1.alloc (.cells #[.int .i64 1, .int .i64 1] 3)) := (Below.refl _ _).alloc (Nat.le_refl _) _
  have HWa := Lib.hid (HW.out.below hba hsz1)
  rw [hgw] at HWa hsz1
  obtain ⟨wa, hwa⟩ : ∃ wa, w1.alloc (.cells #[.int .i64 1, .int .i64 1] 3) = wa := ⟨_, rfl⟩
  obtain ⟨ga, hga⟩ : ∃ ga, w1.heap.size = ga := ⟨_, rfl⟩
  have hsza := hba.size
  rw [hwa] at HI1 HWa hsza ⊢
  rw [hga] at HI1 hsza hsz1 ⊢
  rw [hgw]
  have HGW := Lib.hid hgw
  clear hwa hga hba HW hgw
  have hNa : gw ≤ wa.heap.size := by omega
  refine (CP.out wa gw gw _ HWa.out.wr HI1.out).mono ?_; rintro e w2 ⟨rfl, hp2⟩
  have HW2 := Lib.hid (HWa.out.pen hp2 hNa)
  have hN2 : gw ≤ w2.heap.size := Nat.le_trans hNa hp2.2.1.size
  clear hp2 HWa HI1 CP hsza hNa
  go_wp2_with fail
  refine (CB.out w2 gw gw HW2.out.wr).mono ?_; rintro e w3 ⟨rfl, hb3⟩
  go_wp2_with fail
  refine (CRN.out w3).mono ?_; rintro e w4 ⟨rfl, hr4, hb4, hz4⟩
  obtain ⟨g4, hg4⟩ : ∃ g4, w3.heap.size + 1 = g4 := ⟨_, rfl⟩
  rw [hg4] at hr4 ⊢
  have C5 := Lib.hid (CR2.out w4 g4 hr4)
  have HX4 := Lib.hid (And.intro hb3 (And.intro hb4 (And.intro hz4 hg4)))
  clear hr4 hb3 hb4 hz4 hg4 CR2
  go_wp2_with fail
  refine C5.out.mono ?_; rintro e w5 ⟨v5, rfl, hk5, ho5⟩
  obtain ⟨pv, cv, hv⟩ := OwnS.slice ho5
  have hv2 : v5 = .slice pv 2 cv := hv
  clear hv
  subst hv2
  have hb5 : Below w2.heap.size w2 w5 := HX4.out.1.trans ((HX4.out.2.1.trans (hk5.below (B := w3.heap.size) (fun k hk => ⟨by have := HX4.out.2.2.1; omega, fun e => by have := HX4.out.2.2.2; omega⟩))).mono HX4.out.1.size)
  have HW5 := Lib.hid (HW2.out.below hb5 hN2)
  have hN5 : gw ≤ w5.heap.size := Nat.le_trans hN2 hb5.size
  have HO5 := Lib.hid (ho5.base (B' := gw) (by have := HX4.out.2.1.size; have := HX4.out.1.size; omega))
  clear hk5 ho5 hb5 C5 HX4 HW2 hN2
  go_wp2_with fail
  refine (CB.out w5 gw gw HW5.out.wr).mono ?_; rintro e w6 ⟨rfl, hb6⟩
  go_wp2_with fail
  refine (CRN.out w6).mono ?_; rintro e w7 ⟨rfl, hr7, hb7, hz7⟩
  obtain ⟨g7, hg7⟩ : ∃ g7, w6.heap.size + 1 = g7 := ⟨_, rfl⟩
  rw [hg7] at hr7 ⊢
  have C8 := Lib.hid (CR7.out w7 g7 hr7)
  have HX7 := Lib.hid (And.intro hb6 (And.intro hb7 (And.intro hz7 hg7)))
  clear hr7 hb6 hb7 hz7 hg7 CR7
  go_wp2_with fail
  refine C8.out.mono ?_; rintro e w8 ⟨rfl, hk8⟩
  have hb8 : Below w5.heap.size w5 w8 := HX7.out.1.trans ((HX7.out.2.1.trans (hk8.below (B := w6.heap.size) (fun k hk => ⟨by have := HX7.out.2.2.1; omega, fun e => by have := HX7.out.2.2.2; omega⟩))).mono HX7.out.1.size)
  have HW8 := Lib.hid (HW5.out.below hb8 hN5)
  have hN8 : gw ≤ w8.heap.size := Nat.le_trans hN5 hb8.size
  have HO8 := Lib.hid (OwnS.kept HO5.out hb8)
  clear hk8 hb8 C8 HX7 HW5 hN5 HO5
  go_wp2_with fail
  refine (CB.out w8 gw gw HW8.out.wr).mono ?_; rintro e w9 ⟨rfl, hb9⟩
  have HW9 := Lib.hid (HW8.out.below hb9 hN8)
  have hN9 : gw ≤ w9.heap.size := Nat.le_trans hN8 hb9.size
  have HO9 := Lib.hid (OwnS.kept HO8.out hb9)
  clear hb9 HW8 hN8 HO8
  go_wp2_with fail
  refine (CRN.out w9).mono ?_; rintro e w10 ⟨rfl, hr10, hb10, hz10⟩
  have HW10 := Lib.hid (HW9.out.below hb10 hN9)
  have hN10 : gw ≤ w10.heap.size := Nat.le_trans hN9 hb10.size
  have HO10 := Lib.hid (OwnS.kept HO9.out hb10)
  clear hr10 hb10 hz10 HW9 hN9 HO9
  go_wp2_with fail
  refine (CR0.out _ w10).mono ?_; rintro e w11 ⟨rfl, hb11⟩
  have HW11 := Lib.hid (HW10.out.below hb11 hN10)
  have hN11 : gw ≤ w11.heap.size := Nat.le_trans hN10 hb11.size
  have HO11 := Lib.hid (OwnS.kept HO10.out hb11)
  clear hb11 HW10 hN10 HO10
  go_wp2_with fail
  refine (CLN.out w11 gw gw HW11.out.wr).mono ?_; rintro e w12 ⟨rfl, kk, h12⟩
  have hb12 : Below w11.heap.size w11 w12 := by rw [h12]; exact below_dn (Below.refl _ _) kk
  have HB12 := Lib.hid (HW11.out.old.trans (hb12.mono hN11))
  have hN12 : gw ≤ w12.heap.size := Nat.le_trans hN11 hb12.size
  have HO12 := Lib.hid (OwnS.kept HO11.out hb12)
  clear h12 hb12 HW11 hN11 HO11 CLN CB CRN CR0
  go_wp2_with fail
  have hb13 : Below w12.heap.size w12 (w12.alloc (.cells #[.int .i64 1, .int .i64 1] 3)) := (Below.refl _ _).alloc (Nat.le_refl _) _
  refine (CSZ.out _ _ (I2.out w12)).mono ?_; rintro e w14 ⟨rfl, hb14⟩
  have hb14 := hb13.trans (hb14.mono hb13.size)
  have HB14 := Lib.hid (HB12.out.trans (hb14.mono hN12))
  have hN14 : gw ≤ w14.heap.size := Nat.le_trans hN12 hb14.size
  have HO14 := Lib.hid (OwnS.kept HO12.out hb14)
  clear hb13 hb14 HB12 hN12 HO12 CSZ
  go_wp2_with fail
  have hb15 : Below w14.heap.size w14 (w14.alloc (.cells #[.int .i64 1, .int .i64 1] 3)) := (Below.refl _ _).alloc (Nat.le_refl _) _
  refine (CIN.out _ _ _ (OwnS.isL (OwnS.kept HO14.out hb15) (by decide)) ⟨_, 2, rfl, I2.out w14⟩).mono ?_; rintro e w16 ⟨rfl, k16, rfl⟩
  have HB16 := Lib.hid (HB14.out.trans ((below_dn hb15 k16).mono hN14))
  have hN16 : gw ≤ ((w14.alloc (.cells #[.int .i64 1, .int .i64 1] 3)).drewN k16).heap.size := by show gw ≤ (w14.alloc _).heap.size; exact Nat.le_trans hN14 hb15.size
  obtain ⟨wx, hwx⟩ : ∃ wx, (w14.alloc (.cells #[.int .i64 1, .int .i64 1] 3)).drewN k16 = wx := ⟨_, rfl⟩
  rw [hwx] at HB16 hN16 ⊢
  clear hwx hb15 HB14 hN14 HO14 CIN
  go_wp2_with fail
  refine (CPN.out gw wx).mono ?_; rintro e w17 ⟨rfl, h17⟩; rw [h17]; clear h17 w17
  go_wp2_with fail
  refine (CPS.out gw _ _ (I16.out wx)).mono ?_; rintro e w18 ⟨rfl, h18⟩; rw [h18]; clear h18 w18
  have HB18 := Lib.hid (HB16.out.trans ((Below.refl gw wx).alloc hN16 (.cells #[.int .i64 16] 3)))
  clear HB16
  go_wp2_with fail
  refine (CPZ.out _ _ _ _).mono ?_; rintro e w19 ⟨rfl, h19⟩; rw [h19]; clear h19 w19
  go_wp2_with fail
  go_ret
  exact ⟨rfl, by rw [HGW.out]; exact HB18.out⟩
end Go.Proofs.Ytopiiickeojpmaa

/- Layer 9: the document's Encode. -/
namespace Go.Proofs.Ytopiiickeojpmaa
open Go.ChangeShapes Go.WideShapes Go.ChangeAt Go.RowKit
set_option linter.unusedVariables false
set_option linter.unusedSimpArgs false
set_option maxRecDepth 100000
open KraftMath CanonMath
/-- append of a row of bools to a row of the call's own, as a step of a region that draws. -/
theorem step_rowB {ops : Array Oper} {o : Oper} {a : Act} {W : World} {K : Act → World → Prop} {Q : Exit → Act → World → Prop} {R : Prop} (hgd : o.guard = none) (s x : Operand)
    (ho : o.op = .call { callee := .builtin .append, args := #[s, x], argTypes := #[35, 35] })
    (B : Nat) (v : Value) (l ys : List Bool) (hs : a.eval s = v) (hown : OwnB B W v l) (va : Option Addr) (m c : Nat) (hx : a.eval x = .slice va m c) (hm : m = ys.length) (hys : IsBoo W va ys) (hpos : 1 ≤ ys.length) (hl : l.length + ys.length ≤ 1000000) (hB : B ≤ W.heap.size)
    (h : ∀ v' w', OwnB B w' v' (l ++ ys) → Below B W w' → K (a.put o.dst v') w') : if Region.wanted o (yielded ops a.tmps) = true then Oper.wp Try.prog o a W K Q else R := by
  obtain ⟨i0, hi, h1, h2, h3⟩ := info_get info_bool
  obtain ⟨ad, rfl, -, -⟩ := hys.at 0 hpos
  have hc : ∀ j, j < ys.length → W.cell? (ad.add j) = some (.bool (ys.getD j false)) := by
    intro j hj
    obtain ⟨ad', e, -, hc⟩ := hys.at j hj
    injection e with e; subst e; exact hc
  have hf : ∀ q : List Bool, q.flatMap fB = q.map Value.bool := by
    intro q
    induction q with
    | nil => rfl
    | cons z q ih => rw [List.flatMap_cons, ih]; rfl
  subst hm
  refine step_append_at hgd s x 35 ho B 4 i0 (.bool false) 1 Try.underlying35 hi h1 h2 h3 rfl v l.length (l.flatMap fB) hs hown ad ys.length c (ys.map Value.bool) hx (by simp) ?_ (by intro u hu; obtain ⟨z, -, rfl⟩ := List.mem_map.1 hu; rfl) (by unfold maxLen; omega) (by omega) hB hpos ?_
  · intro j u hj
    rw [List.getElem?_map] at hj
    cases hq : ys[j]? with
    | none => rw [hq] at hj; simp at hj
    | some z =>
      rw [hq] at hj
      have hlt := (List.getElem?_eq_some_iff.1 hq).1
      simp only [Option.map_some, Option.some.injEq] at hj
      rw [hc j hlt, ← hj]
      simp [List.getD_eq_getElem?_getD, hq]
  · intro k cap w' ho' hg' hk
    refine h _ w' ?_ ?_
    · unfold OwnB OwnS
      rw [List.flatMap_append, hf ys, List.length_append]
      exact ho'
    · exact (Below.refl _ _).grown hg' hB (fun j hj => (World.ownsRow.lt hown j hj).1)
set_option maxHeartbeats 3200000 in
theorem dEncode9 (a b : Option Addr) (ca cb : Nat) (l syms : List Int) (w : World) (h1 : IsInts w a l) (h2 : IsInts w b syms) (hl0 : l.length ≤ 1000) (hs : syms.length ≤ 1000) (S : List Bool) (E : Int) (hR : encL l syms = (S, E)) :
    Calls Try.prog 34 #[.slice a l.length ca, .slice b syms.length cb] w fun e w' => ∃ v, e = .returned (.tuple #[v, .int .i64 E]) ∧ OwnB w.heap.size w' v S ∧ Below w.heap.size w w' := by
  have C1 := Lib.hid (rCodes a ca l w h1 (by omega))
  by_cases hE : check l 16 = 0
  · have HCL := Lib.hid (codes_len (l := l) hE)
    have HBAD := Lib.hid (show syms.all (goodS l) = false → S = [] ∧ E = 7 by
      intro h
      unfold encL at hR
      rw [if_neg (by simp [hE]), h, if_neg (by decide)] at hR
      injection hR with e1 e2
      exact ⟨e1.symm, e2.symm⟩)
    have HGOOD := Lib.hid (show syms.all (goodS l) = true → S = encT l syms ∧ E = 0 by
      intro h
      unfold encL at hR
      rw [if_neg (by simp [hE]), h, if_pos rfl] at hR
      injection hR with e1 e2
      exact ⟨e1.symm, e2.symm⟩)
    have HCA := Lib.hid (fun s hs => codes_at (l := l) hE (s := s) hs)
    have HLI := Lib.hid (fun s hs => lenI (l := l) hE (s := s) hs)
    have HLB := Lib.hid (fun s hs => ok_b (l := l) hE s hs)
    have HCB := Lib.hid (fun s hs => ok_c (l := l) hE (s := s) hs)
    have HTL := Lib.hid (fun t hg => encT_len (l := l) hE t hg)
    have G1 := Lib.hid h1; have G2 := Lib.hid h2
    rw [hE] at C1
    have hll := h1.1
    clear hE hR h1 h2
    go_enter Try.func34, Try.ntmps34
    go_wp2_with fail
    refine C1.out.mono ?_; rintro e w1 ⟨v1, rfl, hI1, hb1⟩
    obtain ⟨cc, cd, rfl, hI1⟩ := hI1
    rw [HCL.out]
    have HI := Lib.hid hI1
    have HB := Lib.hid hb1
    have HG1 := Lib.hid (G1.out.kept hb1)
    have HG2 := Lib.hid (G2.out.kept hb1)
    clear hI1 hb1
    go_wp2_with fail
    go_loopw [8, 9] (fun u i wr => ∃ k : Nat, k ≤ syms.length ∧ i = .int .i64 k ∧ Hid ((syms.take k).all (goodS l) = true) ∧ OwnB w1.heap.size wr u (encT l (syms.take k)) ∧ Below w1.heap.size w1 wr) (fun _ i _ => syms.length - (intOf i).toNat)
    case atStart => exact ⟨0, Nat.zero_le _, rfl, Lib.hid (by simp), by simpa [encT] using OwnS.nil, Below.refl _ _⟩
    case round =>
      obtain ⟨k, hk, rfl, hgd, hown, hb⟩ := hrel
      obtain ⟨wo, hwo⟩ : ∃ wo : World, wo = wr := ⟨_, rfl⟩
      subst hwo
      by_cases hlt : k < syms.length
      · have hgs := HG2.out.kept hb
        obtain ⟨x, rfl, hxb, cx0⟩ := hgs.at k hlt
        have cx := cx0 k hlt
        have HNT := Lib.hid (encT_take l syms k hlt)
        have HAT := Lib.hid (fun h2 => all_take l syms k hlt hgd.out h2)
        have HAB := Lib.hid (fun h2 => HBAD.out (all_bad l syms k hlt h2))
        have HTLk := Lib.hid (HTL.out _ hgd.out)
        obtain ⟨Z, hZ⟩ : ∃ Z, syms.getD k 0 = Z := ⟨_, rfl⟩
        rw [hZ] at cx HNT HAT HAB
        have HGS := Lib.hid (show goodS l Z = (decide (0 ≤ Z) && decide (Z < l.length) && decide (l.getD Z.toNat 0 ≠ 0)) from rfl)
        have HBO := Lib.hid hb
        have HOW := Lib.hid hown
        clear hZ cx0 hgs hb hown
        by_cases hz1 : Z < 0
        · obtain ⟨rfl, rfl⟩ := HAB.out (by rw [HGS.out]; simp; omega)
          have HBF := Lib.hid (HB.out.trans (HBO.out.mono HB.out.size))
          have hd1 : decide (Z < 0) = true := by simpa using hz1
          clear HAB
          go_wp2_with fail
          go_ret2
          exact ⟨_, rfl, OwnS.nil, HBF.out⟩
        · obtain ⟨s, rfl⟩ : ∃ s : Nat, Z = s := ⟨Z.toNat, by omega⟩
          have hd1 : decide ((s : Int) < 0) = false := by simp
          by_cases hz2 : s < l.length
          · have hd2 : decide ((l.length : Int) ≤ (s : Int)) = false := by simp; omega
            have hgl := HG1.out.kept HBO.out
            have hgc := HI.out.kept HBO.out
            obtain ⟨y, rfl, hyb, cy0⟩ := HG1.out.at s hz2
            have hyb2 : (y.add s).block < w1.heap.size := by rw [add_block]; exact hyb
            have cy := (HBO.out.cell hyb2).trans (cy0 s hz2)
            have hLs := HLI.out s hz2
            rw [hLs] at cy
            rw [Int.toNat_natCast, hLs] at HGS
            by_cases hz3 : len l s = 0
            · obtain ⟨rfl, rfl⟩ := HAB.out (by rw [HGS.out, hz3]; simp)
              have HBF := Lib.hid (HB.out.trans (HBO.out.mono HB.out.size))
              rw [hz3] at cy
              clear HAB cy0 hgl hgc hLs
              go_wp2_with fail
              go_ret2
              exact ⟨_, rfl, OwnS.nil, HBF.out⟩
            · have hne : (((len l s : Nat) : Int) == 0) = false := by rw [beq_eq_false_iff_ne]; omega
              obtain ⟨z, rfl, hzb, cz0⟩ := HI.out.at s (by rw [HCL.out]; exact hz2)
              have hzb2 : (z.add s).block < w1.heap.size := by rw [add_block]; exact hzb
              have cz := (HBO.out.cell hzb2).trans (cz0 s (by rw [HCL.out]; exact hz2))
              rw [HCA.out s hz2] at cz
              have HAT2 := Lib.hid (HAT.out (by rw [HGS.out]; simp; omega))
              have hL16 := (HLB.out s hz2).2
              have hC := HCB.out s hz2
              have hBS : bitsS l (s : Int) = msb (code l s) (len l s) := by unfold bitsS; rw [Int.toNat_natCast]
              rw [hBS] at HNT
              obtain ⟨PRE, hPRE⟩ : ∃ PRE, encT l (syms.take k) = PRE := ⟨_, rfl⟩
              rw [hPRE] at HNT HOW HTLk
              obtain ⟨L, hL⟩ : ∃ L, len l s = L := ⟨_, rfl⟩
              obtain ⟨C, hCC⟩ : ∃ C, code l s = C := ⟨_, rfl⟩
              rw [hL] at cy hne hL16 hC HNT hz3
              rw [hCC] at cz hC HNT
              have hC60 : C < 2 ^ 60 := Nat.lt_of_lt_of_le hC (Nat.pow_le_pow_right (by decide) (by omega))
              have CM := Lib.hid (fun W => dMsb C L (by omega) hC60 W)
              have HPL := Lib.hid (show PRE.length ≤ 16000 by
                have h1 := HTLk.out
                have h2 : (syms.take k).length ≤ 1000 := by rw [List.length_take]; omega
                omega)
              have hyw : (y.add s).block < wo.heap.size := by have := HBO.out.size; omega
              have hzw : (z.add s).block < wo.heap.size := by have := HBO.out.size; omega
              clear cy0 cz0 hgl hgc hLs hBS hL hCC hC hC60 hPRE
              have hs0 : (0 : Int) ≤ (s : Int) := by omega
              have hs1 : (s : Int) < (l.length : Int) := by omega
              have hBo := HBO.out.size
              go_wp2_with fail
              have HL1 := Lib.hid (show 1 ≤ (msb C L).length by rw [msb_len]; omega)
              have HL2 := Lib.hid (show PRE.length + (msb C L).length ≤ 1000000 by rw [msb_len]; have := HPL.out; omega)
              have HC2 := Lib.hid (show wo.cell? (z.add s) = some (.int .i64 C) ∧ wo.cell? (y.add s) = some (.int .i64 L) from ⟨cz, cy⟩)
              go_region_held3 (fun w2 => w2.cell? (z.add s) = some (.int .i64 C) ∧ w2.cell? (y.add s) = some (.int .i64 L)) (first | exact HC2.out | exact ⟨(hb5.cell hzw).trans HC2.out.1, (hb5.cell hyw).trans HC2.out.2⟩ | exact ⟨(hb6.cell hzb2).trans ((hb5.cell hzw).trans HC2.out.1), (hb6.cell hyb2).trans ((hb5.cell hyw).trans HC2.out.2)⟩ | fail) (first | ((go_at_call 50; refine (CM.out _).mono ?_; rintro e w5 ⟨v5, rfl, ho5, hb5⟩; obtain ⟨va, vc, rfl, hi5⟩ := ho5.isB; have hsz5 : wo.heap.size ≤ w5.heap.size := hb5.size)) | ((refine step_rowB rfl (.tmp 44) (.tmp 53) (by rfl) w1.heap.size _ PRE (msb C L) (by rfl) (OwnS.kept HOW.out ((Below.refl _ wo).drew.trans hb5)) va _ vc (by rfl) rfl hi5 HL1.out HL2.out (Nat.le_trans hBo hsz5) ?_; intro v6 w6 ho6 hb6)) | fail)
              all_goals
                have HO6 := Lib.hid (show OwnB w1.heap.size w6 v6 (encT l (syms.take (k + 1))) by rw [HNT.out]; exact ho6)
                have HB6 := Lib.hid (HBO.out.trans (((Below.refl _ wo).drew.trans hb5).mono hBo |>.trans hb6))
                clear ho6 hb6 hb5 hi5 ho5
                go_wp2_with fail
                go_roundw
                case rel => exact ⟨k + 1, by omega, by go_num, HAT2, HO6.out, HB6.out⟩
                case measure => simp [intOf]; omega
          · obtain ⟨rfl, rfl⟩ := HAB.out (by rw [HGS.out]; simp; omega)
            have HBF := Lib.hid (HB.out.trans (HBO.out.mono HB.out.size))
            have hd2 : decide ((l.length : Int) ≤ (s : Int)) = true := by simp; omega
            clear HAB
            go_wp2_with fail
            go_ret2
            exact ⟨_, rfl, OwnS.nil, HBF.out⟩
      · obtain rfl : k = syms.length := by omega
        have hT := hgd.out
        rw [List.take_length] at hT hown
        obtain ⟨rfl, rfl⟩ := HGOOD.out hT
        have HO2 := Lib.hid (hown.base HB.out.size)
        have HBF := Lib.hid (HB.out.trans (hb.mono HB.out.size))
        clear hown hb hT HGOOD HBAD
        go_wp2_with fail
        go_ret2
        exact ⟨_, rfl, HO2.out, HBF.out⟩
  · have hR2 : S = [] ∧ E = check l 16 := by
      unfold encL at hR
      rw [if_pos hE] at hR
      injection hR with e1 e2
      exact ⟨e1.symm, e2.symm⟩
    obtain ⟨rfl, rfl⟩ := hR2
    clear hR h1 h2
    obtain ⟨CE, hCE⟩ : ∃ CE, check l 16 = CE := ⟨_, rfl⟩
    rw [hCE] at hE C1 ⊢
    have hne : (CE != 0) = true := by rw [bne_iff_ne]; exact hE
    clear hCE
    go_enter Try.func34, Try.ntmps34
    go_wp2_with fail
    refine C1.out.mono ?_; rintro e w1 ⟨v1, rfl, hI1, hb1⟩
    have HB := Lib.hid hb1
    clear hI1 hb1
    go_wp2_with fail
    go_ret2
    exact ⟨_, rfl, OwnS.nil, HB.out⟩
end Go.Proofs.Ytopiiickeojpmaa

/- Layer 13: the document's Write. -/
namespace Go.Proofs.Ytopiiickeojpmaa
open Go.ChangeShapes Go.WideShapes Go.ChangeAt Go.RowKit
set_option linter.unusedVariables false
set_option linter.unusedSimpArgs false
set_option maxRecDepth 100000
open Bits hiding packF pack_length
open RunsMath KraftMath CanonMath TurnMath Pm
theorem run_nilB13 {B : Nat} {W : World} {v : Value} {l : List Bool} (h : OwnB B W v l) (ty : TypeId) (c : Nat) : (Builtin.append_ #[35, 35] ty #[v, .slice none 0 c]).run Try.prog W = .ok v W := by
  obtain ⟨i0, hi, h1, h2, h3⟩ := info_get info_bool
  rcases h.2 with ⟨rfl, -⟩ | ⟨g, cap, cur, rfl, -, -, hnc, -⟩
  · simp [Builtin.append_, run_underlying Try.underlying35, sizeOf, typeInfo, hi, Builtin.lenOf, Builtin.firstCells]
  · simp [Builtin.append_, run_underlying Try.underlying35, sizeOf, typeInfo, hi, Builtin.lenOf, Builtin.firstCells, hnc, storeCells]
theorem app_rowB13 {W : World} {ops : Array Oper} {rest : List Oper} {o : Oper} {a : Act} {Q : Exit → Act → World → Prop} (hgd : o.guard = none) (s x : Operand)
    (ho : o.op = .call { callee := .builtin .append, args := #[s, x], argTypes := #[35, 35] })
    (B : Nat) (v : Value) (l ys : List Bool) (hs : a.eval s = v) (hown : OwnB B W v l) (va : Option Addr) (m c : Nat) (hx : a.eval x = .slice va m c) (hm : m = ys.length) (hys : IsBoo W va ys) (hl : l.length + ys.length ≤ 1000000) (hB : B ≤ W.heap.size)
    (h : ∀ v' w', OwnB B w' v' (l ++ ys) → Below B W w' → wpList Try.prog ops Q rest (a.put o.dst v') w') : wpList Try.prog ops Q (o :: rest) a W := by
  by_cases hpos : 1 ≤ ys.length
  · exact wpList_step (fun K hK => step_rowB hgd s x ho B v l ys hs hown va m c hx hm hys hpos hl hB (fun v' w' h1 h2 => hK _ _ (h v' w' h1 h2)))
  · have hy : ys = [] := List.length_eq_zero_iff.1 (by omega)
    subst hy
    obtain rfl : m = 0 := by simpa using hm
    cases va with
    | none =>
      refine wpList_plain hgd fun K hK => ?_
      have hrun := run_nilB13 hown o.type c
      unfold Oper.wp
      simp only [execOp, ho, resolve, invoke, builtin, Sem.run_bind, Sem.run_pure, Result.andThen_ok, List.map_toArray, List.map_cons, List.map_nil, hs, hx, hrun]
      exact hK _ _ (h v W (by rw [List.append_nil]; exact hown) (Below.refl _ _))
    | some ad =>
      obtain ⟨i0, hi, h1, h2, h3⟩ := info_get info_bool
      refine wpList_append_own _ hgd s x 35 ho B 4 i0 (.bool false) 1 1 Try.underlying35 hi h1 h2 h3 rfl (by decide) v l.length (l.flatMap fB) hs hown ad 0 c [] hx rfl (by intro j u hj; simp at hj) (by simp) (by unfold maxLen; simp at hl; omega) (by simp at hl; omega) hB ?_
      intro v' w' ho' hg' _
      refine h v' w' ?_ ((Below.refl _ _).grown hg' hB (fun j hj => (World.ownsRow.lt hown j hj).1))
      rw [List.append_nil]
      simpa [OwnS] using ho'
theorem enc_one {o : List Int} {s : Nat} (hc : check o 16 = 0) (hg : goodS o (s : Int) = true) : encL o [(s : Int)] = (bitsS o s, 0) := by
  unfold encL
  rw [if_neg (by simp [hc]), if_pos (by simp [hg])]
  simp [encT]
set_option maxHeartbeats 6400000 in
theorem dWrite13 (w0 : World) (a b : Option Addr) (c d : Nat) (r : List Run) (o : List Int) (h1 : IsRuns w0 a r) (h2 : IsInts w0 b o) (hR : RunsOk r) (ho : ofR r = o) :
    Calls Try.prog 13 #[.slice a r.length c, .slice b 19 d] w0 fun e w' => ∃ v, e = .returned v ∧ OwnB w0.heap.size w' v (writeB r o) ∧ Below w0.heap.size w0 w' := by
  have hol : o.length = 19 := by rw [← ho, ofR_len]
  have HB7 := Lib.hid (fun i => show 0 ≤ o.getD i 0 ∧ o.getD i 0 ≤ 7 from by rw [← ho]; exact ⟨(hR.of_bd i).1, (hR.of_bd i).2.1⟩)
  have HHS := Lib.hid (head_same o (fun i => (HB7.out i).1) 19 (by decide))
  have CPL := Lib.hid (dPlaces w0)
  have HR := Lib.hid h1
  have HO := Lib.hid h2
  have HL := Lib.hid hol
  have HRK := Lib.hid hR
  have HOF := Lib.hid ho
  have hrl := hR.few
  clear h1 h2 hR ho hol
  go_enter Try.func13, Try.ntmps13
  go_wp2_with fail
  refine CPL.out.mono ?_; rintro e w1 ⟨pv, rfl, hpl, hb1⟩
  obtain ⟨pa, pc, rfl, hpi⟩ := hpl
  have HP := Lib.hid hpi
  have HR1 := Lib.hid (HR.out.kept hb1)
  have HO1 := Lib.hid (HO.out.kept hb1)
  have HBW := Lib.hid hb1
  have hpn : placesI.length = 19 := by decide
  rw [hpn]
  obtain ⟨D, hD⟩ : ∃ D, w1.heap.size = D := ⟨_, rfl⟩
  have HD := Lib.hid hD
  have HB1 := Lib.hid (show Below D w1 w1 from Below.refl _ _)
  have hPI : ∀ i, i < 19 → placesI.getD i 0 = ((placesN.getD i 0 : Nat) : Int) := by decide
  have HPI := Lib.hid hPI
  clear hpi hb1 HR HO CPL hD hPI
  go_wp2_with fail
  go_loopw [6, 7] (fun nv iv wr => ∃ i : Nat, iv = .int .i64 i ∧ i ≤ 19 ∧ nv = .int .i64 (headUp o i : Nat) ∧ Hid (Below D w1 wr)) (fun _ iv _ => 19 - (intOf iv).toNat)
  case atStart => exact ⟨0, rfl, by omega, rfl, HB1⟩
  case round =>
    clear HB1
    obtain ⟨i, rfl, hi, rfl, hb⟩ := hrel
    by_cases hlt : i < 19
    · obtain ⟨xp, hxp, -, cxp⟩ := (HP.out.kept (by rw [HD.out]; exact hb.out)).at i (by rw [hpn]; exact hlt)
      subst hxp
      have cp := cxp i (by rw [hpn]; exact hlt)
      rw [HPI.out i hlt] at cp
      have hp19 := places_lt i hlt
      obtain ⟨p, hpp⟩ : ∃ p, placesN.getD i 0 = p := ⟨_, rfl⟩
      rw [hpp] at cp hp19
      obtain ⟨xo, hxo, -, cxo⟩ := (HO1.out.kept (by rw [HD.out]; exact hb.out)).at p (by rw [HL.out]; exact hp19)
      subst hxo
      have co := cxo p (by rw [HL.out]; exact hp19)
      have hup : headUp o (i + 1) = if 0 < o.getD p 0 ∧ headUp o i < i + 1 then i + 1 else headUp o i := by rw [headUp, hpp]
      have hle := headUp_le o i
      obtain ⟨U, hU⟩ : ∃ U, headUp o i = U := ⟨_, rfl⟩
      rw [hU] at hup hle ⊢
      obtain ⟨V, hV⟩ : ∃ V, o.getD p 0 = V := ⟨_, rfl⟩
      rw [hV] at co hup
      have hii : (i : Int) < 19 := by omega
      have hi0 : (0 : Int) ≤ (i : Int) := by omega
      have hpi : (p : Int) < 19 := by omega
      have hp0 : (0 : Int) ≤ (p : Int) := by omega
      have HUP := Lib.hid hup
      clear cxp cxo hpp hU hV hup
      by_cases h0 : 0 < V
      · by_cases hu : U < i + 1
        · have hui : (U : Int) < (i : Int) + 1 := by omega
          go_wp2_with fail
          go_roundw
          case rel => exact ⟨i + 1, by go_num, by omega, by rw [HUP.out, if_pos ⟨h0, hu⟩]; go_num, hb⟩
          case measure => simp [intOf]; omega
        · have hui : ¬ (U : Int) < (i : Int) + 1 := by omega
          go_wp2_with fail
          go_roundw
          case rel => exact ⟨i + 1, by go_num, by omega, by rw [HUP.out, if_neg (fun e => hu e.2)], hb⟩
          case measure => simp [intOf]; omega
      · go_wp2_with fail
        go_roundw
        case rel => exact ⟨i + 1, by go_num, by omega, by rw [HUP.out, if_neg (fun e => h0 e.1)], hb⟩
        case measure => simp [intOf]; omega
    · obtain rfl : i = 19 := by omega
      rw [HHS.out]
      have hN19 := headN_le o 19
      have hN4 := headN_ge o 19 (by decide)
      obtain ⟨N, hN⟩ : ∃ N, headN o 19 = N := ⟨_, rfl⟩
      have HN := Lib.hid hN
      rw [hN] at hN19 hN4 ⊢
      have hu : IntKind.u64.wrap ((N : Int) - 4) = ((N - 4 : Nat) : Int) := by rw [show (N : Int) - 4 = ((N - 4 : Nat) : Int) by omega]; exact IntWalk.u64_in _ (by omega)
      have CPT := Lib.hid (dPut D (.slice none 0 0) (N - 4) 4 [] wr OwnS.nil (by rw [← HD.out]; exact hb.out.size) (by simp) (by decide) (by omega))
      have hN4i : (4 : Int) ≤ (N : Int) := by omega
      have hN19i : (N : Int) ≤ 19 := by omega
      clear hN
      go_wp2_with fail
      refine CPT.out.mono ?_; rintro e w2 ⟨v2, rfl, ho2, hr2⟩
      rw [List.nil_append] at ho2
      have HO2 := Lib.hid (show OwnB D w2 v2 (headTo o N 0) from by
        have e : headTo o N 0 = bitsOf (N - 4) 4 := by unfold headTo; simp
        rw [e]; exact ho2)
      have HB2 := Lib.hid (hb.out.trans (hr2.below (by rw [← HD.out]; exact hb.out.size) (fun k hk => by cases hk)))
      clear ho2 hr2 CPT hb
      go_wp2_with fail
      go_loopw [8, 10] (fun ov iv wr => ∃ i : Nat, iv = .int .i64 i ∧ i ≤ N ∧ Hid (OwnB D wr ov (headTo o N i)) ∧ Hid (Below D w1 wr)) (fun _ iv _ => N - (intOf iv).toNat)
      case atStart => exact ⟨0, rfl, by omega, HO2, HB2⟩
      case round =>
        clear HO2 HB2
        obtain ⟨i, rfl, hi, ho, hb⟩ := hrel
        by_cases hlt : i < N
        · obtain ⟨xp, hxp, -, cxp⟩ := (HP.out.kept (by rw [HD.out]; exact hb.out)).at i (by rw [hpn]; omega)
          subst hxp
          have cp := cxp i (by rw [hpn]; omega)
          rw [HPI.out i (by omega)] at cp
          have hp19 := places_lt i (by omega)
          have hnx := headTo_next o N i
          unfold lenB at hnx
          obtain ⟨p, hpp⟩ : ∃ p, placesN.getD i 0 = p := ⟨_, rfl⟩
          rw [hpp] at cp hp19 hnx
          obtain ⟨xo, hxo, -, cxo⟩ := (HO1.out.kept (by rw [HD.out]; exact hb.out)).at p (by rw [HL.out]; exact hp19)
          subst hxo
          have co := cxo p (by rw [HL.out]; exact hp19)
          have hv7 := HB7.out p
          have hvl : o.getD p 0 = ((len o p : Nat) : Int) := by unfold len; omega
          have hx8 : len o p < 2 ^ 3 := by unfold len; omega
          rw [hvl] at co
          obtain ⟨X, hX⟩ : ∃ X, len o p = X := ⟨_, rfl⟩
          rw [hX] at co hnx hx8
          have hlen := headTo_len o N i
          have CPT := Lib.hid (dPut D u8 X 3 (headTo o N i) wr ho.out (by rw [← HD.out]; exact hb.out.size) (by omega) (by decide) hx8)
          rw [← hnx] at CPT
          have hu : IntKind.u64.wrap (X : Int) = (X : Int) := IntWalk.u64_in _ (by omega)
          have hii : (i : Int) < (N : Int) := by omega
          have hi19 : (i : Int) < 19 := by omega
          have hi0 : (0 : Int) ≤ (i : Int) := by omega
          have hpi : (p : Int) < 19 := by omega
          have hp0 : (0 : Int) ≤ (p : Int) := by omega
          have HOL := Lib.hid (fun k hk => (OwnS.lt ho.out k hk).1)
          clear cxp cxo hpp hX hv7 hvl hnx hlen ho
          go_wp2_with fail
          refine CPT.out.mono ?_; rintro e w3 ⟨v3, rfl, ho3, hr3⟩
          have HO3 := Lib.hid ho3
          have HB3 := Lib.hid (hb.out.trans (hr3.below (by rw [← HD.out]; exact hb.out.size) HOL.out))
          clear ho3 hr3 CPT hb HOL
          go_wp2_with fail
          go_roundw
          case rel => exact ⟨i + 1, by go_num, by omega, HO3, HB3⟩
          case measure => simp [intOf]; omega
        · obtain rfl : i = N := by omega
          have HO4 := Lib.hid (show OwnB D wr u8 (headB o ++ (r.take 0).flatMap (runB o)) from by
            have := ho.out
            rw [List.take_zero, List.flatMap_nil, List.append_nil]; unfold headB; rw [HN.out]; exact this)
          clear ho
          go_wp2_with fail
          go_loopw [8, 13] (fun ov iv wr => ∃ i : Nat, iv = .int .i64 i ∧ i ≤ r.length ∧ Hid (OwnB D wr ov (headB o ++ (r.take i).flatMap (runB o))) ∧ Hid (Below D w1 wr)) (fun _ iv _ => r.length - (intOf iv).toNat)
          case atStart => exact ⟨0, rfl, Nat.zero_le _, HO4, hb⟩
          case round =>
            clear HO4 hb
            obtain ⟨i, rfl, hi, ho, hb⟩ := hrel
            by_cases hlt : i < r.length
            · obtain ⟨xr, hxr, hxl, cxr⟩ := HR1.out.at i hlt
              subst hxr
              rw [HD.out] at hxl
              obtain ⟨c0, c1⟩ := cxr i hlt
              have c0 : wr.cell? (xr.add (i * 2)) = _ := (hb.out.cell (by rw [add_block]; exact hxl)).trans c0
              have c1 : wr.cell? ⟨(xr.add (i * 2)).block, (xr.add (i * 2)).off + 1, none⟩ = _ := (hb.out.cell (by show (xr.add (i * 2)).block < _; rw [add_block]; exact hxl)).trans c1
              have hmem : r.getD i (0, 0) ∈ r := by rw [List.getD_eq_getElem?_getD, List.getElem?_eq_getElem hlt]; exact List.getElem_mem hlt
              obtain ⟨s, hs, hs19, hn1, hn7, m, hm, hmE, hgd⟩ := HRK.out.sym hmem
              have hc16 := HRK.out.chk16.1
              have hrlen := runs_len HRK.out i hi
              rw [HOF.out] at hn1 hn7 hgd hc16 hrlen
              rw [hs] at c0 hgd hmE
              rw [hm] at c1
              have hrb : runB o (r.getD i (0, 0)) = bitsS o (s : Int) ++ bitsOf m (extra (s : Int)) := by
                unfold runB
                rw [hs, hm, Int.toNat_natCast]
              have hnx := runs_next o r i hlt
              rw [hrb] at hnx
              have HNX := Lib.hid hnx
              have hSl : (bitsS o (s : Int)).length = len o s := by unfold bitsS; rw [msb_len, Int.toNat_natCast]
              obtain ⟨S, hS⟩ : ∃ S, bitsS o (s : Int) = S := ⟨_, rfl⟩
              have henc := enc_one hc16 hgd
              rw [hS] at henc hSl HNX
              have hE7 := extra7 (s : Int)
              obtain ⟨EX, hEX⟩ : ∃ EX, extra (s : Int) = EX := ⟨_, rfl⟩
              have CEX := Lib.hid (fun W => dExtra (s : Int) (EX : Int) (by rw [hEX]) W)
              rw [hEX] at hmE HNX hE7
              have hm128 : m < 128 := Nat.lt_of_lt_of_le hmE (Nat.le_trans (Nat.pow_le_pow_right (by decide) hE7) (by decide))
              have hu : IntKind.u64.wrap (m : Int) = (m : Int) := IntWalk.u64_in _ (by omega)
              have hAL : Below wr.heap.size wr (wr.alloc (.cells #[.int .i64 (s : Int)] 3)) := (Below.refl _ _).alloc (Nat.le_refl _) _
              have CEN := Lib.hid (show Calls Try.prog 34 #[.slice b 19 d, .slice (some ⟨wr.heap.size, 0, none⟩) 1 1] (wr.alloc (.cells #[.int .i64 (s : Int)] 3)) fun e w' => ∃ v, e = .returned (.tuple #[v, .int .i64 0]) ∧ OwnB (wr.alloc (.cells #[.int .i64 (s : Int)] 3)).heap.size w' v S ∧ Below (wr.alloc (.cells #[.int .i64 (s : Int)] 3)).heap.size (wr.alloc (.cells #[.int .i64 (s : Int)] 3)) w' from by
                have := dEncode9 b (some ⟨wr.heap.size, 0, none⟩) d 1 o [(s : Int)] (wr.alloc (.cells #[.int .i64 (s : Int)] 3)) ((HO1.out.kept (by rw [HD.out]; exact hb.out)).kept hAL) (IsInts.new wr [(s : Int)] 3 (0, 0) (by simp)) (by rw [HL.out]; decide) (by simp) S 0 henc
                rw [HL.out] at this
                exact this)
              have hhl : (headB o).length ≤ 61 := by unfold headB; rw [headTo_len]; have := headN_le o 19; omega
              have HLL := Lib.hid (show (headB o ++ (r.take i).flatMap (runB o)).length ≤ 20000 by rw [List.length_append]; omega)
              have HAL := Lib.hid hAL
              have hii : (i : Int) < (r.length : Int) := by omega
              have hi0 : (0 : Int) ≤ (i : Int) := by omega
              have HDS := Lib.hid (show D ≤ wr.heap.size by rw [← HD.out]; exact hb.out.size)
              have HSL := Lib.hid hSl
              clear hSl cxr hmem hs hm hrlen hc16 hgd hrb hnx hS henc hEX hAL hhl
              go_wp2_with fail
              refine CEN.out.mono ?_; rintro e w3 ⟨v3, rfl, ho3, hb3⟩
              obtain ⟨va, cv, rfl, hcv, hboo⟩ := OwnB.boo ho3
              have hb13 : Below wr.heap.size wr w3 := HAL.out.trans (hb3.mono HAL.out.size)
              have HX3 := Lib.hid (OwnS.kept ho.out hb13)
              have HBO := Lib.hid hboo
              have HB3 := Lib.hid (hb.out.trans (hb13.mono HDS.out))
              have HD3 := Lib.hid (show D ≤ w3.heap.size from Nat.le_trans HDS.out hb13.size)
              have HSS := Lib.hid (show (headB o ++ (r.take i).flatMap (runB o)).length + S.length ≤ 1000000 by have := HLL.out; have := HSL.out; omega)
              have hC0 := (hb13.cell (show (xr.add (i * 2)).block < _ by rw [add_block]; have := HDS.out; omega)).trans c0
              have hC1 := (hb13.cell (p := ⟨(xr.add (i * 2)).block, (xr.add (i * 2)).off + 1, none⟩) (show (xr.add (i * 2)).block < _ by rw [add_block]; have := HDS.out; omega)).trans c1
              have HC := Lib.hid (And.intro hC0 hC1)
              clear ho3 hb3 hboo hb13 ho hb CEN HAL c0 c1 hC0 hC1
              go_wp2_with (at_builtin; refine app_rowB13 rfl (.tmp 82) (.tmp 83) rfl D _ _ S rfl HX3.out va S.length cv rfl rfl HBO.out HSS.out HD3.out ?_; intro v4 w4 ho4 hb4)
              have HB4 := Lib.hid (HB3.out.trans hb4)
              have hD4 : D ≤ w4.heap.size := Nat.le_trans HD3.out hb4.size
              have hs0 := (hb4.cell (show (xr.add (i * 2)).block < _ by rw [add_block]; exact hxl)).trans HC.out.1
              have hs1 := (hb4.cell (p := ⟨(xr.add (i * 2)).block, (xr.add (i * 2)).off + 1, none⟩) (show (xr.add (i * 2)).block < _ by rw [add_block]; exact hxl)).trans HC.out.2
              have HS0 := Lib.hid (show w4.cell? ⟨(xr.add (i * 2)).block, (xr.add (i * 2)).off + 1, none⟩ = some (.int .i64 (m : Int)) ∧ w4.cell? (xr.add (i * 2)) = some (.int .i64 (s : Int)) from ⟨hs1, hs0⟩)
              have HS0' := Lib.hid (show w4.drew.cell? ⟨(xr.add (i * 2)).block, (xr.add (i * 2)).off + 1, none⟩ = some (.int .i64 (m : Int)) ∧ w4.drew.cell? (xr.add (i * 2)) = some (.int .i64 (s : Int)) from ⟨hs1, hs0⟩)
              have hxl2 : (xr.add (i * 2)).block < D := by rw [add_block]; exact hxl
              have CPM := Lib.hid (show Calls Try.prog 33 #[v4, .int .u64 m, .int .i64 EX] w4.drew fun e w' => ∃ v', e = .returned (.tuple #[v', .int .i64 0]) ∧ OwnB D w' v' (headB o ++ (r.take (i + 1)).flatMap (runB o)) ∧ Below D w4 w' from by
                have := dPut D v4 m EX _ w4.drew (OwnS.drew ho4) hD4 (by rw [List.length_append]; have := HSS.out; omega) (by omega) hmE
                refine this.mono ?_
                rintro e w' ⟨v', h1, h2, h3⟩
                refine ⟨v', h1, ?_, ((Below.refl D w4).drew).trans (h3.below hD4 (fun k hk => (OwnS.lt ho4 k hk).1))⟩
                rw [HNX.out]
                simp only [List.append_assoc] at h2 ⊢
                exact h2)
              clear ho4 hb4 hs0 hs1 HX3 HBO HB3 HD3 HSS HC HNX
              go_region_held3 (fun V => V.cell? ⟨(xr.add (i * 2)).block, (xr.add (i * 2)).off + 1, none⟩ = some (.int .i64 (m : Int)) ∧ V.cell? (xr.add (i * 2)) = some (.int .i64 (s : Int))) (first | exact HS0.out | exact HS0'.out | exact HS1.out | fail) (first | (go_at_call 35; (with_reducible refine (CEX.out _).mono ?_; rintro e wx ⟨rfl, rfl⟩)) | (go_at_call 33; (with_reducible refine CPM.out.mono ?_; rintro e w5 ⟨v5, rfl, ho5, hb5⟩; have HO5 := Lib.hid ho5; have HB5 := Lib.hid hb5; have HS1 := Lib.hid (show w5.cell? ⟨(xr.add (i * 2)).block, (xr.add (i * 2)).off + 1, none⟩ = some (.int .i64 (m : Int)) ∧ w5.cell? (xr.add (i * 2)) = some (.int .i64 (s : Int)) from ⟨(hb5.cell (p := ⟨(xr.add (i * 2)).block, (xr.add (i * 2)).off + 1, none⟩) hxl2).trans HS0.out.1, (hb5.cell hxl2).trans HS0.out.2⟩); clear ho5 hb5)) | fail)
              have HBE := Lib.hid (HB4.out.trans HB5.out)
              simp only [Exit.then]
              rename_i hK hHeld
              refine hK _ _ ?_
              clear hK hHeld HS0 HS0' CPM CEX HB4 HB5
              go_wp2_with fail
              go_roundw
              case rel => exact ⟨i + 1, by go_num, by omega, HO5, HBE⟩
              case measure => simp [intOf]; omega
            · obtain rfl : i = r.length := by omega
              have hii : ¬ (r.length : Int) < (r.length : Int) := by omega
              have HOE := Lib.hid (show OwnB w0.heap.size wr u8 (writeB r o) from by
                have := ho.out
                rw [List.take_length] at this
                exact OwnS.base this (by rw [← HD.out]; exact HBW.out.size))
              have HBE := Lib.hid (HBW.out.trans (hb.out.mono (by rw [← HD.out]; exact HBW.out.size)))
              clear ho hb
              go_wp2_with fail
              go_ret
              exact ⟨_, rfl, HOE.out, HBE.out⟩
end Go.Proofs.Ytopiiickeojpmaa
