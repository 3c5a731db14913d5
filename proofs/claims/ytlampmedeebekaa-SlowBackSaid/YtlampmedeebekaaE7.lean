/- Layer 9: read, Decode. -/
import Derived.Test.YtlampmedeebekaaE5
import Derived.Test.YtlampmedeebekaaE6
namespace Go.Proofs.Ytlampmedeebekaa
open Go.ChangeShapes Go.WideShapes Go.ChangeAt Go.RowKit
set_option linter.unusedVariables false
set_option linter.unusedSimpArgs false
set_option maxRecDepth 100000
open KraftMath CanonMath
theorem dec_short {l : List Int} {row : List Bool} (h : check l 16 = 0) (hn : ∀ s, ¬ Hit l row s) {s : Nat} (hs : s < l.length) (hlt : row.length < len l s) : decL l row = (0, 0, 3) := by
  rw [decL_none h hn, if_pos]
  obtain ⟨t, ht, h0, hb⟩ := no_gap h hn ⟨s, hs, hlt⟩
  rw [List.any_eq_true]
  refine ⟨t, List.mem_range.2 ht, ?_⟩
  unfold shortAt
  rw [Bool.and_eq_true, decide_eq_true_iff]
  exact ⟨h0, hb⟩
theorem dec_form {l : List Int} {row : List Bool} (h : check l 16 = 0) (hn : ∀ s, ¬ Hit l row s) (hle : ∀ s, s < l.length → len l s ≤ row.length) : decL l row = (0, 0, 4) := by
  rw [decL_none h hn, if_neg]
  rw [List.any_eq_true]
  rintro ⟨t, ht, h2⟩
  have ht := List.mem_range.1 ht
  unfold shortAt at h2
  rw [Bool.and_eq_true, decide_eq_true_iff, begL_row] at h2
  obtain ⟨h0, h3, h4⟩ := h2
  have hl := hle t ht
  refine hn t ?_
  rw [hit_iff h]
  have e : len l t = row.length := by omega
  refine ⟨ht, h0, hl, ?_⟩
  rw [e, Nat.sub_self, Nat.pow_zero, Nat.div_one] at h4
  have hc := ok_c h ht
  rw [e] at hc ⊢
  rw [List.take_length, ← h4, val_msb _ _ hc]
theorem val_next (row : List Bool) (j : Nat) (hj : j < row.length) : val (row.take (j + 1)) = 2 * val (row.take j) + (row.getD j false).toNat := by
  rw [List.take_succ_eq_append_getElem hj, val_snoc]
  simp [List.getD_eq_getElem?_getD, hj]
theorem used_pos {l : List Int} (h : check l 16 = 0) : 1 ≤ l.length := by
  cases l with
  | nil => rcases ((check_ok [] 16).1 h).2.2.2.2 with ⟨h1, -⟩ | ⟨h1, -⟩ <;> simp [used] at h1
  | cons x l => simp
theorem step_none {l : List Int} {row : List Bool} {j : Nat} (h : check l 16 = 0) (hno : ∀ s, Hit l row s → j < len l s) (hs : ∀ s, s < l.length → ¬ (l.getD s 0 = ((j + 1 : Nat) : Int) ∧ (codesL l).getD s 0 = ((val (row.take (j + 1)) : Nat) : Int))) : ∀ s, Hit l row s → j + 1 < len l s := by
  intro s hh
  have h1 := hno s hh
  refine Nat.lt_of_le_of_ne h1 fun e => ?_
  have h2 := (hit_iff h).1 hh
  refine hs s h2.1 ⟨?_, ?_⟩
  · rw [lenI h h2.1, ← e]
  · rw [codes_at h h2.1, ← h2.2.2.2, ← e]
theorem step_hit {l : List Int} {row : List Bool} {j s : Nat} (h : check l 16 = 0) (hj : j < row.length) (hs : s < l.length) (h1 : l.getD s 0 = ((j + 1 : Nat) : Int)) (h2 : (codesL l).getD s 0 = ((val (row.take (j + 1)) : Nat) : Int)) : decL l row = ((s : Int), ((j + 1 : Nat) : Int), 0) := by
  rw [lenI h hs] at h1
  rw [codes_at h hs] at h2
  have e1 : len l s = j + 1 := by omega
  have e2 : code l s = val (row.take (j + 1)) := by omega
  have hh : Hit l row s := (hit_iff h).2 ⟨hs, by omega, by omega, by rw [e1, e2]⟩
  rw [decL_hit h hh, e1]
set_option maxHeartbeats 3200000 in
theorem sRead (w0 w : World) (g cb : Nat) (a c b : Option Addr) (ca cc : Nat) (l : List Int) (row : List Bool) (hE : check l 16 = 0) (h1 : IsInts w0 a l) (h2 : IsInts w0 c (codesL l)) (h3 : IsBoo w0 b row) (hw : Below w0.heap.size w0 w) (hg : w0.heap.size ≤ g)
    (hbox : w.heap[g]? = some (.cells #[.slice b row.length cb, .int .i64 0] 82 (0, 0))) (hr : row.length ≤ 1000000) (X Y E : Int) (hR : decL l row = (X, Y, E)) :
    Calls Try.prog 53 #[.slice a l.length ca, .slice c l.length cc, .func (Fn.func 54) #[.pointer (some ⟨g, 0, none⟩)] #[]] w fun e w' => e = .returned (.tuple #[.int .i64 X, .int .i64 Y, .int .i64 E]) ∧ Below w0.heap.size w0 w' := by
  have G1 := Lib.hid h1; have G2 := Lib.hid h2; have G3 := Lib.hid h3
  have HCL := Lib.hid (codes_len (l := l) hE)
  have hl1 := used_pos hE
  obtain ⟨M, hM1, hM2⟩ : ∃ M : Int, (∀ x ∈ l, x ≤ M) ∧ M ∈ l := by
    have key : ∀ l : List Int, 1 ≤ l.length → ∃ M : Int, (∀ x ∈ l, x ≤ M) ∧ M ∈ l := by
      intro l
      induction l with
      | nil => intro h; simp at h
      | cons x l ih =>
        intro _
        cases l with
        | nil => exact ⟨x, by simp, by simp⟩
        | cons y l =>
          obtain ⟨M, h1, h2⟩ := ih (by simp)
          refine ⟨max x M, ?_, ?_⟩
          · intro z hz
            rcases List.mem_cons.1 hz with rfl | hz
            · omega
            · have := h1 z hz; omega
          · rcases Int.le_total x M with h | h
            · rw [Int.max_eq_right h]; exact List.mem_cons_of_mem _ h2
            · rw [Int.max_eq_left h]; simp
    exact key l hl1
  have hMb := ((check_ok l 16).1 hE).2.2.2.1 M hM2
  obtain ⟨Mn, rfl⟩ : ∃ Mn : Nat, M = Mn := ⟨M.toNat, by omega⟩
  have HMX := Lib.hid hM1; have HMI := Lib.hid hM2
  have hM16 : Mn ≤ 16 := by omega
  have HLM := Lib.hid (show ∀ s, s < l.length → len l s ≤ Mn by
    intro s hs
    have := hM1 (l.getD s 0) (by simp [List.getD_eq_getElem?_getD, hs])
    rw [lenI hE hs] at this; omega)
  have HMS := Lib.hid (show ∃ s, s < l.length ∧ len l s = Mn by
    obtain ⟨s, hs, e⟩ := List.getElem_of_mem hM2
    refine ⟨s, hs, ?_⟩
    have := lenI hE hs
    rw [List.getD_eq_getElem?_getD, List.getElem?_eq_getElem hs, Option.getD_some, e] at this
    omega)
  have HSH := Lib.hid (fun hn s hs hlt => dec_short (l := l) (row := row) hE hn (s := s) hs hlt)
  have HFO := Lib.hid (fun hn hle => dec_form (l := l) (row := row) hE hn hle)
  have HST := Lib.hid (fun j hno hs => step_none (l := l) (row := row) (j := j) hE hno hs)
  have HHT := Lib.hid (fun j s hj hs h1 h2 => step_hit (l := l) (row := row) (j := j) (s := s) hE hj hs h1 h2)
  have HLE := Lib.hid (fun s hh => ((hit_iff (l := l) (row := row) (s := s) hE).1 hh).2.2.1)
  have HS0 := Lib.hid (fun s hh => ((hit_iff (l := l) (row := row) (s := s) hE).1 hh).2.1)
  have HSL := Lib.hid (fun s hh => ((hit_iff (l := l) (row := row) (s := s) hE).1 hh).1)
  rw [hR] at HSH HFO HHT
  have HBX := Lib.hid hbox
  have HW := Lib.hid hw
  clear h1 h2 h3 hE hM1 hM2 hMb hR hbox hw
  go_enter Try.func53, Try.ntmps53
  go_wp2_with fail
  go_loopw [9, 10] (fun cd i wr => ∃ j : Nat, j ≤ row.length ∧ j ≤ Mn ∧ i = .int .i64 ((j + 1 : Nat) : Int) ∧ cd = .int .i64 ((val (row.take j) : Nat) : Int) ∧ Hid (∀ s, Hit l row s → j < len l s) ∧ Hid (wr.heap[g]? = some (.cells #[.slice b row.length cb, .int .i64 j] 82 (0, 0))) ∧ Hid (Below w0.heap.size w0 wr)) (fun _ i _ => (Mn + 1 - intOf i).toNat)
  case atStart => exact ⟨0, Nat.zero_le _, Nat.zero_le _, rfl, rfl, Lib.hid (by intro s hh; have := HS0.out s hh; omega), HBX, HW⟩
  case round =>
    obtain ⟨j, hj, hjM, rfl, rfl, hno, hbx, hb⟩ := hrel
    have g1 := Lib.hid (G1.out.kept hb.out)
    have g2 := Lib.hid (G2.out.kept hb.out)
    have CMX := Lib.hid (sMax a ca l hl1 wr g1.out)
    go_wp2_with fail
    refine CMX.out.mono ?_; rintro e w1 ⟨M', rfl, hM', rfl⟩
    obtain rfl : M' = Mn := by have e1 := HMX.out M' hM'.2; have e2 := hM'.1 Mn HMI.out; omega
    clear hM' CMX
    by_cases hlt : j < Mn
    · have hvb : val (row.take j) < 65536 := by
        have := val_lt (row.take j)
        have h2 : 2 ^ (row.take j).length ≤ 2 ^ 16 := Nat.pow_le_pow_right (by decide) (by rw [List.length_take]; omega)
        omega
      by_cases hjr : j < row.length
      · have HV := Lib.hid (val_next row j hjr)
        obtain ⟨y, hby, hyb, -⟩ := G3.out.at j hjr
        have CN := Lib.hid (sNext w1 g cb j b row hbx.out (G3.out.kept hb.out) (by intro x hx; rw [hby] at hx; injection hx with hx; subst hx; omega) hjr hr)
        obtain ⟨BT, hBT⟩ : ∃ BT, row.getD j false = BT := ⟨_, rfl⟩
        rw [hBT] at CN HV
        obtain ⟨V, hV⟩ : ∃ V, val (row.take j) = V := ⟨_, rfl⟩
        rw [hV] at HV hvb ⊢
        clear hBT hV hby
        go_wp2_with fail
        refine CN.out.mono ?_; rintro e w2 ⟨rfl, hbx2, hk2⟩
        have HX2 := Lib.hid hbx2
        have HB2 := Lib.hid (hb.out.trans (hk2.below (B := w0.heap.size) (fun q hq => ⟨by have := hb.out.size; omega, by show q ≠ g; omega⟩)))
        have g1 := Lib.hid (G1.out.kept HB2.out)
        have g2 := Lib.hid (G2.out.kept HB2.out)
        have CS := Lib.hid (fun n v W h1 h2 => sSymbol a c ca cc l (codesL l) n v W h1 h2 HCL.out)
        rw [HCL.out] at CS
        clear hbx2 hk2 CN
        cases BT with
        | true =>
          go_wp2_with fail
          refine (CS.out ((j : Int) + 1) ((V : Int) * 2 + 1) w2 g1.out g2.out).mono ?_; rintro e w3 ⟨R, rfl, hsym, q, rfl⟩
          rcases hsym with ⟨s, hs, rfl, h1, h2, -⟩ | ⟨rfl, hno2⟩
          · have hres := HHT.out j s hjr hs (by rw [h1]; omega) (by rw [h2, HV.out]; simp; omega)
            injection hres with e1 e2
            injection e2 with e2 e3
            subst e1 e2 e3
            have hs0 : (0 : Int) ≤ (s : Int) := by omega
            have HBF := Lib.hid (below_dn HB2.out q)
            clear h1 h2
            go_wp2_with fail
            go_ret3
            exact ⟨rfl, HBF.out⟩
          · have HNX := Lib.hid (HST.out j hno.out (fun s hs hh => hno2 s hs ⟨by rw [hh.1]; omega, by rw [hh.2, HV.out]; simp; omega⟩))
            have HBF := Lib.hid (below_dn HB2.out q)
            clear hno2
            go_wp2_with fail
            go_roundw
            case rel => exact ⟨j + 1, by omega, by omega, by go_num, by rw [HV.out]; go_num, HNX, HX2, HBF⟩
            case measure => simp [intOf]; omega
        | false =>
          go_wp2_with fail
          refine (CS.out ((j : Int) + 1) ((V : Int) * 2) w2 g1.out g2.out).mono ?_; rintro e w3 ⟨R, rfl, hsym, q, rfl⟩
          rcases hsym with ⟨s, hs, rfl, h1, h2, -⟩ | ⟨rfl, hno2⟩
          · have hres := HHT.out j s hjr hs (by rw [h1]; omega) (by rw [h2, HV.out]; simp; omega)
            injection hres with e1 e2
            injection e2 with e2 e3
            subst e1 e2 e3
            have hs0 : (0 : Int) ≤ (s : Int) := by omega
            have HBF := Lib.hid (below_dn HB2.out q)
            clear h1 h2
            go_wp2_with fail
            go_ret3
            exact ⟨rfl, HBF.out⟩
          · have HNX := Lib.hid (HST.out j hno.out (fun s hs hh => hno2 s hs ⟨by rw [hh.1]; omega, by rw [hh.2, HV.out]; simp; omega⟩))
            have HBF := Lib.hid (below_dn HB2.out q)
            clear hno2
            go_wp2_with fail
            go_roundw
            case rel => exact ⟨j + 1, by omega, by omega, by go_num, by rw [HV.out]; go_num, HNX, HX2, HBF⟩
            case measure => simp [intOf]; omega
      · have hje : j = row.length := by omega
        have CN := Lib.hid (sNextNone w1 g cb j b row hbx.out hje hr)
        obtain ⟨s, hs, hsM⟩ := HMS.out
        have hres := HSH.out (fun s hh => by have h1 := hno.out s hh; have h2 := HLE.out s hh; omega) s hs (by omega)
        injection hres with e1 e2
        injection e2 with e2 e3
        subst e1 e2 e3
        clear hje
        go_wp2_with fail
        refine CN.out.mono ?_; rintro e w2 ⟨rfl, q, rfl⟩
        have HBF := Lib.hid (below_dn hb.out q)
        go_wp2_with fail
        go_ret3
        exact ⟨rfl, HBF.out⟩
    · have hjM2 : j = Mn := by omega
      have hres := HFO.out (fun s hh => by have h1 := hno.out s hh; have h2 := HLM.out s (HSL.out s hh); omega) (fun s hs => by have := HLM.out s hs; omega)
      injection hres with e1 e2
      injection e2 with e2 e3
      subst e1 e2 e3
      clear hjM2
      go_wp2_with fail
      go_ret3
      exact ⟨rfl, hb.out⟩
set_option maxHeartbeats 3200000 in
theorem sDecode9 (a b : Option Addr) (ca cb : Nat) (l : List Int) (row : List Bool) (w : World) (h1 : IsInts w a l) (h2 : IsBoo w b row) (hr : row.length ≤ 1000000) (X Y E : Int) (hR : decL l row = (X, Y, E)) :
    Calls Try.prog 16 #[.slice a l.length ca, .slice b row.length cb] w fun e w' => e = .returned (.tuple #[.int .i64 X, .int .i64 Y, .int .i64 E]) ∧ Below w.heap.size w w' := by
  have C1 := Lib.hid (cCodes a ca l w h1)
  have hmf : ∀ (fn : Fn) (first cap : Array Value) (w : World), (Instr.makeFunc fn first cap).run Try.prog w = .ok (.func fn first cap) w := fun _ _ _ _ => rfl
  by_cases hE : check l 16 = 0
  · have HCL := Lib.hid (codes_len (l := l) hE)
    have HRD := Lib.hid (fun w0 w g c cc h1 h2 h3 hw hg hbox => sRead w0 w g cb a c b ca cc l row hE h1 h2 h3 hw hg hbox hr X Y E hR)
    have G1 := Lib.hid h1; have G2 := Lib.hid h2
    rw [hE] at C1
    clear hE hR h1 h2
    go_enter Try.func16, Try.ntmps16
    go_wp2_with fail
    refine C1.out.mono ?_; rintro e w1 ⟨v1, rfl, hI1, hb1⟩
    obtain ⟨cc, cd, rfl, hI1⟩ := hI1
    rw [HCL.out]
    have HI := Lib.hid hI1
    have HB := Lib.hid hb1
    have HG1 := Lib.hid (G1.out.kept hb1)
    have HG2 := Lib.hid (G2.out.kept hb1)
    clear hI1 hb1
    go_wp2_with fail
    refine (HRD.out w1 _ w1.heap.size cc cd HG1.out HI.out HG2.out ((Below.refl _ _).alloc (Nat.le_refl _) _) (Nat.le_refl _) (heap_alloc_new _ _)).mono ?_; rintro e w2 ⟨rfl, hb2⟩
    have HB2 := Lib.hid (HB.out.trans (hb2.mono HB.out.size))
    clear hb2
    go_wp2_with fail
    go_ret3
    exact ⟨rfl, HB2.out⟩
  · have hR2 : X = 0 ∧ Y = 0 ∧ E = check l 16 := by
      unfold decL at hR
      rw [if_pos hE] at hR
      injection hR with e1 e2
      injection e2 with e2 e3
      exact ⟨e1.symm, e2.symm, e3.symm⟩
    obtain ⟨rfl, rfl, rfl⟩ := hR2
    clear hR h1 h2
    obtain ⟨CE, hCE⟩ : ∃ CE, check l 16 = CE := ⟨_, rfl⟩
    rw [hCE] at hE C1 ⊢
    have hne : (CE != 0) = true := by rw [bne_iff_ne]; exact hE
    clear hCE
    go_enter Try.func16, Try.ntmps16
    go_wp2_with fail
    refine C1.out.mono ?_; rintro e w1 ⟨v1, rfl, hI1, hb1⟩
    have HB := Lib.hid hb1
    clear hI1 hb1
    go_wp2_with fail
    go_ret3
    exact ⟨rfl, HB.out⟩
end Go.Proofs.Ytlampmedeebekaa
