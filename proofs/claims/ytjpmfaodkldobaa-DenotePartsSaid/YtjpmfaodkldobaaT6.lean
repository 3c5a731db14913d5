/- Layer 18: rows of bytes that came in and that a call owns; check, more, Clone, Copy. -/
import Derived.Test.YtjpmfaodkldobaaT5
import Derived.Test.YtjpmfaodkldobaaW8
namespace Go.Proofs.Ytjpmfaodkldobaa
open Go.ChangeShapes Go.WideShapes Go.ChangeAt Go.RowKit
set_option linter.unusedVariables false
set_option linter.unusedSimpArgs false
set_option maxRecDepth 100000
def fY (x : UInt8) : List Value := [.int .u8 (x.toNat : Int)]
theorem flatY : Flat fY 1 := fun x => ⟨rfl, by intro u hu; simp [fY] at hu; subst hu; rfl⟩
abbrev OwnY (B : Nat) (w : World) (v : Value) (l : List UInt8) : Prop := OwnS fY 5 1 B w v l
theorem info_u8 : (Try.prog.info? 5).map (fun i => (i.zero, i.size, i.bytes)) = some (some (.int .u8 0), 1, 1) := by kernel_rfl
theorem cells8_fY (l : List UInt8) : l.flatMap fY = cells8 l := by
  induction l with
  | nil => rfl
  | cons b l ih => rw [List.flatMap_cons, ih]; rfl
theorem y_conv {B : Nat} {w : World} {v : Value} {l : List UInt8} (h : OwnY B w v l) : (convert 34 9 v).run Try.prog w = .ok (.string (sOf l)) w := by
  have h' : w.ownsRow B 5 1 v l.length (cells8 l) := by rw [← cells8_fY]; exact h
  exact conv_own8 Try.underlying34 Try.underlying5 Try.underlying9 h'
theorem y_cell {B g cap n : Nat} {w : World} {l : List UInt8} (h : OwnY B w (.slice (some ⟨g, 0, none⟩) n cap) l) (i : Nat) (hi : i < l.length) : w.cell? ⟨g, i, none⟩ = some (.int .u8 ((l.getD i 0).toNat : Int)) := by
  have := h.cell flatY i 0 l[i] (by simp [hi]) (by decide)
  rw [Nat.mul_one, Nat.add_zero] at this
  rw [this]
  simp [fY, List.getD_eq_getElem?_getD, hi]
/-- A row of bytes, whoever owns it. -/
def IsY (w : World) (a : Option Addr) (l : List UInt8) : Prop := l = [] ∨ ∃ x, a = some x ∧ ∀ i, i < l.length → w.cell? (x.add i) = some (.int .u8 ((l.getD i 0).toNat : Int))
theorem IsY.at {w : World} {a : Option Addr} {l : List UInt8} (h : IsY w a l) (k : Nat) (hk : k < l.length) : ∃ x : Addr, a = some x ∧ x.block < w.heap.size ∧ ∀ i, i < l.length → w.cell? (x.add i) = some (.int .u8 ((l.getD i 0).toNat : Int)) := by
  rcases h with rfl | ⟨x, rfl, hc⟩
  · simp at hk
  · exact ⟨x, rfl, by rw [← add_block x k]; exact cell_block (hc k hk), hc⟩
theorem IsY.kept {w w' : World} {a : Option Addr} {l : List UInt8} (h : IsY w a l) (hb : Below w.heap.size w w') : IsY w' a l := by
  rcases h with rfl | ⟨x, rfl, hc⟩
  · exact .inl rfl
  · exact .inr ⟨x, rfl, fun i hi => by rw [hb.cell (cell_block (hc i hi))]; exact hc i hi⟩
theorem IsY.drewN {w : World} {a : Option Addr} {l : List UInt8} (h : IsY w a l) (k : Nat) : IsY (w.drewN k) a l := h
theorem y_isY {B : Nat} {w : World} {v : Value} {l : List UInt8} (h : OwnY B w v l) : ∃ a c, v = .slice a l.length c ∧ IsY w a l := by
  by_cases h0 : 0 < l.length
  · obtain ⟨g, cap, rfl, -, -⟩ := h.form h0 (by decide)
    refine ⟨_, cap, rfl, .inr ⟨_, rfl, fun i hi => ?_⟩⟩
    have e1 : (⟨g, 0, none⟩ : Addr).add i = ⟨g, i, none⟩ := by unfold Addr.add; split <;> simp_all
    rw [e1]; exact y_cell h i hi
  · obtain ⟨a, cap, rfl⟩ := h.slice
    exact ⟨a, cap, rfl, .inl (List.eq_nil_of_length_eq_zero (by omega))⟩
theorem m_isY {B : Nat} {w : World} {v : Value} {l : List UInt8} (h : OwnM B w v l) : ∃ a c, v = .slice a l.length c ∧ IsY w a l := by
  obtain ⟨g, cap, rfl, -⟩ := h.form
  refine ⟨_, cap, rfl, .inr ⟨_, rfl, fun i hi => ?_⟩⟩
  have e1 : (⟨g, 0, none⟩ : Addr).add i = ⟨g, i, none⟩ := by unfold Addr.add; split <;> simp_all
  rw [e1]; exact h.cell i hi
theorem app_y {X : World} {ops : Array Oper} {rest : List Oper} {o : Oper} {a : Act} {Q : Exit → Act → World → Prop} (hgd : o.guard = none) (s xo : Operand)
    (ho : o.op = .call { callee := .builtin .append, args := #[s, xo], argTypes := #[34, 34] })
    (B T : Nat) (v : Value) (l : List UInt8) (x : UInt8) (hs : a.eval s = v) (hown : OwnY B X v l) (g c1 : Nat) (hg : X.heap.size = g) (hx : a.eval xo = .slice (some ⟨g, 0, none⟩) 1 c1) (hl : l.length ≤ 1099511627776) (hB : B ≤ X.heap.size)
    (h : ∀ v' w', OwnY B w' v' (l ++ [x]) → Below B X w' → X.grownBy w' v.ownBlock → wpList Try.prog ops Q rest (a.put o.dst v') w') : wpList Try.prog ops Q (o :: rest) a (X.alloc (.cells #[.int .u8 (x.toNat : Int)] T)) :=
  app_one (f := fY) info_u8 rfl (by decide) (by decide) Try.underlying34 flatY hgd s xo ho B T v l x hs hown g c1 hg hx hl hB h
/-- append of a row of bytes to one of the call's own. -/
theorem app_rowY {X : World} {ops : Array Oper} {rest : List Oper} {o : Oper} {a : Act} {Q : Exit → Act → World → Prop} (hgd : o.guard = none) (s xo : Operand)
    (ho : o.op = .call { callee := .builtin .append, args := #[s, xo], argTypes := #[34, 34] })
    (B : Nat) (v : Value) (l ys : List UInt8) (hs : a.eval s = v) (hown : OwnY B X v l) (va : Option Addr) (m c : Nat) (hx : a.eval xo = .slice va m c) (hm : m = ys.length) (hys : IsY X va ys) (hpos : 1 ≤ ys.length) (hl : l.length + ys.length ≤ 1000000) (hB : B ≤ X.heap.size)
    (h : ∀ v' w', OwnY B w' v' (l ++ ys) → Below B X w' → wpList Try.prog ops Q rest (a.put o.dst v') w') : wpList Try.prog ops Q (o :: rest) a X := by
  obtain ⟨i0, hi, h1, h2, h3⟩ := info_get info_u8
  obtain ⟨ad, rfl, -, hc⟩ := hys.at 0 hpos
  subst hm
  refine wpList_append_own X hgd s xo 34 ho B 5 i0 (.int .u8 0) 1 1 Try.underlying34 hi h1 h2 h3 rfl (by decide) v l.length (l.flatMap fY) hs hown ad ys.length c (ys.flatMap fY) hx (by rw [flat_len flatY]) ?_ (flat_one flatY ys) (by unfold maxLen; omega) (by omega) hB ?_
  · intro j u hj
    rw [cells8_fY] at hj
    have hlt : j < ys.length := by have := (List.getElem?_eq_some_iff.1 hj).1; rwa [cells8_len] at this
    rw [hc j hlt, ← hj]
    simp [cells8, List.getD_eq_getElem?_getD, hlt]
  · intro v' w' ho' hg' _
    refine h v' w' ?_ ((Below.refl _ _).grown hg' hB (fun j hj => (World.ownsRow.lt hown j hj).1))
    unfold OwnY OwnS
    rw [List.flatMap_append, List.length_append]
    exact ho'
theorem pCheck (h : Nat) (n d win : Int) (w : World) : Calls Try.prog 60 #[.int .i64 h, .int .i64 n, .int .i64 d, .int .i64 win] w fun e w' => e = .returned (.int .i64 (errC h n d win)) ∧ w' = w := by
  by_cases c1 : n < 0
  · have e : errC h n d win = 1 := by unfold errC; rw [if_pos (by omega)]
    rw [e]; clear e
    go_enter Try.func60, Try.ntmps60
    go_wp2
    all_goals (go_ret; exact ⟨rfl, rfl⟩)
  have q1 : decide (n < 0) = false := decide_eq_false c1
  by_cases c2 : 258 < n
  · have e : errC h n d win = 1 := by unfold errC; rw [if_pos (by omega)]
    rw [e]; clear e
    go_enter Try.func60, Try.ntmps60
    go_wp2
    all_goals (go_ret; exact ⟨rfl, rfl⟩)
  have q2 : decide (258 < n) = false := decide_eq_false c2
  by_cases c3 : win < 1
  · have e : errC h n d win = 1 := by unfold errC; rw [if_pos (by omega)]
    rw [e]; clear e
    go_enter Try.func60, Try.ntmps60
    go_wp2
    all_goals (go_ret; exact ⟨rfl, rfl⟩)
  have q3 : decide (win < 1) = false := decide_eq_false c3
  by_cases c4 : 67108864 < win
  · have e : errC h n d win = 1 := by unfold errC; rw [if_pos (by omega)]
    rw [e]; clear e
    go_enter Try.func60, Try.ntmps60
    go_wp2
    all_goals (go_ret; exact ⟨rfl, rfl⟩)
  have q4 : decide (67108864 < win) = false := decide_eq_false c4
  have e0 : errC h n d win = if d < 1 ∨ win < d ∨ (h : Int) < d then 10 else 0 := by unfold errC; rw [if_neg (by omega)]
  rw [e0]; clear e0
  by_cases c5 : d < 1
  · rw [if_pos (.inl c5)]
    go_enter Try.func60, Try.ntmps60
    go_wp2
    all_goals (go_ret; exact ⟨rfl, rfl⟩)
  have q5 : decide (d < 1) = false := decide_eq_false c5
  by_cases c6 : win < d
  · rw [if_pos (.inr (.inl c6))]
    go_enter Try.func60, Try.ntmps60
    go_wp2
    all_goals (go_ret; exact ⟨rfl, rfl⟩)
  have q6 : decide (win < d) = false := decide_eq_false c6
  by_cases c7 : (h : Int) < d
  · rw [if_pos (.inr (.inr c7))]
    go_enter Try.func60, Try.ntmps60
    go_wp2
    all_goals (go_ret; exact ⟨rfl, rfl⟩)
  have q7 : decide ((h : Int) < d) = false := decide_eq_false c7
  rw [if_neg (by omega)]
  go_enter Try.func60, Try.ntmps60
  go_wp2
  all_goals (go_ret; exact ⟨rfl, rfl⟩)
set_option maxHeartbeats 1600000 in
theorem pMore (B : Nat) (v : Value) (l : List UInt8) (n d : Nat) (w : World) (h : OwnY B w v l) (hB : B ≤ w.heap.size) (hd : 1 ≤ d) (hd2 : d ≤ l.length) (hn : n ≤ 258) (hl : l.length ≤ 1000000) :
    Calls Try.prog 61 #[v, .int .i64 n, .int .i64 d] w fun e w' => ∃ v', e = .returned v' ∧ OwnY B w' v' (copyL d n l) ∧ Below B w w' := by
  have HM := Lib.hid h
  clear h
  go_enter Try.func61, Try.ntmps61
  go_wp2_with fail
  go_loopw [0, 8] (fun u i wr => ∃ k : Nat, k ≤ n ∧ i = .int .i64 k ∧ OwnY B wr u (copyL d k l) ∧ Below B w wr) (fun _ i _ => n - (intOf i).toNat)
  case atStart => exact ⟨0, Nat.zero_le _, rfl, HM.out, Below.refl _ _⟩
  case round =>
    obtain ⟨k, hk, rfl, hM, hb⟩ := hrel
    have hbs := Nat.le_trans hB hb.size
    have HLn := Lib.hid (copyL_len d k l)
    have HSN := Lib.hid (copyL_snoc d k l)
    by_cases hlt : k < n
    · have hl2 := HLn.out
      obtain ⟨g, cap, hv, hBg, hgl⟩ := hM.form (by omega) (by decide)
      subst hv
      have hcell := y_cell hM ((copyL d k l).length - d) (by omega)
      obtain ⟨R, hR⟩ : ∃ R, copyL d k l = R := ⟨_, rfl⟩
      rw [hR] at hM hcell hl2 HSN ⊢
      clear hR HLn
      obtain ⟨Z, hZ⟩ : ∃ Z, R.getD (R.length - d) 0 = Z := ⟨_, rfl⟩
      rw [hZ] at hcell HSN
      clear hZ
      have hRd : d ≤ R.length := by omega
      have hRb : R.length ≤ 1000000000 := by omega
      have HRb := Lib.hid (show R.length ≤ 1099511627776 by omega)
      have HBs := Lib.hid hbs
      have HM1 := Lib.hid hM
      have HBB := Lib.hid hb
      clear hM hb hl2
      go_wp2_with (at_builtin; refine app_y rfl _ _ rfl _ _ _ R Z rfl HM1.out _ 1 rfl rfl HRb.out HBs.out ?_; intro v2 w2 hM2 hb2 hg2)
      rw [← HSN.out] at hM2
      have HM2 := Lib.hid hM2
      have HB2 := Lib.hid (HBB.out.trans hb2)
      clear hM2 hb2 hg2 HM1 HBB
      go_wp2_with fail
      go_roundw
      case rel => exact ⟨k + 1, by omega, by go_num, HM2.out, HB2.out⟩
      case measure => simp [intOf]; omega
    · obtain rfl : k = n := by omega
      have HM1 := Lib.hid hM
      have HBB := Lib.hid hb
      clear hM hb HLn HSN
      go_wp2_with fail
      go_ret
      exact ⟨_, rfl, HM1.out, HBB.out⟩
theorem pClone (a : Option Addr) (c : Nat) (l : List UInt8) (w : World) (h : IsY w a l) (h0 : 0 < l.length) (hl : l.length ≤ 1000000) :
    Calls Try.prog 62 #[.slice a l.length c] w fun e w' => ∃ v', e = .returned v' ∧ OwnY w.heap.size w' v' l ∧ Below w.heap.size w w' := by
  obtain ⟨x, rfl, -, -⟩ := h.at 0 h0
  have q22 : ∀ (w : World) (a : Option Addr) (n c n' c' : Nat), (binOp .eql 34 (.slice a n c) (.slice none n' c')).run Try.prog w = .ok (.bool a.isNone) w := fun w a n c n' c' => Lib.run_eql_slice_nil w _ _ a n c n' c' Try.underlying34
  have HI := Lib.hid (show IsY (w.alloc (.cells #[] 5)) (some x) l from h.kept ((Below.refl _ _).alloc (Nat.le_refl _) _))
  have HO := Lib.hid (show OwnY w.heap.size (w.alloc (.cells #[] 5)) (.slice (some ⟨w.heap.size, 0, none⟩) 0 0) [] from World.ownsRow_made w #[] 0 (Nat.le_refl _) (Nat.zero_le _) rfl)
  have HL := Lib.hid (show ([] : List UInt8).length + l.length ≤ 1000000 by simp; omega)
  have H0 := Lib.hid (show 1 ≤ l.length by omega)
  have HB := Lib.hid (show w.heap.size ≤ (w.alloc (.cells #[] 5)).heap.size by simp)
  clear h h0
  go_enter Try.func62, Try.ntmps62
  go_wp2_with (at_builtin; refine app_rowY rfl _ _ rfl w.heap.size _ [] l rfl HO.out (some x) l.length c rfl rfl HI.out H0.out HL.out HB.out ?_; intro v2 w2 hM2 hb2)
  go_wp2_with fail
  go_ret
  exact ⟨_, rfl, by simpa using hM2, ((Below.refl _ _).alloc (Nat.le_refl _) _).trans hb2⟩
theorem pCopyBad (a : Option Addr) (c : Nat) (l : List UInt8) (w : World) (n d win E : Int) (hE : errC l.length n d win = E) (hE0 : E ≠ 0) :
    Calls Try.prog 21 #[.slice a l.length c, .int .i64 n, .int .i64 d, .int .i64 win] w fun e w' => e = .returned (.tuple #[.slice none 0 0, .int .i64 E]) ∧ w' = w := by
  have C := Lib.hid (pCheck l.length n d win w)
  rw [hE] at C
  have hne : (E != 0) = true := by rw [bne_iff_ne]; exact hE0
  clear hE
  go_enter Try.func21, Try.ntmps21
  go_wp2_with fail
  refine C.out.mono ?_; rintro e w1 ⟨rfl, rfl⟩
  go_wp2_with fail
  go_ret2
  exact ⟨rfl, rfl⟩
theorem pCopy (a : Option Addr) (c : Nat) (l : List UInt8) (w : World) (n d win : Int) (hE : errC l.length n d win = 0) (h : IsY w a l) (hl : l.length ≤ 1000000) :
    Calls Try.prog 21 #[.slice a l.length c, .int .i64 n, .int .i64 d, .int .i64 win] w fun e w' => ∃ v, e = .returned (.tuple #[v, .int .i64 0]) ∧ OwnY w.heap.size w' v (copyL d.toNat n.toNat l) ∧ Below w.heap.size w w' := by
  have C := Lib.hid (pCheck l.length n d win w)
  rw [hE] at C
  have hb := errC_zero hE
  obtain ⟨N, rfl⟩ : ∃ m : Nat, n = m := ⟨n.toNat, by omega⟩
  obtain ⟨D, rfl⟩ : ∃ m : Nat, d = m := ⟨d.toNat, by omega⟩
  have CC := Lib.hid (pClone a c l w h (by omega) hl)
  have CM := Lib.hid (fun v W (h : OwnY w.heap.size W v l) (hB : w.heap.size ≤ W.heap.size) => pMore w.heap.size v l N D W h hB (by omega) (by omega) (by omega) hl)
  rw [Int.toNat_natCast, Int.toNat_natCast]
  clear hE h hb
  go_enter Try.func21, Try.ntmps21
  go_wp2_with fail
  refine C.out.mono ?_; rintro e w1 ⟨rfl, rfl⟩
  go_wp2_with fail
  refine CC.out.mono ?_; rintro e w2 ⟨v2, rfl, ho2, hb2⟩
  go_wp2_with fail
  refine (CM.out _ _ ho2 hb2.size).mono ?_; rintro e w3 ⟨v3, rfl, ho3, hb3⟩
  have HH := Lib.hid (show _ ∧ _ from ⟨ho3, hb2.trans hb3⟩)
  clear ho2 hb2 ho3 hb3 CM CC
  go_wp2_with fail
  go_ret2
  exact ⟨_, rfl, HH.out.1, HH.out.2⟩
end Go.Proofs.Ytjpmfaodkldobaa
