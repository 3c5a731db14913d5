import Derived.Test.YtedmnlfbmmlcbaaJ22
/- Layer 48: Back. -/
namespace Go.Proofs.Ytedmnlfbmmlcbaa
open Go.ChangeShapes Go.WideShapes Go.ChangeAt Go.RowKit
set_option linter.unusedVariables false
set_option linter.unusedSimpArgs false
set_option maxRecDepth 100000
theorem cByteOf (T : List UInt8) (at_ row : Nat) (w : World) (hT : T.length ≤ 100000) (hr : row ≤ T.length) (ha : at_ ≤ T.length) (hne : row ≠ at_) :
    Calls Try.prog 66 #[.string (sM T), .int .i64 at_, .int .i64 row] w fun e w' => e = .returned (.int .u8 (byteAtU T (sOfB at_ row) : Nat)) ∧ ∃ k, w' = w.drewN k := by
  have hS : (sM T).size = T.length := sM_size T
  unfold sOfB
  by_cases h : at_ < row
  · rw [if_pos h]
    obtain ⟨z, hz⟩ : ∃ z, row - 1 = z := ⟨_, rfl⟩
    rw [hz]
    have hzi : (row : Int) - 1 = (z : Int) := by omega
    have x1 := ixM T (z : Int) z rfl (by omega)
    have hzn : (z : Int) < T.length := by omega
    have h1 : (at_ : Int) < row := by omega
    unfold byteAtU
    obtain ⟨Y, hY⟩ : ∃ Y, (T.getD z 0).toNat = Y := ⟨_, rfl⟩
    rw [hY] at x1 ⊢
    clear hY hz
    go_enter Try.func66, Try.ntmps66
    go_wp2_with fail
    go_ret
    exact ⟨rfl, 0, rfl⟩
  · rw [if_neg h]
    have x1 := ixM T (row : Int) row rfl (by omega)
    have hzn : (row : Int) < T.length := by omega
    have h1 : ¬ (at_ : Int) < row := by omega
    unfold byteAtU
    obtain ⟨Y, hY⟩ : ∃ Y, (T.getD row 0).toNat = Y := ⟨_, rfl⟩
    rw [hY] at x1 ⊢
    clear hY
    go_enter Try.func66, Try.ntmps66
    go_wp2_with fail
    go_ret
    exact ⟨rfl, 0, rfl⟩
end Go.Proofs.Ytedmnlfbmmlcbaa

/- Layer 48: rowsAhead. -/
namespace Go.Proofs.Ytedmnlfbmmlcbaa
open Go.ChangeShapes Go.WideShapes Go.ChangeAt Go.RowKit
set_option linter.unusedVariables false
set_option linter.unusedSimpArgs false
set_option maxRecDepth 100000
/-- One more than how many are less, up to some byte. -/
def C3 (T : List UInt8) (c : List Nat) (r : Nat) : Prop := c.length = 257 ∧ (∀ q, q < r → q < 257 → c.getD q 0 = 1 + bel (byteAtU T) (List.range T.length) q) ∧ ∀ q, r ≤ q → q < 257 → c.getD q 0 = sam (byteAtU T) (List.range T.length) (q - 1)
theorem C3.start {T : List UInt8} {c : List Nat} (h : C1 (bys T) c 257 T.length) : C3 T (c.set 0 1) 1 := by
  obtain ⟨h1, h2, h3⟩ := h.bytes
  refine ⟨by rw [List.length_set]; exact h1, fun q hq _ => ?_, fun q hq hm => ?_⟩
  · have : q = 0 := by omega
    subst this
    rw [setN_getD _ _ _ _ (by omega), if_pos rfl, bel_zero]
  · rw [setN_getD _ _ _ _ (by omega), if_neg (by omega)]; exact h3 q hq hm
theorem C3.step {T : List UInt8} {c : List Nat} {r : Nat} (h : C3 T c r) (hr : 1 ≤ r) (hm : r < 257) (x y : Nat) (hx : c.getD r 0 = x) (hy : c.getD (r - 1) 0 = y) : x + y ≤ T.length + 1 ∧ C3 T (c.set r (x + y)) (r + 1) := by
  obtain ⟨h1, h2, h3⟩ := h
  have ex := h3 r (Nat.le_refl _) hm
  have ey := h2 (r - 1) (by omega) (by omega)
  have hs := bel_succ (byteAtU T) (r - 1) (List.range T.length)
  rw [show r - 1 + 1 = r by omega] at hs
  have e : x + y = 1 + bel (byteAtU T) (List.range T.length) r := by omega
  have hle := bel_le (byteAtU T) (List.range T.length) r
  rw [List.length_range] at hle
  refine ⟨by omega, by rw [List.length_set]; exact h1, fun q hq hm2 => ?_, fun q hq hm2 => ?_⟩
  · rw [setN_getD _ _ _ _ (by omega)]
    by_cases f : r = q
    · subst f; rw [if_pos rfl, e]
    · rw [if_neg f]; exact h2 q (by omega) hm2
  · rw [setN_getD _ _ _ _ (by omega), if_neg (by omega)]; exact h3 q (by omega) hm2
/-- How many bytes stand in the rows so far. -/
def cntB (at_ r : Nat) : Nat := if r ≤ at_ then r else r - 1
structure LdB (T : List UInt8) (at_ r : Nat) (c o : List Nat) : Prop where
  cl : c.length = 257
  ol : o.length = T.length + 1
  cn : ∀ b, b < 257 → c.getD b 0 = 1 + bel (byteAtU T) (List.range T.length) b + sam (byteAtU T) ((List.range T.length).take (cntB at_ r)) b
  pl : ∀ q, q < r → q ≤ T.length → q ≠ at_ → o.getD q 0 = ahd T at_ q
theorem LdB.start {T : List UInt8} {at_ : Nat} {c o : List Nat} (h : C3 T c 257) (ho : o.length = T.length + 1) : LdB T at_ 0 c o :=
  ⟨h.1, ho, fun b hb => by rw [h.2.1 b hb hb]; simp [cntB, sam], fun q hq => by omega⟩
theorem LdB.skip {T : List UInt8} {at_ : Nat} {c o : List Nat} (h : LdB T at_ at_ c o) : LdB T at_ (at_ + 1) c o :=
  ⟨h.cl, h.ol, fun b hb => by rw [h.cn b hb, show cntB at_ (at_ + 1) = cntB at_ at_ by unfold cntB; split <;> split <;> omega], fun q hq hq2 hq3 => h.pl q (by omega) hq2 hq3⟩
theorem LdB.step {T : List UInt8} {at_ r : Nat} {c o : List Nat} (h : LdB T at_ r c o) (hr : r ≤ T.length) (ha : at_ ≤ T.length) (hne : r ≠ at_) (B C : Nat) (hB : byteAtU T (sOfB at_ r) = B) (hC : c.getD B 0 = C) : C ≤ T.length + 1 ∧ B < 256 ∧ LdB T at_ (r + 1) (c.set B (C + 1)) (o.set r C) := by
  have hs : sOfB at_ r = cntB at_ r := by unfold sOfB cntB; split <;> split <;> omega
  have hsn : cntB at_ r < T.length := by unfold cntB; split <;> omega
  have hB256 : B < 256 := by rw [← hB]; exact byteAt_lt T _
  have e1 := h.cn B (by omega)
  rw [hC] at e1
  have hg : (List.range T.length).getD (cntB at_ r) 0 = cntB at_ r := by simp [List.getD_eq_getElem?_getD, hsn]
  have e2 : C = ahd T at_ r := by
    rw [e1]
    unfold ahd posn
    rw [hs, hg, ← hs, hB]; omega
  have hp := posn_lt (byteAtU T) (List.range T.length) (sOfB at_ r) (by rw [List.length_range, hs]; exact hsn)
  rw [List.length_range] at hp
  refine ⟨by rw [e2]; unfold ahd; omega, hB256, by rw [List.length_set]; exact h.cl, by rw [List.length_set]; exact h.ol, fun b hb => ?_, fun q hq hq2 hq3 => ?_⟩
  · have hst := sam_take (byteAtU T) (List.range T.length) (cntB at_ r) b (by rw [List.length_range]; exact hsn)
    rw [hg, ← hs, hB, hs] at hst
    have hc : cntB at_ (r + 1) = cntB at_ r + 1 := by unfold cntB; split <;> split <;> omega
    rw [hc, hst, setN_getD _ _ _ _ (by rw [h.cl]; omega)]
    by_cases f : B = b
    · subst f; rw [if_pos rfl, if_pos rfl]; omega
    · rw [if_neg f, if_neg f, h.cn b hb]; omega
  · rw [setN_getD _ _ _ _ (by rw [h.ol]; omega)]
    by_cases f : r = q
    · subst f; rw [if_pos rfl, e2]
    · rw [if_neg f]; exact h.pl q (by omega) hq2 hq3
set_option maxHeartbeats 3200000 in
theorem cAhead (T : List UInt8) (at_ : Nat) (w : World) (hT : T.length ≤ 10000) (ha : at_ ≤ T.length) :
    Calls Try.prog 65 #[.string (sM T), .int .i64 at_] w fun e w' => ∃ g o, e = .returned (.slice (some ⟨g, 0, none⟩) (T.length + 1) (T.length + 1)) ∧ IsN w' g o ∧ o.length = T.length + 1 ∧ (∀ q, q ≤ T.length → q ≠ at_ → o.getD q 0 = ahd T at_ q) ∧ Below w.heap.size w w' := by
  have hS : (sM T).size = T.length := sM_size T
  obtain ⟨Z7, hZ7⟩ : ∃ Z, Try.zeroCells98 = Z := ⟨_, rfl⟩
  have HZ7 := Lib.hid (show Z7 = nA (List.replicate 257 0) by rw [← hZ7]; exact zeroA257)
  have CB := Lib.hid (fun r W (hr : r ≤ T.length) (hne : r ≠ at_) => cByteOf T at_ r W (by omega) hr ha hne)
  go_enter Try.func65, Try.ntmps65
  go_wp2_with fail
  have HC0 := Lib.hid (show IsA 98 (w.alloc (.cells Z7 98)) w.heap.size (List.replicate 257 0) by unfold IsA; rw [← HZ7.out]; exact heap_alloc_new _ _)
  have HB0 := Lib.hid ((Below.refl w.heap.size w).alloc (Nat.le_refl _) (.cells Z7 98))
  obtain ⟨gf, hgf⟩ : ∃ gf, w.heap.size = gf := ⟨_, rfl⟩
  have HGF := Lib.hid hgf
  rw [hgf] at HC0 HB0 ⊢
  clear hZ7 HZ7 hgf
  generalize w.alloc (.cells Z7 98) = w1 at *
  go_loopw [13] (fun tv wr => ∃ (t : Nat) (c : List Nat), t ≤ T.length ∧ tv = .int .i64 t ∧ Hid (C1 (bys T) c 257 t) ∧ Hid (IsA 98 wr gf c) ∧ Hid (Below gf w wr)) (fun tv _ => T.length - (intOf tv).toNat)
  case atStart => exact ⟨0, List.replicate 257 0, Nat.zero_le _, rfl, Lib.hid (C1.start _ _), HC0, HB0⟩
  case round =>
    clear HC0 HB0
    obtain ⟨t, c, ht, rfl, H1, HC1, HB1⟩ := hrel
    by_cases hlt : t < T.length
    · have hti : (t : Int) < T.length := by omega
      have x1 := ixM T (t : Int) t rfl hlt
      obtain ⟨B, hB⟩ : ∃ B, (T.getD t 0).toNat = B := ⟨_, rfl⟩
      have hBl : B < 256 := by rw [← hB]; exact (T.getD t 0).toNat_lt
      obtain ⟨x, hx⟩ : ∃ x, c.getD (B + 1) 0 = x := ⟨_, rfl⟩
      obtain ⟨hxt, h2⟩ := H1.out.step (by rw [bys_len]; exact hlt) B (by rw [bys_getD T t hlt]; exact hB) (by omega) x hx
      have cc := HC1.out.cell (B + 1) (by rw [H1.out.1]; omega)
      have fc := HC1.out.free (B + 1)
      have hgc := block_lt HC1.out
      rw [hx] at cc
      rw [hB] at x1
      have hBi : (B : Int) < 256 := by omega
      have H2 := Lib.hid h2
      have HC2 := Lib.hid (show IsA 98 (wr.setCell ⟨gf, B + 1, none⟩ (.int .i64 ((x : Int) + 1))) gf (c.set (B + 1) (x + 1)) from HC1.out.set (B + 1) (x + 1))
      have HB2 := Lib.hid (HB1.out.setCell (p := ⟨gf, B + 1, none⟩) (Nat.le_refl _) (.int .i64 ((x : Int) + 1)))
      clear h2 hx hB hBl
      go_wp2_with fail
      go_roundw
      case rel => exact ⟨t + 1, _, by omega, by go_num, H2, HC2, HB2⟩
      case measure => simp [intOf] <;> omega
    · obtain rfl : t = T.length := by omega
      have hgc := block_lt HC1.out
      have cc := HC1.out.cell 0 (by rw [H1.out.1]; decide)
      have fc := HC1.out.free 0
      have H3 := Lib.hid (C3.start H1.out)
      have HC3 := Lib.hid (show IsA 98 (wr.setCell ⟨gf, 0, none⟩ (.int .i64 1)) gf (c.set 0 1) from HC1.out.set 0 1)
      have HB3 := Lib.hid (HB1.out.setCell (p := ⟨gf, 0, none⟩) (Nat.le_refl _) (.int .i64 1))
      clear H1 HC1 HB1
      go_wp2_with fail
      clear cc fc hgc
      go_loopw [7] (fun qv wr => ∃ (q : Nat) (c : List Nat), 1 ≤ q ∧ q ≤ 257 ∧ qv = .int .i64 q ∧ Hid (C3 T c q) ∧ Hid (IsA 98 wr gf c) ∧ Hid (Below gf w wr)) (fun qv _ => 257 - (intOf qv).toNat)
      case atStart => exact ⟨1, _, Nat.le_refl _, by decide, rfl, H3, HC3, HB3⟩
      case round =>
        clear H3 HC3 HB3
        obtain ⟨q, c, hq1, hqm, rfl, H1, HC1, HB1⟩ := hrel
        by_cases hlt : q < 257
        · have hqi : (q : Int) < 257 := by omega
          have hgc := block_lt HC1.out
          obtain ⟨x, hx⟩ : ∃ x, c.getD q 0 = x := ⟨_, rfl⟩
          obtain ⟨y, hy⟩ : ∃ y, c.getD (q - 1) 0 = y := ⟨_, rfl⟩
          obtain ⟨hxy, h2⟩ := H1.out.step hq1 hlt x y hx hy
          have cx := HC1.out.cell q (by rw [H1.out.1]; exact hlt)
          have cy := HC1.out.cell (q - 1) (by rw [H1.out.1]; omega)
          have fc := HC1.out.free q
          rw [hx] at cx
          rw [hy] at cy
          obtain ⟨z, hz⟩ : ∃ z, q - 1 = z := ⟨_, rfl⟩
          have hz2 : (q : Int) - 1 = (z : Int) := by omega
          have hzm : (z : Int) < 257 := by omega
          rw [hz] at cy
          have H2 := Lib.hid h2
          have HC2 := Lib.hid (show IsA 98 (wr.setCell ⟨gf, q, none⟩ (.int .i64 ((x : Int) + y))) gf (c.set q (x + y)) from HC1.out.set q (x + y))
          have HB2 := Lib.hid (HB1.out.setCell (p := ⟨gf, q, none⟩) (Nat.le_refl _) (.int .i64 ((x : Int) + y)))
          clear h2 hx hy hz
          go_wp2_with fail
          go_region
          go_wp2_with fail
          go_roundw
          case rel => exact ⟨q + 1, _, by omega, by omega, by go_num, H2, HC2, Lib.hid HB2.out.drew⟩
          case measure => simp [intOf] <;> omega
        · obtain rfl : q = 257 := by omega
          rw [show ((257 : Nat) : Int) = (257 : Int) from rfl]
          have hgc := block_lt HC1.out
          have mk1 := mkI (T.length + 1) (by omega)
          have hcast : ((T.length + 1 : Nat) : Int) = (T.length : Int) + 1 := by omega
          rw [hcast] at mk1
          have HLD := Lib.hid (LdB.start (at_ := at_) (o := List.replicate (T.length + 1) 0) H1.out List.length_replicate)
          have hb3 := (Below.refl wr.heap.size wr).alloc (Nat.le_refl _) (.cells (madeCells #[.int .i64 0] (T.length + 1)) 3)
          have HO := Lib.hid (show IsN (wr.alloc (.cells (madeCells #[.int .i64 0] (T.length + 1)) 3)) wr.heap.size (List.replicate (T.length + 1) 0) by unfold IsN IsA; rw [← madeI]; exact heap_alloc_new wr _)
          have HC2 := Lib.hid (HC1.out.kept hb3)
          have HB2 := Lib.hid (HB1.out.trans (hb3.mono (by omega)))
          have hne : gf ≠ wr.heap.size := by omega
          have hle : gf ≤ wr.heap.size := by omega
          clear hb3 H1 HC1 HB1
          go_wp2_with fail
          generalize wr.alloc (.cells (madeCells #[.int .i64 0] (T.length + 1)) 3) = w3 at *
          obtain ⟨g, hg⟩ : ∃ g, wr.heap.size = g := ⟨_, rfl⟩
          rw [hg] at HO hne hle ⊢
          clear mk1 hg hgc
          go_loopw [46] (fun rv wr => ∃ (r : Nat) (c o : List Nat), r ≤ T.length + 1 ∧ rv = .int .i64 r ∧ Hid (LdB T at_ r c o) ∧ Hid (IsA 98 wr gf c) ∧ Hid (IsN wr g o) ∧ Hid (Below gf w wr)) (fun rv _ => T.length + 1 - (intOf rv).toNat)
          case atStart => exact ⟨0, _, _, Nat.zero_le _, rfl, HLD, HC2, HO, HB2⟩
          case round =>
            clear HLD HC2 HO HB2
            obtain ⟨r, c, o, hr, rfl, H1, HC1, HO1, HB1⟩ := hrel
            by_cases hlt : r < T.length + 1
            · have hri : (r : Int) < (T.length : Int) + 1 := by omega
              by_cases he : r = at_
              · subst he
                have e1 : ((r : Int) == (r : Int)) = true := by simp
                have H2 := Lib.hid H1.out.skip
                go_wp2_with fail
                go_roundw
                case rel => exact ⟨r + 1, c, o, by omega, by go_num, H2, HC1, HO1, HB1⟩
                case measure => simp [intOf] <;> omega
              · have e1 : ((r : Int) == (at_ : Int)) = false := by rw [beq_eq_false_iff_ne]; omega
                obtain ⟨B, hB⟩ : ∃ B, byteAtU T (sOfB at_ r) = B := ⟨_, rfl⟩
                obtain ⟨C, hC⟩ : ∃ C, c.getD B 0 = C := ⟨_, rfl⟩
                obtain ⟨hC6, hB256, h2⟩ := H1.out.step (by omega) ha he B C hB hC
                have CB1 := Lib.hid (fun W => CB.out r W (by omega) he)
                rw [hB] at CB1
                have H2 := Lib.hid h2
                have hBi : (B : Int) < 257 := by omega
                have HCl := Lib.hid H1.out.cl
                have HOl := Lib.hid H1.out.ol
                have HCC := Lib.hid hC
                clear h2 hB hC H1
                go_wp2_with fail
                refine (CB1.out _).mono ?_; rintro e w5 ⟨rfl, kq, rfl⟩
                have HC5 := Lib.hid (HC1.out.drewN kq)
                have HO5 := Lib.hid (HO1.out.drewN kq)
                have HB5 := Lib.hid (below_dn HB1.out kq)
                clear HC1 HO1 HB1 CB1
                generalize wr.drewN kq = w6 at *
                have cc := HC5.out.cell B (by rw [HCl.out]; omega)
                rw [HCC.out] at cc
                have fc := HC5.out.free B
                have co := HO5.out.cell r (by rw [HOl.out]; omega)
                have fo := HO5.out.free r
                have l1 := block_lt HC5.out
                have l2 := block_lt HO5.out
                have hne2 := hne.symm
                go_wp2_with fail
                go_roundw
                case rel => exact ⟨r + 1, _, _, by omega, by go_num, H2, (HC5.out.away hne).set B (C + 1), (HO5.out.set r C).away hne2, (HB5.out.setCell (p := ⟨g, r, none⟩) hle (.int .i64 (C : Int))).setCell (p := ⟨gf, B, none⟩) (Nat.le_refl _) (.int .i64 ((C : Int) + 1))⟩
                case measure => simp [intOf] <;> omega
            · obtain rfl : r = T.length + 1 := by omega
              have hri : ¬ ((T.length + 1 : Nat) : Int) < (T.length : Int) + 1 := by omega
              go_wp2_with fail
              go_ret
              exact ⟨g, rfl, o, HO1.out, H1.out.ol, fun q hq hne => H1.out.pl q (by omega) hq hne, by rw [HGF.out]; exact HB1.out⟩
end Go.Proofs.Ytedmnlfbmmlcbaa

/- Layer 48: Back. -/
namespace Go.Proofs.Ytedmnlfbmmlcbaa
open Go.ChangeShapes Go.WideShapes Go.ChangeAt Go.RowKit
set_option linter.unusedVariables false
set_option linter.unusedSimpArgs false
set_option maxRecDepth 100000
theorem make_u8 {X : World} {ops : Array Oper} {rest : List Oper} {o : Oper} {a : Act} {Q : Exit → Act → World → Prop} (hgd : o.guard = none) (lo co : Operand) (ho : o.op = .makeSlice 52 lo co)
    (kl kc : IntKind) (L C : Int) (n : Nat) (hlo : a.eval lo = .int kl L) (hco : a.eval co = .int kc C) (hL : L = (n : Int)) (hC : C = (n : Int)) (hn : n ≤ 1099511627776)
    (h : ∀ w', OwnY X.heap.size w' (.slice (some ⟨X.heap.size, 0, none⟩) n n) (List.replicate n 0) → Below X.heap.size X w' → X.heap.size < w'.heap.size → wpList Try.prog ops Q rest (a.put o.dst (.slice (some ⟨X.heap.size, 0, none⟩) n n)) w') : wpList Try.prog ops Q (o :: rest) a X :=
  make_full (f := fY) info_u8 (by decide) Try.underlying52 0 rfl flatY (by decide) hgd lo co ho kl kc L C n hlo hco hL hC hn h
theorem y_cell {B g n cap : Nat} {w : World} {l : List UInt8} (h : OwnY B w (.slice (some ⟨g, 0, none⟩) n cap) l) (i : Nat) (hi : i < l.length) : w.cell? ⟨g, i, none⟩ = some (.int .u8 ((l.getD i 0).toNat : Nat)) := by
  have := h.cell flatY i 0 l[i] (by simp [hi]) (by decide)
  rw [Nat.mul_one, Nat.add_zero] at this
  rw [this]
  simp [fY, List.getD_eq_getElem?_getD, hi]
theorem drop_put (o : List UInt8) (k : Nat) (b : UInt8) (h : k < o.length) : (o.set k b).drop k = b :: o.drop (k + 1) := by
  rw [List.drop_eq_getElem_cons (by rw [List.length_set]; exact h)]
  simp [List.drop_set]
theorem ahd_le (T : List UInt8) (at_ row : Nat) (hr : row ≤ T.length) (ha : at_ ≤ T.length) (hne : row ≠ at_) : ahd T at_ row ≤ T.length := by
  have hp := posn_lt (byteAtU T) (List.range T.length) (sOfB at_ row) (by rw [List.length_range]; unfold sOfB; split <;> omega)
  rw [List.length_range] at hp
  unfold ahd; omega
def resB : Option (List UInt8) → Value
  | some S => .tuple #[.string (sM S), .int .i64 0]
  | none => .tuple #[.string ⟨#[]⟩, .int .i64 4]
set_option maxHeartbeats 3200000 in
theorem cBackB (T : List UInt8) (at_ : Nat) (w : World) (hT : T.length ≤ 10000) (ha : at_ ≤ T.length) (ha1 : 1 ≤ at_) (R : Option (List UInt8)) (hR : bk T at_ T.length 0 [] = R) :
    Calls Try.prog 44 #[.string (sM T), .int .i64 at_] w fun e w' => e = .returned (resB R) ∧ Below w.heap.size w w' := by
  obtain ⟨n, hn⟩ : ∃ n, T.length = n := ⟨_, rfl⟩
  have hS : (sM T).size = n := by rw [sM_size, hn]
  have CA := Lib.hid (fun W => cAhead T at_ W hT ha)
  have CB := Lib.hid (fun r W (hr : r ≤ T.length) (hne : r ≠ at_) => cByteOf T at_ r W (by omega) hr ha hne)
  have HR := Lib.hid hR
  have HAL := Lib.hid (fun r (hr : r ≤ T.length) (hne : r ≠ at_) => ahd_le T at_ r hr ha hne)
  have HN := Lib.hid hn
  rw [hn] at CA CB HR HAL hT ha
  have d1 : decide ((at_ : Int) < 0) = false := decide_eq_false (by omega)
  have d2 : decide ((n : Int) < at_) = false := decide_eq_false (by omega)
  have d3 : decide (n < at_) = false := decide_eq_false (by omega)
  have d4 : ((at_ : Int) == 0) = false := by rw [beq_eq_false_iff_ne]; omega
  clear hn hR
  go_enter Try.func44, Try.ntmps44
  go_wp2_with fail
  refine (CA.out _).mono ?_; rintro e w1 ⟨g, ah, rfl, ho, hol, hah, hb⟩
  have HA := Lib.hid ho
  have HOL := Lib.hid hol
  have HAH := Lib.hid hah
  have HB := Lib.hid hb
  clear ho hol hah hb CA
  go_wp2_with (refine make_u8 rfl _ _ rfl .i64 .i64 (n : Int) (n : Int) n rfl rfl rfl rfl (by omega) ?_; intro w2 ho2 hb2 hs2)
  obtain ⟨gm, hgm⟩ : ∃ g, w1.heap.size = g := ⟨_, rfl⟩
  have hgg := block_lt HA.out
  have HM := Lib.hid ho2
  have HA := Lib.hid (HA.out.kept hb2)
  have hz := HB.out.size
  have HB := Lib.hid (HB.out.trans (hb2.mono HB.out.size))
  rw [hgm] at HM hgg hz ⊢
  clear ho2 hb2 hs2 hgm d1 d2 d3 d4
  go_loopw [8, 9] (fun rv kv wr => ∃ (d row : Nat) (acc o : List UInt8), d ≤ n ∧ row ≤ n ∧ rv = .int .i64 row ∧ kv = .int .i64 ((n : Int) - 1 - d) ∧ Hid (o.length = n ∧ o.drop (n - d) = acc ∧ bk T at_ (n - d) row acc = R) ∧ Hid (OwnY gm wr (.slice (some ⟨gm, 0, none⟩) n n) o) ∧ Hid (IsN wr g ah) ∧ Hid (Below w.heap.size w wr)) (fun _ kv _ => (intOf kv + 1).toNat)
  case atStart => exact ⟨0, 0, [], _, Nat.zero_le _, Nat.zero_le _, rfl, by go_num, Lib.hid ⟨List.length_replicate, by rw [Nat.sub_zero]; exact List.drop_eq_nil_of_le (by rw [List.length_replicate]; exact Nat.le_refl _), HR.out⟩, HM, HA, HB⟩
  case round =>
    clear HM HA HB
    obtain ⟨d, row, acc, o, hd, hrow, rfl, rfl, HT, HM, HA, HB⟩ := hrel
    by_cases hdn : d < n
    · obtain ⟨k, hk⟩ : ∃ k, n - 1 - d = k := ⟨_, rfl⟩
      have hki : (n : Int) - 1 - d = (k : Int) := by omega
      rw [hki]
      have hkn : (k : Int) < n := by omega
      have hk0 : (0 : Int) ≤ (k : Int) := by omega
      have hnd : n - d = k + 1 := by omega
      by_cases he : row = at_
      · have e1 : ((row : Int) == (at_ : Int)) = true := by rw [beq_iff_eq]; omega
        have HE := Lib.hid (show resB R = .tuple #[.string ⟨#[]⟩, .int .i64 4] by
          have := HT.out.2.2
          rw [hnd, bk, if_pos he] at this
          rw [← this]; rfl)
        clear hki hk he
        go_wp2_with fail
        go_ret2
        exact ⟨by rw [HE.out]; rfl, HB.out⟩
      · have e1 : ((row : Int) == (at_ : Int)) = false := by rw [beq_eq_false_iff_ne]; omega
        have hst : bk T at_ k (ahd T at_ row) (T.getD (sOfB at_ row) 0 :: acc) = R := by
          have := HT.out.2.2
          rwa [hnd, bk, if_neg he] at this
        have hal := HAL.out row hrow he
        have hah := HAH.out row (by first | exact hrow | (rw [HN.out]; exact hrow)) he
        obtain ⟨A, hA⟩ : ∃ A, ahd T at_ row = A := ⟨_, rfl⟩
        rw [hA] at hst hal hah
        have CB1 := Lib.hid (fun W => CB.out row W hrow he)
        have hbb : (byteAtU T (sOfB at_ row) : Nat) = (T.getD (sOfB at_ row) 0).toNat := rfl
        rw [hbb] at CB1
        obtain ⟨Y, hY⟩ : ∃ Y, T.getD (sOfB at_ row) 0 = Y := ⟨_, rfl⟩
        rw [hY] at CB1 hst
        have HT2 := Lib.hid (show (o.set k Y).length = n ∧ (o.set k Y).drop (n - (d + 1)) = Y :: acc ∧ bk T at_ (n - (d + 1)) A (Y :: acc) = R from ⟨by rw [List.length_set]; exact HT.out.1, by
          rw [show n - (d + 1) = k by omega, drop_put o k Y (by rw [HT.out.1]; omega), ← hnd, HT.out.2.1], by rw [show n - (d + 1) = k by omega]; exact hst⟩)
        have HK := Lib.hid hki
        have HAH2 := Lib.hid hah
        have hAn : (A : Int) ≤ n := by omega
        have hrl : (row : Int) < (n : Int) + 1 := by omega
        clear hst hA hY hbb hki hk hah he
        go_wp2_with fail
        refine (CB1.out _).mono ?_; rintro e w5 ⟨rfl, kq, rfl⟩
        have HM := Lib.hid (HM.out.drewN kq)
        have HA := Lib.hid (HA.out.drewN kq)
        have HB := Lib.hid (below_dn HB.out kq)
        clear CB1
        generalize wr.drewN kq = w6 at *
        have cm := y_cell HM.out k (by rw [HT.out.1]; omega)
        have fm := HM.out.free k
        have lm := (HM.out.lt _ rfl).2
        have ca := HA.out.cell row (by have h1 := HOL.out; have h2 := HN.out; omega)
        rw [HAH2.out] at ca
        have la := block_lt HA.out
        have hne : gm ≠ g := by omega
        have hne2 : g ≠ gm := by omega
        have HM2 := Lib.hid (HM.out.set1 flatY k Y (.int .u8 (Y.toNat : Int)) rfl (by rw [HT.out.1]; omega))
        have HA2 := Lib.hid (HA.out.away (k := gm) (j := k) (u := .int .u8 (Y.toNat : Int)) hne2)
        have HB2 := Lib.hid (HB.out.setCell (p := ⟨gm, k, none⟩) hz (.int .u8 (Y.toNat : Int)))
        go_wp2_with fail
        go_roundw
        case rel => exact ⟨d + 1, A, _, _, by omega, by omega, rfl, by have := HK.out; go_num, HT2, HM2, HA2, HB2⟩
        case measure => simp [intOf] <;> omega
    · obtain rfl : d = n := by omega
      have hki : (d : Int) - 1 - d = -1 := by omega
      rw [hki]
      have e : o = acc := by have := HT.out.2.1; rwa [Nat.sub_self, List.drop_zero] at this
      have HE := Lib.hid (show resB R = .tuple #[.string (sM o), .int .i64 0] by
        have := HT.out.2.2
        rw [Nat.sub_self, bk, ← e] at this
        rw [← this]; rfl)
      have hcv := HM.out.convY
      clear e
      go_wp2_with fail
      go_ret2
      exact ⟨by rw [HE.out]; rfl, HB.out⟩
end Go.Proofs.Ytedmnlfbmmlcbaa
