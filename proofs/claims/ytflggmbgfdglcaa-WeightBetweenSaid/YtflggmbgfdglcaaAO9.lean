/- Layer 14: what two lists are, mixed, by both. -/
import Derived.Test.YtflggmbgfdglcaaAO7
import Derived.Test.YtflggmbgfdglcaaAO8
namespace Go.Proofs.Ytflggmbgfdglcaa
open Go.ChangeShapes Go.WideShapes Go.ChangeAt Go.RowKit
set_option linter.unusedVariables false
set_option linter.unusedSimpArgs false
set_option maxRecDepth 100000
open Ieee
theorem ord_some {x y : Nat} (hx : isN x = false) (hy : isN y = false) : ∃ o, double.order x y = some o := by
  unfold Format.order
  unfold isN at hx hy
  cases h1 : double.read x with
  | nan s f => rw [h1] at hx; cases hx
  | infinity s =>
    cases h2 : double.read y with
    | nan s f => rw [h2] at hy; cases hy
    | infinity t => exact ⟨_, rfl⟩
    | number t n j => exact ⟨_, rfl⟩
  | number s m i =>
    cases h2 : double.read y with
    | nan s f => rw [h2] at hy; cases hy
    | infinity t => exact ⟨_, rfl⟩
    | number t n j => exact ⟨_, rfl⟩
theorem maxF_isN {w : Nat} (h : isN w = false) : isN (maxF w) = false := by
  unfold maxF
  have h0 : isN 0 = false := by decide +kernel
  split
  · exact h0
  · exact h
  · split
    · exact h0
    · exact h
theorem max_run (w : Nat) (h : isN w = false) (ts : Array TypeId) (t : TypeId) (W : World) : (Builtin.max_ ts t #[.float .f64 w, .float .f64 0]).run Try.prog W = .ok (.float .f64 (maxF w)) W := by
  obtain ⟨o, ho⟩ := ord_some h (show isN 0 = false by decide +kernel)
  have ho2 : FloatKind.f64.format.order w 0 = some o := ho
  have hd : FloatKind.f64.decode w = double.read w := rfl
  unfold maxF
  rw [ho]
  cases o with
  | lt => simp [Builtin.max_, Builtin.max2, ho2]
  | gt => simp [Builtin.max_, Builtin.max2, ho2]
  | eq => simp [Builtin.max_, Builtin.max2, ho2, hd]
theorem min_run (w : Nat) (h : isN w = false) (ts : Array TypeId) (t : TypeId) (W : World) : (Builtin.min_ ts t #[.float .f64 w, .float .f64 4607182418800017408]).run Try.prog W = .ok (.float .f64 (minF w)) W := by
  obtain ⟨o, ho⟩ := ord_some h (show isN 4607182418800017408 = false by decide +kernel)
  have ho2 : FloatKind.f64.format.order w 4607182418800017408 = some o := ho
  have hd : FloatKind.f64.decode w = double.read w := rfl
  unfold minF
  rw [ho]
  cases o with
  | lt => simp [Builtin.min_, Builtin.min2, ho2]
  | gt => simp [Builtin.min_, Builtin.min2, ho2]
  | eq => simp [Builtin.min_, Builtin.min2, ho2, hd]
theorem mul_run {x y r : Nat} (h : double.mul x y = some r) (W : World) : (binOp .mul 27 (.float .f64 x) (.float .f64 y)).run Try.prog W = .ok (.float .f64 r) W := run_float_arith W .mul _ .f64 x y r h
set_option maxHeartbeats 1600000 in
theorem cMixN (a b : Option Addr) (la lb ca cb : Nat) (w : Nat) (h : isN w = true) (W : World) : Calls Try.prog 15 #[.slice a la ca, .slice b lb cb, .float .f64 w] W fun e w' => e = .returned (.tuple #[.slice none 0 0, .int .i64 8]) ∧ w' = W := by
  have C := Lib.hid (fun V => cIsNaN w V)
  rw [h] at C
  clear h
  go_enter Try.func15, Try.ntmps15
  go_wp2_with fail
  refine (C.out _).mono ?_; rintro e w1 ⟨rfl, rfl⟩
  go_wp2_with fail
  go_ret2
  exact ⟨rfl, rfl⟩
set_option maxHeartbeats 1600000 in
theorem cMixL (a b : Option Addr) (la lb ca cb : Nat) (w : Nat) (h : isN w = false) (hl : la ≠ lb) (W : World) : Calls Try.prog 15 #[.slice a la ca, .slice b lb cb, .float .f64 w] W fun e w' => e = .returned (.tuple #[.slice none 0 0, .int .i64 1]) ∧ w' = W := by
  have C := Lib.hid (fun V => cIsNaN w V)
  rw [h] at C
  have hb : ((la : Int) != (lb : Int)) = true := by rw [bne_iff_ne]; omega
  clear h hl
  go_enter Try.func15, Try.ntmps15
  go_wp2_with fail
  refine (C.out _).mono ?_; rintro e w1 ⟨rfl, rfl⟩
  go_wp2_with fail
  go_ret2
  exact ⟨rfl, rfl⟩
set_option maxHeartbeats 1600000 in
theorem cMixF (a b : Option Addr) (ca cb : Nat) (old now : List Int) (w : Nat) (h : isN w = false) (hl : old.length = now.length) (h3 : old.length ≤ 300) (W : World) (ha : IsInts W a old) (hb : IsInts W b now) (hf : (fineW old && fineW now) = false) :
    Calls Try.prog 15 #[.slice a old.length ca, .slice b now.length cb, .float .f64 w] W fun e w' => e = .returned (.tuple #[.slice none 0 0, .int .i64 2]) ∧ Below W.heap.size W w' := by
  have C := Lib.hid (fun V => cIsNaN w V)
  rw [h] at C
  have C1 := Lib.hid (cPricesW a ca old W ha h3)
  have C2 := Lib.hid (fun n => cPricesW b cb now (W.drewN n) (hb.drewN n) (by omega))
  obtain ⟨F1, h1⟩ : ∃ F, fineW old = F := ⟨_, rfl⟩
  obtain ⟨F2, h2⟩ : ∃ F, fineW now = F := ⟨_, rfl⟩
  rw [h1] at C1 hf
  rw [h2] at C2 hf
  have hbn : ((old.length : Int) != (now.length : Int)) = false := by rw [bne_eq_false_iff_eq]; omega
  obtain ⟨LN, hLN⟩ : ∃ LN, now.length = LN := ⟨_, rfl⟩
  rw [hLN] at C2 hbn ⊢
  clear h hl ha hb h1 h2 hLN
  cases F1 with
  | false =>
    go_enter Try.func15, Try.ntmps15
    go_wp2_with fail
    refine (C.out _).mono ?_; rintro e w1 ⟨rfl, rfl⟩
    go_wp2_with fail
    refine C1.out.mono ?_; rintro e w1 ⟨rfl, n, rfl⟩
    go_wp2_with fail
    go_ret2
    exact ⟨rfl, below_dn (Below.refl _ _) _⟩
  | true =>
    obtain rfl : F2 = false := by simpa using hf
    go_enter Try.func15, Try.ntmps15
    go_wp2_with fail
    refine (C.out _).mono ?_; rintro e w1 ⟨rfl, rfl⟩
    go_wp2_with fail
    refine C1.out.mono ?_; rintro e w1 ⟨rfl, n, rfl⟩
    go_wp2_with fail
    refine (C2.out n).mono ?_; rintro e w1 ⟨rfl, n2, rfl⟩
    go_wp2_with fail
    go_ret2
    exact ⟨rfl, below_dn (Below.refl _ _) _⟩
theorem mix_take_next (old now : List Int) (W k : Nat) (h : k < old.length) : (mixL old now W).take (k + 1) = (mixL old now W).take k ++ [old.getD k 0 + mulI (now.getD k 0 - old.getD k 0) W] := by
  rw [List.take_succ_eq_append_getElem (by rw [mixL_len]; exact h)]
  congr 2
  have := mixL_at old now W k h
  rw [List.getD_eq_getElem?_getD, List.getElem?_eq_getElem (by rw [mixL_len]; exact h)] at this
  exact this
/-- What one step reckons. -/
theorem step_facts {old now : List Int} {wc : Nat} (hw : Frac wc) (ho : fineW old = true) (hn : fineW now = true) (hl : old.length = now.length) (k : Nat) (hk : k < old.length) :
    ∃ p, double.mul (floatOfInt .f64 (now.getD k 0 - old.getD k 0)) wc = some p ∧ (double.read p).toInt .zero = some (mulI (now.getD k 0 - old.getD k 0) wc) ∧ -1048576 ≤ now.getD k 0 - old.getD k 0 ∧ now.getD k 0 - old.getD k 0 ≤ 1048576 ∧ -1048576 ≤ mulI (now.getD k 0 - old.getD k 0) wc ∧ mulI (now.getD k 0 - old.getD k 0) wc ≤ 1048576 ∧ 0 ≤ old.getD k 0 ∧ old.getD k 0 ≤ 1048576 := by
  have h1 := fineW_at ho k hk
  have h2 := fineW_at hn k (by omega)
  obtain ⟨p, hp, hi, hb, -⟩ := mul_ok (now.getD k 0 - old.getD k 0) (by omega) wc hw
  exact ⟨p, hp, hi, by omega, by omega, by omega, by omega, h1.1, h1.2⟩
set_option maxHeartbeats 6400000 in
theorem cMixOk (a b : Option Addr) (ca cb : Nat) (old now : List Int) (w : Nat) (h : isN w = false) (hl : old.length = now.length) (h3 : old.length ≤ 300) (W : World) (ha : IsInts W a old) (hb : IsInts W b now) (ho : fineW old = true) (hn : fineW now = true) :
    Calls Try.prog 15 #[.slice a old.length ca, .slice b now.length cb, .float .f64 w] W fun e w' => ∃ v, e = .returned (.tuple #[v, .int .i64 0]) ∧ IsL w' v (mixL old now (clampC w)) ∧ Below W.heap.size W w' := by
  have C := Lib.hid (fun V => cIsNaN w V)
  rw [h] at C
  have C1 := Lib.hid (cPricesW a ca old W ha h3)
  have C2 := Lib.hid (fun n => cPricesW b cb now (W.drewN n) (hb.drewN n) (by omega))
  rw [ho] at C1
  rw [hn] at C2
  have hbn : ((old.length : Int) != (now.length : Int)) = false := by rw [bne_eq_false_iff_eq]; omega
  have hmx := max_run w h
  have hmn := min_run (maxF w) (maxF_isN h)
  have hcc : minF (maxF w) = clampC w := rfl
  rw [hcc] at hmn
  have HSF := Lib.hid (fun k hk => step_facts (frac_or w h).2.1 ho hn hl k hk)
  obtain ⟨M, hM⟩ : ∃ M, maxF w = M := ⟨_, rfl⟩
  obtain ⟨wc, hwc⟩ : ∃ wc, clampC w = wc := ⟨_, rfl⟩
  rw [hM] at hmx hmn
  rw [hwc] at hmn HSF ⊢
  obtain ⟨LN, hLN⟩ : ∃ LN, now.length = LN := ⟨_, rfl⟩
  have HLN := Lib.hid hLN
  rw [hLN] at C2 hbn ⊢
  have HLL := Lib.hid (show old.length = LN by omega)
  have HA := Lib.hid ha
  have HB := Lib.hid hb
  have HNX := Lib.hid (fun k hk => mix_take_next old now wc k hk)
  clear h hl ha hb ho hn hLN hcc hM hwc
  go_enter Try.func15, Try.ntmps15
  go_wp2_with fail
  refine (C.out _).mono ?_; rintro e w1 ⟨rfl, rfl⟩
  go_wp2_with fail
  refine C1.out.mono ?_; rintro e w1 ⟨rfl, n, rfl⟩
  go_wp2_with fail
  refine (C2.out n).mono ?_; rintro e w1 ⟨rfl, n2, rfl⟩
  obtain ⟨w2, hw2⟩ : ∃ w2, (w1.drewN n).drewN n2 = w2 := ⟨_, rfl⟩
  have HD := Lib.hid (show Below w1.heap.size w1 w2 by rw [← hw2]; exact below_dn (below_dn (Below.refl _ _) _) _)
  rw [hw2]
  have HSZ := Lib.hid (show w2.heap.size = w1.heap.size by rw [← hw2]; rfl)
  clear hw2
  go_wp2_with (first
    | (refine make_int rfl (.tmp 32) (.tmp 32) rfl .i64 .i64 _ _ old.length rfl rfl rfl rfl (by omega) ?_; intro w3 ho3 hb3 hz3)
    | fail)
  obtain ⟨g, hg⟩ : ∃ g, w2.heap.size = g := ⟨_, rfl⟩
  have HG := Lib.hid (show w1.heap.size = g by rw [← HSZ.out]; exact hg)
  rw [hg] at ho3 hb3 hz3 ⊢
  have HO1 := Lib.hid ho3
  have HB1 := Lib.hid (show Below g w1 w3 by have := HD.out.trans (show Below w1.heap.size w2 w3 by rw [HG.out]; exact hb3); rw [HG.out] at this; exact this)
  clear ho3 hb3 hg hz3 HSZ HD C C1 C2 hbn hmx hmn
  go_wp2_with fail
  go_loopw [36] (fun iv wr => ∃ k : Nat, k ≤ old.length ∧ iv = .int .i64 k ∧ Hid (OwnI g wr (.slice (some ⟨g, 0, none⟩) old.length old.length) ((mixL old now wc).take k ++ List.replicate (old.length - k) 0)) ∧ Hid (Below g w1 wr)) (fun iv _ => old.length - (intOf iv).toNat)
  case atStart => exact ⟨0, Nat.zero_le _, rfl, Lib.hid (by simpa using HO1.out), HB1⟩
  case round =>
    clear HO1 HB1
    obtain ⟨k, hk, rfl, ho, hb⟩ := hrel
    by_cases hlt : k < old.length
    · have hia := HA.out.kept (by rw [HG.out]; exact hb.out)
      have hib := HB.out.kept (by rw [HG.out]; exact hb.out)
      obtain ⟨xa, hxa, -, cxa⟩ := hia.at k hlt
      obtain ⟨xa', hxa', -, cxa0⟩ := HA.out.at k hlt
      rw [hxa] at hxa'
      injection hxa' with hxa'
      subst hxa' hxa
      obtain ⟨xb, hxb, -, cxb⟩ := hib.at k (by rw [HLN.out, ← HLL.out]; exact hlt)
      obtain ⟨xb', hxb', -, cxb0⟩ := HB.out.at k (by rw [HLN.out, ← HLL.out]; exact hlt)
      rw [hxb] at hxb'
      injection hxb' with hxb'
      subst hxb' hxb
      have ca1 := cxa k hlt
      have cb1 := cxb k (by rw [HLN.out, ← HLL.out]; exact hlt)
      obtain ⟨p, hp, hi, d0, d1, m0, m1, o0, o1⟩ := HSF.out k hlt
      have hnx := HNX.out k hlt
      have hml : ((mixL old now wc).take k).length = k := by rw [List.length_take, mixL_len]; omega
      have hrep : List.replicate (old.length - k) (0 : Int) = 0 :: List.replicate (old.length - (k + 1)) 0 := by
        rw [show old.length - k = (old.length - (k + 1)) + 1 by omega, List.replicate_succ]
      obtain ⟨O, hO⟩ : ∃ O, old.getD k 0 = O := ⟨_, rfl⟩
      obtain ⟨N, hN⟩ : ∃ N, now.getD k 0 = N := ⟨_, rfl⟩
      rw [hO] at ca1 o0 o1 hnx
      rw [hN] at cb1
      rw [hO, hN] at hp hi d0 d1 m0 m1
      rw [hN] at hnx
      obtain ⟨D, hD⟩ : ∃ D, N - O = D := ⟨_, rfl⟩
      rw [hD] at hp hi d0 d1 m0 m1 hnx
      obtain ⟨Y, hY⟩ : ∃ Y, mulI D wc = Y := ⟨_, rfl⟩
      rw [hY] at hi m0 m1 hnx
      have hcv := f2i hi (by omega) (by omega)
      have hmr := mul_run hp
      have hwd : IntKind.i64.wrap (N - O) = D := by rw [hD, IntKind.wrap_i64]; omega
      have hwD : IntKind.i64.wrap D = D := by rw [IntKind.wrap_i64]; omega
      have hws : IntKind.i64.wrap (O + Y) = O + Y := by rw [IntKind.wrap_i64]; omega
      have cf := ho.out.free k
      have cc := OwnS.int_cell ho.out k (by rw [List.length_append, hml, List.length_replicate]; omega)
      rw [List.getD_eq_getElem?_getD, List.getElem?_append_right (by omega), hml, Nat.sub_self, hrep] at cc
      simp only [List.getElem?_cons_zero, Option.getD_some] at cc
      have hst := OwnS.set_int (show OwnI g wr.drew (.slice (some ⟨g, 0, none⟩) old.length old.length) ((mixL old now wc).take k ++ List.replicate (old.length - k) 0) from ho.out) k (O + Y) (by rw [List.length_append, hml, List.length_replicate]; omega)
      rw [hrep, set_at_next _ _ _ _ _ hml, ← hnx] at hst
      have HST := Lib.hid hst
      have HB3 := Lib.hid (hb.out.drew.setCell (p := ⟨g, k, none⟩) (Nat.le_refl _) (.int .i64 (O + Y)))
      have hki : (k : Int) < (old.length : Int) := by omega
      have hki2 : (k : Int) < (LN : Int) := by rw [← HLL.out]; exact hki
      have hk0 : (0 : Int) ≤ (k : Int) := by omega
      have HS0 := Lib.hid (show wr.cell? (xa.add k) = some (.int .i64 O) ∧ wr.cell? (xb.add k) = some (.int .i64 N) from ⟨ca1, cb1⟩)
      have hba : (xa.add k).block < g := by
        have h := cxa0 k hlt
        have := cell_block h
        rw [HG.out] at this; exact this
      have hbb : (xb.add k).block < g := by
        have h := cxb0 k (by rw [HLN.out, ← HLL.out]; exact hlt)
        have := cell_block h
        rw [HG.out] at this; exact this
      have HS1 := Lib.hid (show (wr.setCell ⟨g, k, none⟩ (.int .i64 (O + Y))).drew.cell? (xa.add k) = some (.int .i64 O) ∧ (wr.setCell ⟨g, k, none⟩ (.int .i64 (O + Y))).drew.cell? (xb.add k) = some (.int .i64 N) from
        ⟨(World.cell?_setCell_other wr ⟨g, k, none⟩ (xa.add k) _ (by intro e; rw [← e] at hba; exact Nat.lt_irrefl _ hba)).trans ca1, (World.cell?_setCell_other wr ⟨g, k, none⟩ (xb.add k) _ (by intro e; rw [← e] at hbb; exact Nat.lt_irrefl _ hbb)).trans cb1⟩)
      clear hba hbb cxa0 cxb0
      clear cxa cxb hia hib hst hml hrep hp hi hY hO hN ho hb hD hnx
      go_wp2_with fail
      go_region_held3 (fun V => V.cell? (xa.add k) = some (.int .i64 O) ∧ V.cell? (xb.add k) = some (.int .i64 N)) (first | exact HS0.out | exact HS1.out | fail) (fail)
      go_wp2_with fail
      go_roundw
      case rel => exact ⟨k + 1, by omega, by go_num, HST, HB3⟩
      case measure => simp [intOf]; omega
    · obtain rfl : k = old.length := by omega
      have hki : ¬ (old.length : Int) < (old.length : Int) := by omega
      have ho' := ho.out
      rw [Nat.sub_self, List.replicate_zero, List.append_nil, List.take_of_length_le (by rw [mixL_len]; exact Nat.le_refl _)] at ho'
      have HO := Lib.hid (OwnS.isL ho' (by rw [mixL_len]; omega))
      have HBE := Lib.hid hb.out
      clear ho' ho hb
      go_wp2_with fail
      go_ret2
      exact ⟨_, rfl, HO.out, by rw [HG.out]; exact HBE.out⟩
end Go.Proofs.Ytflggmbgfdglcaa
