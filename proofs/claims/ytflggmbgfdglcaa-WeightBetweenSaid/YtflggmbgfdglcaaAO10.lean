/- Layer 14: the document's Mix. -/
import Derived.Test.YtflggmbgfdglcaaAO9
namespace Go.Proofs.Ytflggmbgfdglcaa
open Go.ChangeShapes Go.WideShapes Go.ChangeAt Go.RowKit
set_option linter.unusedVariables false
set_option linter.unusedSimpArgs false
set_option maxRecDepth 100000
open Ieee
theorem step_int {ops : Array Oper} {o : Oper} {a : Act} {X : World} {K : Act → World → Prop} {Q : Exit → Act → World → Prop} {E : Prop} (hgd : o.guard = none) (s xo : Operand)
    (ho : o.op = .call { callee := .builtin .append, args := #[s, xo], argTypes := #[30, 30] })
    (B T : Nat) (v : Value) (l : List Int) (x : Int) (hs : a.eval s = v) (hown : OwnI B X v l) (g c1 : Nat) (hg : X.heap.size = g) (hx : a.eval xo = .slice (some ⟨g, 0, none⟩) 1 c1) (hl : l.length ≤ 1099511627776) (hB : B ≤ X.heap.size)
    (h : ∀ v' w', OwnI B w' v' (l ++ [x]) → Below B X w' → K (a.put o.dst v') w') :
    if Region.wanted o (yielded ops a.tmps) = true then Oper.wp Try.prog o a (X.alloc (.cells #[.int .i64 x] T)) K Q else E := by
  subst hg
  obtain ⟨i0, hi, h1, h2, h3⟩ := info_get info_int
  refine step_append_at hgd s xo 30 ho B 3 i0 (.int .i64 0) 8 Try.underlying30 hi h1 h2 h3 rfl v l.length (l.flatMap fI) hs (World.ownsRow.alloc hown _) ⟨X.heap.size, 0, none⟩ 1 c1 [.int .i64 x] hx rfl (cell_new1 X _ T _ rfl) (by intro u hu; simp at hu; subst hu; rfl) (by unfold maxLen; omega) (by omega) (by simp; omega) (by decide) ?_
  intro k cap w' ho' hg' hk
  refine h _ w' ?_ ?_
  · have e : (l ++ [x]).flatMap fI = l.flatMap fI ++ [.int .i64 x] := by simp [fI]
    show World.ownsRow w' B _ 1 _ (l ++ [x]).length ((l ++ [x]).flatMap fI)
    rw [e, List.length_append]; exact ho'
  · exact (Below.alloc (Below.refl _ _) hB _).grown hg' (by simp; omega) (fun k hk => (World.ownsRow.lt hown k hk).1)
set_option maxHeartbeats 1600000 in
theorem dMixN (a b : Option Addr) (la lb ca cb : Nat) (w : Nat) (h : isN w = true) (W : World) : Calls Try.prog 16 #[.slice a la ca, .slice b lb cb, .float .f64 w] W fun e w' => e = .returned (.tuple #[.slice none 0 0, .int .i64 8]) ∧ w' = W := by
  have hNN : (FloatKind.f64.format.order w w != some .eq) = true := by rw [← h]; exact (isN_iff w).symm
  clear h
  go_enter Try.func16, Try.ntmps16
  go_wp2_with fail
  go_ret2
  exact ⟨rfl, rfl⟩
set_option maxHeartbeats 1600000 in
theorem dMixL (a b : Option Addr) (la lb ca cb : Nat) (w : Nat) (h : isN w = false) (hl : la ≠ lb) (W : World) : Calls Try.prog 16 #[.slice a la ca, .slice b lb cb, .float .f64 w] W fun e w' => e = .returned (.tuple #[.slice none 0 0, .int .i64 1]) ∧ w' = W := by
  have hNN : (FloatKind.f64.format.order w w != some .eq) = false := by rw [← h]; exact (isN_iff w).symm
  have hb : ((la : Int) != (lb : Int)) = true := by rw [bne_iff_ne]; omega
  clear h hl
  go_enter Try.func16, Try.ntmps16
  go_wp2_with fail
  go_ret2
  exact ⟨rfl, rfl⟩
set_option maxHeartbeats 1600000 in
theorem dMixF (a b : Option Addr) (ca cb : Nat) (old now : List Int) (w : Nat) (h : isN w = false) (hl : old.length = now.length) (h3 : old.length ≤ 300) (W : World) (ha : IsInts W a old) (hb : IsInts W b now) (hf : (fineW old && fineW now) = false) :
    Calls Try.prog 16 #[.slice a old.length ca, .slice b now.length cb, .float .f64 w] W fun e w' => e = .returned (.tuple #[.slice none 0 0, .int .i64 2]) ∧ Below W.heap.size W w' := by
  have hNN : (FloatKind.f64.format.order w w != some .eq) = false := by rw [← h]; exact (isN_iff w).symm
  have C1 := Lib.hid (dFineW a ca old W ha h3)
  have C2 := Lib.hid (fun n => dFineW b cb now (W.drewN n) (hb.drewN n) (by omega))
  obtain ⟨F1, h1⟩ : ∃ F, fineW old = F := ⟨_, rfl⟩
  obtain ⟨F2, h2⟩ : ∃ F, fineW now = F := ⟨_, rfl⟩
  rw [h1] at C1 hf
  rw [h2] at C2 hf
  have hbn : ((old.length : Int) != (now.length : Int)) = false := by rw [bne_eq_false_iff_eq]; omega
  obtain ⟨LN, hLN⟩ : ∃ LN, now.length = LN := ⟨_, rfl⟩
  rw [hLN] at C2 hbn ⊢
  clear h hl ha hb h1 h2 hLN
  cases F1 with
  | false =>
    go_enter Try.func16, Try.ntmps16
    go_wp2_with fail
    refine C1.out.mono ?_; rintro e w1 ⟨rfl, n, rfl⟩
    go_wp2_with fail
    go_ret2
    exact ⟨rfl, below_dn (Below.refl _ _) _⟩
  | true =>
    obtain rfl : F2 = false := by simpa using hf
    go_enter Try.func16, Try.ntmps16
    go_wp2_with fail
    refine C1.out.mono ?_; rintro e w1 ⟨rfl, n, rfl⟩
    go_wp2_with fail
    refine (C2.out n).mono ?_; rintro e w1 ⟨rfl, n2, rfl⟩
    go_wp2_with fail
    go_ret2
    exact ⟨rfl, below_dn (Below.refl _ _) _⟩
set_option maxHeartbeats 6400000 in
theorem dMixOk (a b : Option Addr) (ca cb : Nat) (old now : List Int) (w : Nat) (h : isN w = false) (hl : old.length = now.length) (h3 : old.length ≤ 300) (W : World) (ha : IsInts W a old) (hb : IsInts W b now) (ho : fineW old = true) (hn : fineW now = true) :
    Calls Try.prog 16 #[.slice a old.length ca, .slice b now.length cb, .float .f64 w] W fun e w' => ∃ v, e = .returned (.tuple #[v, .int .i64 0]) ∧ IsL w' v (mixL old now (clampD w)) ∧ Below W.heap.size W w' := by
  have hNN : (FloatKind.f64.format.order w w != some .eq) = false := by rw [← h]; exact (isN_iff w).symm
  have C1 := Lib.hid (dFineW a ca old W ha h3)
  have C2 := Lib.hid (fun n => dFineW b cb now (W.drewN n) (hb.drewN n) (by omega))
  rw [ho] at C1
  rw [hn] at C2
  have hbn : ((old.length : Int) != (now.length : Int)) = false := by rw [bne_eq_false_iff_eq]; omega
  have HSF := Lib.hid (fun k hk => step_facts (frac_or w h).1 ho hn hl k hk)
  obtain ⟨B1, hB1⟩ : ∃ B, (FloatKind.f64.format.order w 0 == some .lt) = B := ⟨_, rfl⟩
  obtain ⟨B2, hB2⟩ : ∃ B, (FloatKind.f64.format.order w 4607182418800017408 == some .gt) = B := ⟨_, rfl⟩
  have hcd : clampD w = if B1 = true then 0 else if B2 = true then 4607182418800017408 else w := by rw [← hB1, ← hB2]; rfl
  obtain ⟨wc, hwc⟩ : ∃ wc, clampD w = wc := ⟨_, rfl⟩
  rw [hwc] at HSF hcd ⊢
  obtain ⟨LN, hLN⟩ : ∃ LN, now.length = LN := ⟨_, rfl⟩
  have HLN := Lib.hid hLN
  rw [hLN] at C2 hbn ⊢
  have HLL := Lib.hid (show old.length = LN by omega)
  have HA := Lib.hid ha
  have HB := Lib.hid hb
  have HNX := Lib.hid (fun k hk => mix_take_next old now wc k hk)
  obtain ⟨g, hg⟩ : ∃ g, W.heap.size = g := ⟨_, rfl⟩
  have HG := Lib.hid hg
  have HDD := Lib.hid (show ∀ n, Below g W (W.drewN n) from fun n => by rw [← hg]; exact below_dn (Below.refl _ _) _)
  clear h hl ha hb ho hn hLN hwc hg
  cases B1 with
  | true =>
    have HCD := Lib.hid (show wc = 0 from hcd)
    clear hcd
    go_enter Try.func16, Try.ntmps16
    go_wp2_with fail
    refine C1.out.mono ?_; rintro e w1 ⟨rfl, n, rfl⟩
    go_wp2_with fail
    refine (C2.out n).mono ?_; rintro e w1 ⟨rfl, n2, rfl⟩
    have HD := Lib.hid (HDD.out (n + n2))
    clear C1 C2 HDD
    go_wp2_with fail
    go_loopw [8, 9] (fun u iv wr => ∃ k : Nat, k ≤ old.length ∧ iv = .int .i64 k ∧ Hid (OwnI g wr u ((mixL old now wc).take k)) ∧ Hid (Below g W wr)) (fun _ iv _ => old.length - (intOf iv).toNat)
    case atStart => exact ⟨0, Nat.zero_le _, rfl, Lib.hid OwnS.nil, HD⟩
    case round =>
      clear HD
      obtain ⟨k, hk, rfl, ho, hb⟩ := hrel
      by_cases hlt : k < old.length
      · have hia := HA.out.kept (by rw [HG.out]; exact hb.out)
        have hib := HB.out.kept (by rw [HG.out]; exact hb.out)
        obtain ⟨xa, rfl, -, cxa⟩ := hia.at k hlt
        obtain ⟨xb, rfl, -, cxb⟩ := hib.at k (by rw [HLN.out, ← HLL.out]; exact hlt)
        have ca1 := cxa k hlt
        have cb1 := cxb k (by rw [HLN.out, ← HLL.out]; exact hlt)
        obtain ⟨p, hp, hi, d0, d1, m0, m1, o0, o1⟩ := HSF.out k hlt
        have hnx := HNX.out k hlt
        have hml : ((mixL old now wc).take k).length = k := by rw [List.length_take, mixL_len]; omega
        obtain ⟨O, hO⟩ : ∃ O, old.getD k 0 = O := ⟨_, rfl⟩
        obtain ⟨N, hN⟩ : ∃ N, now.getD k 0 = N := ⟨_, rfl⟩
        rw [hO] at ca1 o0 o1 hnx
        rw [hN] at cb1
        rw [hO, hN] at hp hi d0 d1 m0 m1
        rw [hN] at hnx
        obtain ⟨D, hD⟩ : ∃ D, N - O = D := ⟨_, rfl⟩
        rw [hD] at hp hi d0 d1 m0 m1 hnx
        obtain ⟨Y, hY⟩ : ∃ Y, mulI D wc = Y := ⟨_, rfl⟩
        rw [hY] at hi m0 m1 hnx
        have hcv := f2i hi (by omega) (by omega)
        have hmr := mul_run hp
        rw [HCD.out] at hmr
        have hwd : IntKind.i64.wrap (N - O) = D := by rw [hD, IntKind.wrap_i64]; omega
        have hwD : IntKind.i64.wrap D = D := by rw [IntKind.wrap_i64]; omega
        have hws : IntKind.i64.wrap (O + Y) = O + Y := by rw [IntKind.wrap_i64]; omega
        have hki : (k : Int) < (old.length : Int) := by omega
        have hki2 : (k : Int) < (LN : Int) := by rw [← HLL.out]; exact hki
        have hk0 : (0 : Int) ≤ (k : Int) := by omega
        have HNK := Lib.hid hnx
        have hlol : ((mixL old now wc).take k).length ≤ 1099511627776 := by omega
        have hBx : g ≤ wr.heap.size := by have := hb.out.size; have := HG.out; omega
        clear cxa cxb hia hib hml hp hi hY hO hN hD hnx
        go_wp2_with fail
        go_region_law (refine step_int rfl (.tmp 41) (.tmp 60) rfl g 3 _ ((mixL old now wc).take k) (O + Y) rfl (OwnS.drew ho.out) wr.heap.size 1 rfl rfl hlol hBx ?_; intro v6 w6 ho6 hb6)
        all_goals
          rw [← HNK.out] at ho6
          have HO6 := Lib.hid ho6
          have HW6 := Lib.hid (hb.out.drew.trans hb6)
          clear ho6 hb6
          go_simp
          go_wp2_with fail
          go_roundw
          case rel => exact ⟨k + 1, by omega, by go_num, HO6, HW6⟩
          case measure => simp [intOf]; omega
      · obtain rfl : k = old.length := by omega
        have hki : ¬ (old.length : Int) < (old.length : Int) := by omega
        have ho' := ho.out
        rw [List.take_of_length_le (by rw [mixL_len]; exact Nat.le_refl _)] at ho'
        have HO := Lib.hid (OwnS.isL ho' (by rw [mixL_len]; omega))
        have HBE := Lib.hid hb.out
        clear ho' ho hb
        go_wp2_with fail
        go_ret2
        exact ⟨_, rfl, HO.out, by rw [HG.out]; exact HBE.out⟩
  | false =>
    cases B2 with
    | true =>
      have HCD := Lib.hid (show wc = 4607182418800017408 from hcd)
      clear hcd
      go_enter Try.func16, Try.ntmps16
      go_wp2_with fail
      refine C1.out.mono ?_; rintro e w1 ⟨rfl, n, rfl⟩
      go_wp2_with fail
      refine (C2.out n).mono ?_; rintro e w1 ⟨rfl, n2, rfl⟩
      have HD := Lib.hid (HDD.out (n + n2))
      clear C1 C2 HDD
      go_wp2_with fail
      go_loopw [8, 9] (fun u iv wr => ∃ k : Nat, k ≤ old.length ∧ iv = .int .i64 k ∧ Hid (OwnI g wr u ((mixL old now wc).take k)) ∧ Hid (Below g W wr)) (fun _ iv _ => old.length - (intOf iv).toNat)
      case atStart => exact ⟨0, Nat.zero_le _, rfl, Lib.hid OwnS.nil, HD⟩
      case round =>
        clear HD
        obtain ⟨k, hk, rfl, ho, hb⟩ := hrel
        by_cases hlt : k < old.length
        · have hia := HA.out.kept (by rw [HG.out]; exact hb.out)
          have hib := HB.out.kept (by rw [HG.out]; exact hb.out)
          obtain ⟨xa, rfl, -, cxa⟩ := hia.at k hlt
          obtain ⟨xb, rfl, -, cxb⟩ := hib.at k (by rw [HLN.out, ← HLL.out]; exact hlt)
          have ca1 := cxa k hlt
          have cb1 := cxb k (by rw [HLN.out, ← HLL.out]; exact hlt)
          obtain ⟨p, hp, hi, d0, d1, m0, m1, o0, o1⟩ := HSF.out k hlt
          have hnx := HNX.out k hlt
          have hml : ((mixL old now wc).take k).length = k := by rw [List.length_take, mixL_len]; omega
          obtain ⟨O, hO⟩ : ∃ O, old.getD k 0 = O := ⟨_, rfl⟩
          obtain ⟨N, hN⟩ : ∃ N, now.getD k 0 = N := ⟨_, rfl⟩
          rw [hO] at ca1 o0 o1 hnx
          rw [hN] at cb1
          rw [hO, hN] at hp hi d0 d1 m0 m1
          rw [hN] at hnx
          obtain ⟨D, hD⟩ : ∃ D, N - O = D := ⟨_, rfl⟩
          rw [hD] at hp hi d0 d1 m0 m1 hnx
          obtain ⟨Y, hY⟩ : ∃ Y, mulI D wc = Y := ⟨_, rfl⟩
          rw [hY] at hi m0 m1 hnx
          have hcv := f2i hi (by omega) (by omega)
          have hmr := mul_run hp
          rw [HCD.out] at hmr
          have hwd : IntKind.i64.wrap (N - O) = D := by rw [hD, IntKind.wrap_i64]; omega
          have hwD : IntKind.i64.wrap D = D := by rw [IntKind.wrap_i64]; omega
          have hws : IntKind.i64.wrap (O + Y) = O + Y := by rw [IntKind.wrap_i64]; omega
          have hki : (k : Int) < (old.length : Int) := by omega
          have hki2 : (k : Int) < (LN : Int) := by rw [← HLL.out]; exact hki
          have hk0 : (0 : Int) ≤ (k : Int) := by omega
          have HNK := Lib.hid hnx
          have hlol : ((mixL old now wc).take k).length ≤ 1099511627776 := by omega
          have hBx : g ≤ wr.heap.size := by have := hb.out.size; have := HG.out; omega
          clear cxa cxb hia hib hml hp hi hY hO hN hD hnx
          go_wp2_with fail
          go_region_law (refine step_int rfl (.tmp 41) (.tmp 60) rfl g 3 _ ((mixL old now wc).take k) (O + Y) rfl (OwnS.drew ho.out) wr.heap.size 1 rfl rfl hlol hBx ?_; intro v6 w6 ho6 hb6)
          all_goals
            rw [← HNK.out] at ho6
            have HO6 := Lib.hid ho6
            have HW6 := Lib.hid (hb.out.drew.trans hb6)
            clear ho6 hb6
            go_simp
            go_wp2_with fail
            go_roundw
            case rel => exact ⟨k + 1, by omega, by go_num, HO6, HW6⟩
            case measure => simp [intOf]; omega
        · obtain rfl : k = old.length := by omega
          have hki : ¬ (old.length : Int) < (old.length : Int) := by omega
          have ho' := ho.out
          rw [List.take_of_length_le (by rw [mixL_len]; exact Nat.le_refl _)] at ho'
          have HO := Lib.hid (OwnS.isL ho' (by rw [mixL_len]; omega))
          have HBE := Lib.hid hb.out
          clear ho' ho hb
          go_wp2_with fail
          go_ret2
          exact ⟨_, rfl, HO.out, by rw [HG.out]; exact HBE.out⟩
    | false =>
      have HCD := Lib.hid (show wc = w from hcd)
      clear hcd
      go_enter Try.func16, Try.ntmps16
      go_wp2_with fail
      refine C1.out.mono ?_; rintro e w1 ⟨rfl, n, rfl⟩
      go_wp2_with fail
      refine (C2.out n).mono ?_; rintro e w1 ⟨rfl, n2, rfl⟩
      have HD := Lib.hid (HDD.out (n + n2))
      clear C1 C2 HDD
      go_wp2_with fail
      go_loopw [8, 9] (fun u iv wr => ∃ k : Nat, k ≤ old.length ∧ iv = .int .i64 k ∧ Hid (OwnI g wr u ((mixL old now wc).take k)) ∧ Hid (Below g W wr)) (fun _ iv _ => old.length - (intOf iv).toNat)
      case atStart => exact ⟨0, Nat.zero_le _, rfl, Lib.hid OwnS.nil, HD⟩
      case round =>
        clear HD
        obtain ⟨k, hk, rfl, ho, hb⟩ := hrel
        by_cases hlt : k < old.length
        · have hia := HA.out.kept (by rw [HG.out]; exact hb.out)
          have hib := HB.out.kept (by rw [HG.out]; exact hb.out)
          obtain ⟨xa, rfl, -, cxa⟩ := hia.at k hlt
          obtain ⟨xb, rfl, -, cxb⟩ := hib.at k (by rw [HLN.out, ← HLL.out]; exact hlt)
          have ca1 := cxa k hlt
          have cb1 := cxb k (by rw [HLN.out, ← HLL.out]; exact hlt)
          obtain ⟨p, hp, hi, d0, d1, m0, m1, o0, o1⟩ := HSF.out k hlt
          have hnx := HNX.out k hlt
          have hml : ((mixL old now wc).take k).length = k := by rw [List.length_take, mixL_len]; omega
          obtain ⟨O, hO⟩ : ∃ O, old.getD k 0 = O := ⟨_, rfl⟩
          obtain ⟨N, hN⟩ : ∃ N, now.getD k 0 = N := ⟨_, rfl⟩
          rw [hO] at ca1 o0 o1 hnx
          rw [hN] at cb1
          rw [hO, hN] at hp hi d0 d1 m0 m1
          rw [hN] at hnx
          obtain ⟨D, hD⟩ : ∃ D, N - O = D := ⟨_, rfl⟩
          rw [hD] at hp hi d0 d1 m0 m1 hnx
          obtain ⟨Y, hY⟩ : ∃ Y, mulI D wc = Y := ⟨_, rfl⟩
          rw [hY] at hi m0 m1 hnx
          have hcv := f2i hi (by omega) (by omega)
          have hmr := mul_run hp
          rw [HCD.out] at hmr
          have hwd : IntKind.i64.wrap (N - O) = D := by rw [hD, IntKind.wrap_i64]; omega
          have hwD : IntKind.i64.wrap D = D := by rw [IntKind.wrap_i64]; omega
          have hws : IntKind.i64.wrap (O + Y) = O + Y := by rw [IntKind.wrap_i64]; omega
          have hki : (k : Int) < (old.length : Int) := by omega
          have hki2 : (k : Int) < (LN : Int) := by rw [← HLL.out]; exact hki
          have hk0 : (0 : Int) ≤ (k : Int) := by omega
          have HNK := Lib.hid hnx
          have hlol : ((mixL old now wc).take k).length ≤ 1099511627776 := by omega
          have hBx : g ≤ wr.heap.size := by have := hb.out.size; have := HG.out; omega
          clear cxa cxb hia hib hml hp hi hY hO hN hD hnx
          go_wp2_with fail
          go_region_law (refine step_int rfl (.tmp 41) (.tmp 60) rfl g 3 _ ((mixL old now wc).take k) (O + Y) rfl (OwnS.drew ho.out) wr.heap.size 1 rfl rfl hlol hBx ?_; intro v6 w6 ho6 hb6)
          all_goals
            rw [← HNK.out] at ho6
            have HO6 := Lib.hid ho6
            have HW6 := Lib.hid (hb.out.drew.trans hb6)
            clear ho6 hb6
            go_simp
            go_wp2_with fail
            go_roundw
            case rel => exact ⟨k + 1, by omega, by go_num, HO6, HW6⟩
            case measure => simp [intOf]; omega
        · obtain rfl : k = old.length := by omega
          have hki : ¬ (old.length : Int) < (old.length : Int) := by omega
          have ho' := ho.out
          rw [List.take_of_length_le (by rw [mixL_len]; exact Nat.le_refl _)] at ho'
          have HO := Lib.hid (OwnS.isL ho' (by rw [mixL_len]; omega))
          have HBE := Lib.hid hb.out
          clear ho' ho hb
          go_wp2_with fail
          go_ret2
          exact ⟨_, rfl, HO.out, by rw [HG.out]; exact HBE.out⟩
end Go.Proofs.Ytflggmbgfdglcaa
