/- Layer 43: Build. -/
import Derived.Test.YtdonecbcnkipbaaAQ11
namespace Go.Proofs.Ytdonecbcnkipbaa
open Go.ChangeShapes Go.WideShapes Go.ChangeAt Go.RowKit Go.Maps Go.Lib Go.ChangeMaps
set_option linter.unusedVariables false
set_option linter.unusedSimpArgs false
set_option maxRecDepth 100000
open RollMath Gm
theorem cBuildNo (v : Value) (SZ k : Int) (w : World) (hk : k < 2 ∨ 16 < k ∨ SZ < 0 ∨ 67108864 < SZ) : Calls Try.prog 7 #[v, .int .i64 SZ, .int .i64 k] w fun e w' => e = .returned (.tuple #[.string ⟨#[]⟩, .int .i64 1]) ∧ Below w.heap.size w w' := by
  by_cases h1 : k < 2
  · clear hk
    go_enter Try.func7, Try.ntmps7
    go_wp2_with fail
    go_ret2
    exact ⟨rfl, by go_grown⟩
  by_cases h2 : 16 < k
  · clear hk
    go_enter Try.func7, Try.ntmps7
    go_wp2_with fail
    go_ret2
    exact ⟨rfl, by go_grown⟩
  by_cases h3 : SZ < 0
  · clear hk
    go_enter Try.func7, Try.ntmps7
    go_wp2_with fail
    go_ret2
    exact ⟨rfl, by go_grown⟩
  have h4 : 67108864 < SZ := by omega
  clear hk
  go_enter Try.func7, Try.ntmps7
  go_wp2_with fail
  go_ret2
  exact ⟨rfl, by go_grown⟩
/-- How Build stands: out is what it has, P its parts, q the rows that stand in it. -/
structure Stands (K : Nat) (out : Tx) (P q : List Tx) : Prop where
  flat : P.reverse.flatten = out
  len : out.length = P.length * K
  mem : ∀ t, t ∈ q ↔ t ∈ wins out K
  few : q.length ≤ 40 * P.length
theorem Stands.start (K : Nat) (h1 : 1 ≤ K) : Stands K [] [] [] :=
  ⟨rfl, by simp, fun t => by
    have : wins [] K = [] := List.length_eq_zero_iff.1 (by rw [wins_length]; simp; omega)
    rw [this], by simp⟩
theorem Stands.step {K : Nat} {out t : Tx} {P q : List Tx} (h : Stands K out P q) (ht : t.length = K) (h1 : 1 ≤ K) (h16 : K ≤ 16) : Stands K (t ++ out) (P ++ [t]) (q ++ wins (t ++ out.take (K - 1)) K) := by
  refine ⟨?_, ?_, fun x => ?_, ?_⟩
  · rw [List.reverse_append, List.flatten_append, h.flat]; simp
  · rw [List.length_append, List.length_append, h.len, ht, List.length_singleton, Nat.add_mul]; omega
  · rw [List.mem_append, h.mem, wins_more (out := out) ht h1]; exact Or.comm
  · rw [List.length_append, List.length_append, wins_length, List.length_append, List.length_take, List.length_singleton]
    have := h.few
    omega
theorem own_gr_kp {B0 b : Nat} {w : World} {v : Value} {L : List Gr} (h : OwnG B0 w v L) (hb : b < B0) : ∃ va vc, v = .slice va L.length vc ∧ ∀ wr, Kp w.heap.size b w wr → IsGr wr va L := by
  by_cases h0 : 0 < L.length
  · obtain ⟨g, cap, rfl, hg1, hg2⟩ := h.form h0 (by decide)
    obtain ⟨va, vc, e, -, hgr⟩ := OwnG.gr h
    simp only [Value.slice.injEq] at e
    obtain ⟨rfl, -, rfl⟩ := e
    exact ⟨_, _, rfl, fun wr hk => hk.gr hgr hg2 (by omega)⟩
  · have e : L = [] := List.eq_nil_of_length_eq_zero (by omega)
    subst e
    obtain ⟨a, cap, rfl⟩ := h.slice
    exact ⟨a, cap, rfl, fun _ _ => .inl rfl⟩
set_option maxHeartbeats 12800000 in
theorem cBuildG (a : Option Addr) (c : Nat) (ls : List Tx) (K : Nat) (SZ : Int) (w : World) (h : IsTs w a ls) (hF : Few ls) (h1 : 2 ≤ K) (h16 : K ≤ 16) (h0 : 0 ≤ SZ) (hS : SZ ≤ 67108864) :
    Calls Try.prog 7 #[.slice a ls.length c, .int .i64 SZ, .int .i64 K] w fun e w' => e = .returned (.tuple #[.string (sT (bldL K SZ (cntL ls K))), .int .i64 0]) ∧ Below w.heap.size w w' := by
  have HI := Lib.hid h
  have CC := Lib.hid (fun W (h : IsTs W a ls) => cCountG a c ls K W h hF (by omega) h16)
  have HCF := Lib.hid (cnt_few hF K)
  have HCL := Lib.hid (fun (g : Gr) (h : g ∈ cntL ls K) => cnt_len h)
  have HCS := Lib.hid (cnt_is ls K).1
  have hk1 : ¬ (K : Int) < 2 := by omega
  have hk2 : ¬ (16 : Int) < (K : Int) := by omega
  have hk3 : ¬ SZ < 0 := by omega
  have hk4 : ¬ (67108864 : Int) < SZ := by omega
  obtain ⟨L, hL⟩ : ∃ L, cntL ls K = L := ⟨_, rfl⟩
  rw [hL] at CC HCF HCL HCS ⊢
  have hl := HCF.out.1
  have hmm := @run_makeMap Try.prog
  clear h hF hL
  go_enter Try.func7, Try.ntmps7
  obtain ⟨b, hb⟩ : ∃ b, w.heap.size = b := ⟨_, rfl⟩
  obtain ⟨w1, hw1⟩ : ∃ w1, w.alloc (.map #[] 0) = w1 := ⟨_, rfl⟩
  have HM1 := Lib.hid (show IsMS w1 b 0 [] from by
    rw [← hw1, ← hb]; exact IsMS.made w)
  have HB1 := Lib.hid (show Below b w w1 by rw [← hw1, ← hb]; exact (Below.refl _ _).alloc (Nat.le_refl _) _)
  have HI1 := Lib.hid (HI.out.kept (by rw [hb]; exact HB1.out))
  have hsz1 : w1.heap.size = b + 1 := by rw [← hw1, ← hb]; simp
  have HBB := Lib.hid hb
  have HSZ1 := Lib.hid hsz1
  clear hsz1
  go_wp2_with fail
  clear hw1 HI hk1 hk2 hk3 hk4 hmm hb
  refine (CC.out w1 HI1.out).mono ?_; rintro e w2 ⟨v2, rfl, ho2, hb2⟩
  have HM2 := Lib.hid (HM1.out.kept (below_grown hb2 none) (by simp))
  obtain ⟨va, vc, rfl, hgk⟩ := own_gr_kp (b := b) ho2 (by have := HSZ1.out; omega)
  obtain ⟨B, hB⟩ : ∃ B, w2.heap.size = B := ⟨_, rfl⟩
  rw [hB] at hgk
  have HGK := Lib.hid hgk
  have HBb := Lib.hid (show b < B by have := hb2.size; have := HSZ1.out; omega)
  have HW2 := Lib.hid (show Below b w w2 from HB1.out.trans (hb2.mono (by have := HSZ1.out; omega)))
  have HB := Lib.hid hB
  clear ho2 hb2 hgk hB HM1 HB1 HI1 CC
  go_wp2_with fail
  go_loopw [8, 9, 34] (fun pv bv iv wr => ∃ (n : Nat) (P q : List Tx), n ≤ L.length ∧ iv = .int .i64 n ∧ bv = .string (sT ((bldAt K SZ L n).take (K - 1))) ∧ Hid (Stands K (bldAt K SZ L n) P q) ∧ P.length ≤ n ∧ Hid (OwnTs B wr pv P) ∧ Hid (IsMS wr b q.length q) ∧ Hid (Kp B b w2 wr)) (fun _ _ iv _ => L.length - (intOf iv).toNat)
  case atStart =>
    refine ⟨0, [], [], Nat.zero_le _, rfl, ?_, Lib.hid (Stands.start K (by omega)), Nat.le_refl _, Lib.hid OwnS.nil, HM2, Lib.hid (Kp.refl _ _ _)⟩
    have : bldAt K SZ L 0 = [] := by unfold bldAt; rw [List.take_zero]; rfl
    rw [this, List.take_nil]; rfl
  case round =>
    clear HM2
    obtain ⟨n, P, q, hn, rfl, rfl, hst, hpn, ho, hm, hk⟩ := hrel
    obtain ⟨pa, pc, rfl⟩ := ho.out.slice
    have hHE : Hid (Below b w wr ∧ B ≤ wr.heap.size) := Lib.hid ⟨HW2.out.trans (hk.out.below (Nat.le_refl _) (by have := HBb.out; omega)), by have := hk.out.size; have := HB.out; omega⟩
    by_cases hlt : n < L.length
    · have hni : (n : Int) < (L.length : Int) := by omega
      have hn0 : (0 : Int) ≤ (n : Int) := by omega
      obtain ⟨x, rfl, hxl, c0, c1⟩ := (HGK.out wr hk.out).at n hlt
      have hnx := bldAt_next (K := K) (SZ := SZ) hlt
      have hbrk := bld_break (K := K) (SZ := SZ) HCS.out hlt
      have hg2 := HCF.out.2 n hlt
      have hgl := HCL.out (L.getD n ([], 0)) (by rw [List.getD_eq_getElem?_getD, List.getElem?_eq_getElem hlt]; exact List.getElem_mem hlt)
      obtain ⟨G, hG⟩ : ∃ G, L.getD n ([], 0) = G := ⟨_, rfl⟩
      obtain ⟨O, hO⟩ : ∃ O, bldAt K SZ L n = O := ⟨_, rfl⟩
      rw [hG] at c0 c1 hnx hg2 hgl hbrk
      rw [hO] at hnx hst hbrk ⊢
      obtain ⟨t, m⟩ := G
      simp only at c0 c1 hg2 hgl hbrk
      have hstl := hst.out.len
      have hPK : P.length * K ≤ 1000 * 16 := Nat.mul_le_mul (by omega) h16
      have hmul : ((P.length : Int) + 1) * (K : Int) = ((O.length + K : Nat) : Int) := by rw [hstl, Int.add_mul]; simp
      obtain ⟨M, hM⟩ : ∃ M, O.length + K = M := ⟨_, rfl⟩
      rw [hM] at hmul hbrk
      have hMb : M ≤ 16016 := by omega
      have hp1 : (P.length : Int) ≤ 1000 := by omega
      have HX := Lib.hid hnx
      have HBRK := Lib.hid hbrk
      have HGL := Lib.hid hgl
      have HM := Lib.hid hM
      clear hG hO hnx hbrk hgl hstl hPK hM
      by_cases hm2 : m < 2
      · have hmi : (m : Int) < 2 := by omega
        have HE := Lib.hid (HBRK.out (.inl hm2))
        clear hm2
        have hsz := Lib.hid hHE.out.1.size
        have HBX := Lib.hid (show Below b w (wr.alloc (.cells #[.string (sT t), .int .i64 (m : Int)] 35)) ∧ B ≤ (wr.alloc (.cells #[.string (sT t), .int .i64 (m : Int)] 35)).heap.size from ⟨hHE.out.1.alloc (by have := hHE.out.2; have := HBb.out; omega) _, by have := hHE.out.2; simp; omega⟩)
        have HOX := Lib.hid (ho.out.alloc (.cells #[.string (sT t), .int .i64 (m : Int)] 35))
        go_wp2_with fail
        refine (cRevS B _ P _ HOX.out HBX.out.2 (by omega)).mono ?_; rintro e w7 ⟨rfl, hr7, hb7⟩
        have HR7 := Lib.hid hr7
        have HB7 := Lib.hid (HBX.out.1.trans (hb7.mono (by have := HBb.out; omega)))
        have HFL := Lib.hid (show P.reverse.flatten.length ≤ 1000000 from by rw [hst.out.flat, hst.out.len]; have : P.length * K ≤ 1000 * 16 := Nat.mul_le_mul (by omega) h16; omega)
        clear hr7 hb7
        go_wp2_with fail
        refine (cJoinS _ _ _ HR7.out (by rw [List.length_reverse]; omega) HFL.out).mono ?_; rintro e w8 ⟨rfl, hb8⟩
        have HB8 := Lib.hid (show Below w.heap.size w w8 by rw [HBB.out]; exact HB7.out.trans (hb8.mono (by have := HB7.out.size; have := HBB.out; omega)))
        have HFT := hst.out.flat
        rw [HFT]
        clear hb8 HFT
        go_wp2_with fail
        go_ret2
        exact ⟨by rw [HE.out]; rfl, HB8.out⟩
      · have hmi : ¬ (m : Int) < 2 := by omega
        by_cases hms : SZ < (M : Int)
        · have HE := Lib.hid (HBRK.out (.inr hms))
          clear hm2
          have HBX := Lib.hid (show Below b w (wr.alloc (.cells #[.string (sT t), .int .i64 (m : Int)] 35)) ∧ B ≤ (wr.alloc (.cells #[.string (sT t), .int .i64 (m : Int)] 35)).heap.size from ⟨hHE.out.1.alloc (by have := hHE.out.2; have := HBb.out; omega) _, by have := hHE.out.2; simp; omega⟩)
          have HOX := Lib.hid (ho.out.alloc (.cells #[.string (sT t), .int .i64 (m : Int)] 35))
          go_wp2_with fail
          refine (cRevS B _ P _ HOX.out HBX.out.2 (by omega)).mono ?_; rintro e w7 ⟨rfl, hr7, hb7⟩
          have HR7 := Lib.hid hr7
          have HB7 := Lib.hid (HBX.out.1.trans (hb7.mono (by have := HBb.out; omega)))
          have HFL := Lib.hid (show P.reverse.flatten.length ≤ 1000000 from by rw [hst.out.flat, hst.out.len]; have : P.length * K ≤ 1000 * 16 := Nat.mul_le_mul (by omega) h16; omega)
          clear hr7 hb7
          go_wp2_with fail
          refine (cJoinS _ _ _ HR7.out (by rw [List.length_reverse]; omega) HFL.out).mono ?_; rintro e w8 ⟨rfl, hb8⟩
          have HB8 := Lib.hid (show Below w.heap.size w w8 by rw [HBB.out]; exact HB7.out.trans (hb8.mono (by have := HB7.out.size; have := HBB.out; omega)))
          have HFT := hst.out.flat
          rw [HFT]
          clear hb8 HFT
          go_wp2_with fail
          go_ret2
          exact ⟨by rw [HE.out]; rfl, HB8.out⟩
        · clear HBRK
          obtain ⟨bx, hbx⟩ : ∃ bx, wr.heap.size = bx := ⟨_, rfl⟩
          obtain ⟨X, hX⟩ : ∃ X, wr.alloc (.cells #[.string (sT t), .int .i64 (m : Int)] 35) = X := ⟨_, rfl⟩
          have hx0 : X.heap[bx]? = some (.cells #[.string (sT t), .int .i64 (m : Int)] 35 (0, 0)) := by rw [← hX, ← hbx]; exact heap_alloc_new wr _
          have HXB := Lib.hid hx0
          have m1 := cell_lit hx0 0 _ rfl
          have m2 := cell_lit hx0 1 _ rfl
          have hXs : Hid (X.heap.size = bx + 1) := Lib.hid (by rw [← hX, ← hbx]; simp)
          have HOX := Lib.hid (show OwnTs B X (.slice pa P.length pc) P by rw [← hX]; exact ho.out.alloc _)
          have HMX := Lib.hid (show IsMS X b q.length q by rw [← hX]; exact hm.out.kept (World.grownBy_alloc wr _ none) (by simp))
          have hBw : B ≤ bx := by rw [← hbx]; exact hHE.out.2
          have HNE := Lib.hid (show (Value.slice pa P.length pc).ownBlock ≠ some bx ∧ some b ≠ (Value.slice pa P.length pc).ownBlock from by
            have hbb := HBb.out
            cases hv : (Value.slice pa P.length pc).ownBlock with
            | none => exact ⟨by simp, by simp⟩
            | some k => have := ho.out.lt k hv; exact ⟨fun e => by injection e with e; omega, fun e => by injection e with e; omega⟩)
          have HKX := Lib.hid (show Kp B b w2 X by rw [← hX]; exact hk.out.trans (Kp.of_below (B' := wr.heap.size) ((Below.refl _ wr).alloc (Nat.le_refl _) _) (by omega)))
          obtain ⟨D, hown, hD, hKD⟩ := HMX.out
          have hkey := keyS t (by have := HGL.out; omega)
          have hat2 := (hD t).2
          obtain ⟨CN, hCN⟩ : ∃ CN, q.count t = CN := ⟨_, rfl⟩
          rw [hCN] at hat2
          have hmem := hst.out.mem t
          have HCN := Lib.hid hCN
          have hqf := hst.out.few
          have hcl := List.count_le_length (a := t) (l := q)
          rw [hCN] at hcl
          have hCNb : CN ≤ 40000 := by omega
          clear hD hKD hx0 ho hm hk hcl
          by_cases hin : t ∈ q
          · have hc0 : (0 : Int) < (CN : Int) := by
              have := List.count_pos_iff.2 hin
              omega
            have HN := Lib.hid (show bldAt K SZ L (n + 1) = O from by
              rw [HX.out]
              unfold bldS
              rw [if_neg]
              rintro ⟨-, hf, -⟩
              rw [find_mem, HGL.out] at hf
              exact hf (hmem.1 hin))
            clear hin hmem hCN hqf
            go_wp2_with (first
              | (at_lookup; refine wpList_lookup_own_int _ rfl _ _ 39 rfl 9 3 .i64 lawS Try.underlying39 Try.underlying3 (zeroM _) b q.length D rfl hown _ _ rfl hkey ?_; intro had hat hwc; rw [hat2] at hat; obtain rfl := lit_inj hat)
              | fail)
            go_roundw
            case rel => exact ⟨n + 1, P, q, by omega, by go_num, by rw [HN.out], by rw [HN.out]; exact hst, by omega, HOX, HMX, HKX⟩
            case measure => simp [intOf]; omega
          · have hc0 : CN = 0 := by rw [← hCN]; exact List.count_eq_zero.2 hin
            subst hc0
            have HN := Lib.hid (show bldAt K SZ L (n + 1) = t ++ O from by
              rw [HX.out]
              unfold bldS
              rw [if_pos]
              refine ⟨by show 2 ≤ m; omega, ?_, ?_⟩
              · rw [find_mem, HGL.out]; exact fun h => hin (hmem.2 h)
              · rw [HM.out]; omega)
            obtain ⟨Bg, hBg⟩ : ∃ Bg, O.take (K - 1) = Bg := ⟨_, rfl⟩
            obtain ⟨F, hF⟩ : ∃ F, t ++ Bg = F := ⟨_, rfl⟩
            have hBl : Bg.length ≤ 15 := by rw [← hBg, List.length_take]; omega
            have hFl : F.length = t.length + Bg.length := by rw [← hF, List.length_append]
            have hFK : F.length ≤ 31 ∧ K ≤ F.length := by have := HGL.out; omega
            have hFt : F.take (K - 1) = (t ++ O).take (K - 1) := by
              have := HGL.out
              rw [← hF, List.take_append_of_le_length (by omega), List.take_append_of_le_length (by omega)]
            have HST2 := Lib.hid (show Stands K (t ++ O) (P ++ [t]) (q ++ wins F K) from by
              have := hst.out.step HGL.out (by omega) h16
              rw [hBg, hF] at this; exact this)
            have hszt := sT_size t
            have hszb := sT_size Bg
            have hszF := sT_size F
            have hap := sT_app t Bg
            rw [hF] at hap
            have htl := HGL.out
            have hmx : ¬ (9223372036854775807 : Int) < (t.length : Int) + (Bg.length : Int) := by omega
            have hmx2 : (t.length : Int) + (Bg.length : Int) ≤ 9223372036854775807 := by omega
            have HFT := Lib.hid hFt
            have HPb := Lib.hid (show P.length ≤ 1000000 by omega)
            have hcz : ¬ (0 : Int) < ((0 : Nat) : Int) := by omega
            rw [hBg]
            clear hin hmem hCN hBg hF hFt htl
            have HBX := Lib.hid (show B ≤ X.heap.size by have := hXs.out; omega)
            go_wp2_with (first
              | (at_lookup; refine wpList_lookup_own_int _ rfl _ _ 39 rfl 9 3 .i64 lawS Try.underlying39 Try.underlying3 (zeroM _) b q.length D rfl hown _ _ rfl hkey ?_; intro had hat hwc; rw [hat2] at hat; obtain rfl := lit_inj hat)
              | (at_builtin; refine app_tx rfl (.tmp 55) (.tmp 58) rfl B _ (.slice pa P.length pc) P t rfl HOX.out X.heap.size 1 rfl rfl HPb.out HBX.out ?_; intro v5 w5 ho5 hb5 hg5; have HB5 := Lib.hid hb5; have HG5 := Lib.hid hg5; have HO5 := Lib.hid ho5; have hy0 := Lib.hid (grown_heap hg5 HXB.out HNE.out.1); have n1 := cell_lit hy0.out 0 _ rfl; have n2 := cell_lit hy0.out 1 _ rfl; clear hb5 hg5 ho5)
              | fail)
            have HM5 := Lib.hid (HMX.out.kept HG5.out HNE.out.2)
            have HK5 := Lib.hid (HKX.out.trans (Kp.of_below HB5.out (Nat.le_refl _)))
            have HQF := Lib.hid (show q.length ≤ 40000 by omega)
            clear hown hkey hat2 hat hwc m1 m2 n1 n2 hX hbx hmi hms hap hmx hmx2 hszt hszb hcz hFl
            go_loopw [14] (fun i wr => ∃ j : Nat, j ≤ 32 ∧ i = .int .i64 j ∧ Hid (IsMS wr b (q ++ (wins F K).take j).length (q ++ (wins F K).take j)) ∧ Hid (MT w5 wr b)) (fun i _ => 100 - (intOf i).toNat)
            case atStart => exact ⟨0, by omega, rfl, by rw [List.take_zero, List.append_nil]; exact HM5, Lib.hid (MT.refl _ _)⟩
            case round =>
              clear HM5
              obtain ⟨j, hj, rfl, hm, ht⟩ := hrel
              by_cases hjq : j + K ≤ F.length
              · have hqd : decide ((j : Int) + (K : Int) ≤ (F.length : Int)) = true := decide_eq_true (by omega)
                have hqi : (j : Int) + (K : Int) ≤ (F.length : Int) := by omega
                have HJ := Lib.hid (show j + 1 ≤ 32 by omega)
                have hnx := wins_take F K j (by omega)
                have hsl := fun W => sl_win F j K hjq (by omega) W
                obtain ⟨T, hT⟩ : ∃ T, (F.drop j).take K = T := ⟨_, rfl⟩
                rw [hT] at hnx hsl
                have hTl : T.length ≤ 16 := by rw [← hT, List.length_take]; omega
                have hLb : (q ++ (wins F K).take j).length ≤ 40040 := by
                  rw [List.length_append, List.length_take]; have := HQF.out; omega
                have HNX := Lib.hid (show q ++ (wins F K).take (j + 1) = (q ++ (wins F K).take j) ++ [T] by rw [hnx, List.append_assoc])
                obtain ⟨Y, hY⟩ : ∃ Y, q ++ (wins F K).take j = Y := ⟨_, rfl⟩
                rw [hY] at hLb hm HNX
                obtain ⟨D2, ho2, hD2, hKD2⟩ := hm.out
                have hkey2 := keyS T (by omega)
                have hat3 := (hD2 T).2
                have hcl := List.count_le_length (a := T) (l := Y)
                have HIM := Lib.hid ho2.isMap
                have HD := Lib.hid hD2
                have HKD := Lib.hid hKD2
                have HPUT := Lib.hid (fun w' h' => IsMS.put (w' := w') (b := b) (c := Y.length) (t := T) HIM.out HD.out HKD.out h')
                obtain ⟨CT, hCT⟩ : ∃ CT, Y.count T = CT := ⟨_, rfl⟩
                rw [hCT] at HPUT hat3 hcl
                have hCT7 : CT ≤ 50000 := by omega
                have hv : plainElem (H := Unit) Try.prog 3 (.int .i64 ((CT : Int) + 1)) = some (.lit (.int .i64 ((CT : Int) + 1)), []) := plainElem_int Try.underlying3 (wfM (CT + 1) (by omega))
                have HLM := Lib.hid (show Y.length < maxLen by unfold maxLen; omega)
                clear hnx hT hY hD2 hKD2 hjq hCT hcl HIM HD HKD hm hLb
                go_wp2_with (first
                  | (at_lookup; refine wpList_lookup_own_int _ rfl _ _ 39 rfl 9 3 .i64 lawS Try.underlying39 Try.underlying3 (zeroM _) b Y.length D2 rfl ho2 _ _ rfl hkey2 ?_; intro had hat hwc; rw [hat3] at hat; obtain rfl := lit_inj hat)
                  | (at_mapUpdate; refine wpList_mapUpdate_in _ rfl _ _ _ 39 rfl 9 3 lawS Try.underlying39 _ b Y.length D2 rfl ho2 HLM.out _ _ _ rfl rfl hkey2 _ [] hv ?_; intro w6 hown6 hturn6)
                  | fail)
                have HM6 := Lib.hid (show IsMS w6 b (q ++ (wins F K).take (j + 1)).length (q ++ (wins F K).take (j + 1)) from by rw [HNX.out, List.length_append]; exact HPUT.out _ hown6)
                have HT6 := Lib.hid (ht.out.trans (MT.of hturn6))
                clear hown6 hturn6 ho2 hat hat3
                go_roundw
                case rel => exact ⟨j + 1, HJ.out, by go_num, HM6, HT6⟩
                case measure => simp [intOf]; omega
              · have hqi : ¬ (j : Int) + (K : Int) ≤ (F.length : Int) := by omega
                have hqd : decide ((j : Int) + (K : Int) ≤ (F.length : Int)) = false := decide_eq_false hqi
                have hm' := hm.out
                rw [List.take_of_length_le (show (wins F K).length ≤ j by rw [wins_length]; omega)] at hm'
                have HM6 := Lib.hid hm'
                have HO6 := Lib.hid (ht.out.own HO5.out HBb.out)
                have HK6 := Lib.hid (HK5.out.trans (Kp.of_mt ht.out))
                have hcut : ∀ W : World, (Instr.slice 9 (.string (sT F)) none (some (.int .i64 ((K : Int) - 1))) none).run Try.prog W = .ok (.string (sT (F.take (K - 1)))) W := by
                  intro W
                  have := run_slice_string_h (P := Try.prog) (w := W) (t := 9) (s := sT F) Try.underlying9 .i64 ((K : Int) - 1) (by omega) (by rw [sT_size]; omega)
                  rw [show ((K : Int) - 1).toNat = K - 1 by omega, sT_cut, List.drop_zero] at this
                  exact this
                have hmin : ¬ (F.length : Int) < (K : Int) - 1 := by omega
                have hmin2 : (K : Int) - 1 ≤ (F.length : Int) := by omega
                have HEX := Lib.hid (show (sT F).extract 0 (min (F.length : Int) ((K : Int) - 1)).toNat = sT ((bldAt K SZ L (n + 1)).take (K - 1)) from by
                  rw [HN.out, ← HFT.out, sT_cut, List.drop_zero]
                  congr 2
                  omega)
                have HST3 := Lib.hid (show Stands K (bldAt K SZ L (n + 1)) (P ++ [t]) (q ++ wins F K) by rw [HN.out]; exact HST2.out)
                clear hm hm' ht hcut
                go_wp2_with fail
                go_roundw
                case rel => exact ⟨n + 1, P ++ [t], q ++ wins F K, by omega, by go_num, by rw [HEX.out], HST3, by rw [List.length_append, List.length_singleton]; omega, HO6, HM6, HK6⟩
                case measure => simp [intOf]; omega
    · obtain rfl : n = L.length := by omega
      have hni : ¬ (L.length : Int) < (L.length : Int) := by omega
      have HE := Lib.hid (show bldL K SZ L = bldAt K SZ L L.length by unfold bldAt; rw [List.take_length])
      go_wp2_with fail
      refine (cRevS B _ P _ ho.out hHE.out.2 (by omega)).mono ?_; rintro e w7 ⟨rfl, hr7, hb7⟩
      have HR7 := Lib.hid hr7
      have HB7 := Lib.hid (hHE.out.1.trans (hb7.mono (by have := HBb.out; omega)))
      have HFL := Lib.hid (show P.reverse.flatten.length ≤ 1000000 from by rw [hst.out.flat, hst.out.len]; have : P.length * K ≤ 1000 * 16 := Nat.mul_le_mul (by omega) h16; omega)
      clear hr7 hb7
      go_wp2_with fail
      refine (cJoinS _ _ _ HR7.out (by rw [List.length_reverse]; omega) HFL.out).mono ?_; rintro e w8 ⟨rfl, hb8⟩
      have HB8 := Lib.hid (show Below w.heap.size w w8 by rw [HBB.out]; exact HB7.out.trans (hb8.mono (by have := HB7.out.size; have := HBB.out; omega)))
      have HFT := hst.out.flat
      rw [HFT]
      clear hb8 HFT
      go_wp2_with fail
      go_ret2
      exact ⟨by rw [HE.out]; rfl, HB8.out⟩
end Go.Proofs.Ytdonecbcnkipbaa
