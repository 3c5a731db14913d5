/- Layer 8: the order of symbols. -/
import Derived.Test.YtekageibffhloaaCe
namespace Go.Proofs.Ytekageibffhloaa
open Go.ChangeShapes Go.WideShapes Go.ChangeAt Go.RowKit
set_option linter.unusedVariables false
set_option maxRecDepth 100000
open KraftMath CanonMath

set_option maxHeartbeats 3200000 in
theorem cOrder (a : Option Addr) (c : Nat) (l : List Int) (w : World) (h : IsInts w a l) :
    Calls Try.prog 19 #[.slice a l.length c] w (Tells id (orderL l) w) := by
  have C := kCheck_any a c 16 l w h
  by_cases hE : check l 16 = 0
  · have hok := (check_ok l 16).1 hE
    have hO := orderL_eq l hE
    have hll := hok.2.2.1
    have hg := fun k (hk : k < l.length) => hok.2.2.2.1 (l.getD k 0) (by simp [List.getD_eq_getElem?_getD, hk])
    have C2 := fun n => cCounts a c l (w.drewN n) h hok.2.2.2.1
    have CU := fun W (h : IsInts W a l) => kUsed a c l W h
    have hul : (ord l).length = used l := ord_length l hok.2.2.2.1
    have hul2 := used_le l
    rw [← hul] at CU hul2
    rw [hE] at C
    rw [hO]
    obtain ⟨hz, hi⟩ := arr_zero
    have HSZ : Hid ((Try.prog.info? 81).map (·.size) = some (arrI (cntA l)).size) := by show _ = _; rw [hi, arrI_size, cntA_len]
    have HZS : Hid ((arrI (List.replicate 17 0)).size = (arrI (cntA l)).size) := by show _ = _; rw [arrI_size, arrI_size, cntA_len, List.length_replicate]
    have HONE := Lib.hid (arrI_one (cntA l))
    have HAN := Lib.hid (fun X => ArrAt.new X (cntA l))
    have HBN : Hid (∀ X : World, ArrAt (X.alloc (.cells (arrI (List.replicate 17 0)) 81)) X.heap.size (begA l 1)) := by intro X; rw [← begA_start]; exact ArrAt.new X _
    obtain ⟨Z, hZ⟩ : ∃ Z, arrI (List.replicate 17 (0 : Int)) = Z := ⟨_, rfl⟩
    rw [hZ] at hz HZS HBN
    have C_ := Lib.hid C
    have C2_ := Lib.hid C2
    have CU_ := Lib.hid CU
    have h_ := Lib.hid h
    have hg_ := Lib.hid hg
    clear C C2 CU h hg
    clear hZ hi hok hE hO hul
    go_enter Try.func19, Try.ntmps19
    go_wp2_with fail
    refine C_.out.mono ?_; rintro e w0 ⟨rfl, n0, rfl⟩
    go_wp2_with fail
    refine (C2_.out n0).mono ?_; rintro e w2 ⟨rfl, hb2⟩
    have hb2 : Below w.heap.size w w2 := (below_dn (Below.refl _ w) n0).trans hb2
    have hnew : Hid ((w2.alloc (.cells Z 81)).heap[w2.heap.size]? = some (.cells Z 81 (0, 0))) := heap_alloc_new w2 _
    have HT := Lib.hid (HAN.out w2)
    obtain ⟨T, hT⟩ : ∃ T, arrI (cntA l) = T := ⟨_, rfl⟩
    rw [hT] at HSZ HZS HONE HT
    have HTT := Lib.hid hT
    rw [hT]
    clear hT
    go_wp2_with (refine wpList_store_row rfl 81 (.tmp 3) (.tmp 13) rfl w2.heap.size T rfl rfl 81 Z hnew.out HSZ.out HZS.out HONE.out ?_; rw [setRow_last])
    have hA := HT.out.old (.cells Z 81)
    have hB := HBN.out (w2.alloc (.cells T 81))
    simp only [World.size_alloc] at hB
    have hbel : Below w.heap.size w ((w2.alloc (.cells T 81)).alloc (.cells Z 81)) := (hb2.alloc hb2.size _).alloc (by have := hb2.size; simp; omega) _
    have hbs2 := hb2.size
    have hsz : w2.heap.size + 2 ≤ ((w2.alloc (.cells T 81)).alloc (.cells Z 81)).heap.size := by simp
    obtain ⟨wx, hwx⟩ : ∃ wx, ((w2.alloc (.cells T 81)).alloc (.cells Z 81)) = wx := ⟨_, rfl⟩
    rw [hwx] at hA hB hbel hsz ⊢
    have hA_ := Lib.hid hA
    have hB_ := Lib.hid hB
    clear hA hB
    clear hwx hz C_ C2_ hnew HT HAN HBN HONE HSZ HZS HTT hb2
    go_loopw [5] (fun i wr => ∃ k : Nat, 1 ≤ k ∧ k ≤ 16 ∧ i = .int .i64 ((k : Int) + 1) ∧ ArrAt wr w2.heap.size (cntA l) ∧ ArrAt wr (w2.heap.size + 1) (begA l k) ∧ Below w.heap.size w wr ∧ w2.heap.size + 2 ≤ wr.heap.size) (fun i _ => 17 - (intOf i).toNat)
    case atStart => exact ⟨1, by omega, by omega, rfl, hA_.out, hB_.out, hbel, hsz⟩
    case round =>
      clear hbel hsz
      obtain ⟨k, hk1, hk, rfl, hA, hB, hbel, hsz⟩ := hrel
      by_cases hlt : k < 16
      · have hd16 : decide ((k : Int) + 1 ≤ 16) = true := by simp; omega
        have hc0 := hB.cell k (by rw [begA_len]; omega)
        have hc1 := hA.cell k (by rw [cntA_len]; omega)
        have hc2 := hB.cell (k + 1) (by rw [begA_len]; omega)
        have hfr := hB.free (k + 1)
        have b0 : 0 ≤ (begA l k).getD k 0 ∧ (begA l k).getD k 0 ≤ 100000 := by
          rw [begA_get _ _ _ (by omega)]
          have := tot_le l (k - 1)
          have := Nat.mul_le_mul (show k - 1 ≤ 16 by omega) hll
          split <;> omega
        have b1 : 0 ≤ (cntA l).getD k 0 ∧ (cntA l).getD k 0 ≤ 100000 := by
          rw [cntA_get _ _ (by omega)]
          have := cnt_le l k
          split <;> omega
        have HSt := Lib.hid (hB.set (k + 1) ((begA l k).getD k 0 + (cntA l).getD k 0))
        have HAf := Lib.hid (hA.far (b := w2.heap.size + 1) (i := k + 1) (by omega) (.int .i64 ((begA l k).getD k 0 + (cntA l).getD k 0)))
        rw [begA_step l k hk1 hlt] at HSt
        obtain ⟨C0, hC0⟩ : ∃ C0, (begA l k).getD k 0 = C0 := ⟨_, rfl⟩
        obtain ⟨C1, hC1⟩ : ∃ C1, (cntA l).getD k 0 = C1 := ⟨_, rfl⟩
        obtain ⟨C2, hC2⟩ : ∃ C2, (begA l k).getD (k + 1) 0 = C2 := ⟨_, rfl⟩
        rw [hC0] at hc0 b0 HSt HAf
        rw [hC1] at hc1 b1 HSt HAf
        rw [hC2] at hc2
        have hA_ := Lib.hid hA
        have hB_ := Lib.hid hB
        clear hA hB
        clear hC0 hC1 hC2
        go_wp2
        go_region
        all_goals
          go_wp2
          go_roundw
          (case rel => exact ⟨k + 1, by omega, by omega, by go_num, HAf.out, HSt.out, (hbel.setCell (by simp; omega) _).drew, by simpa using hsz⟩)
          (case measure => simp [intOf]; omega)
      · obtain rfl : k = 16 := by omega
        have hd16 : decide (((16 : Nat) : Int) + 1 ≤ 16) = false := by decide
        rw [begA_end] at hB
        have HI : Hid (IsInts wr a l) := by
          refine ⟨h_.out.1, ?_⟩
          rcases h_.out.2 with hn | ⟨x, rfl, hx⟩
          · exact .inl hn
          · exact .inr ⟨x, rfl, fun i hi => by rw [hbel.cell (cell_block (hx i hi))]; exact hx i hi⟩
        have HO2 : Hid ((ord l).length ≤ 1099511627776) := by show _ ≤ _; omega
        have hA_ := Lib.hid hA
        have hB_ := Lib.hid hB
        clear hA hB
        go_wp2_with fail
        refine (CU_.out wr HI.out).mono ?_; rintro e w3 ⟨rfl, rfl⟩
        go_wp2_with (refine make_int rfl (.tmp 30) (.tmp 30) rfl .i64 .i64 _ _ (ord l).length rfl rfl rfl rfl HO2.out ?_; intro w4 hown hb4 hsz4)
        have HB4 := Lib.hid (hB_.out.kept hb4)
        have hbel4 : Below w.heap.size w w4 := hbel.trans (hb4.mono hbel.size)
        rw [← ordK_start] at hown
        have hw3 := hbel.size
        obtain ⟨g3, hg3⟩ : ∃ g3, w3.heap.size = g3 := ⟨_, rfl⟩
        rw [hg3] at hown hsz4 hsz hw3 ⊢
        obtain ⟨N, hN⟩ : ∃ N, (ord l).length = N := ⟨_, rfl⟩
        rw [hN] at hown hul2 ⊢
        have hown_ := Lib.hid hown
        have hN_ := Lib.hid hN
        clear hown hN
        clear hg3 hb4 hA_ hB_ HI CU_ hbel
        go_loopw [34] (fun i wr => ∃ k : Nat, k ≤ l.length ∧ i = .int .i64 k ∧ ArrAt wr (w2.heap.size + 1) (plcA l k) ∧ OwnI g3 wr (.slice (some ⟨g3, 0, none⟩) N N) (ordK l k) ∧ Below w.heap.size w wr) (fun i _ => l.length - (intOf i).toNat)
        case atStart => exact ⟨0, Nat.zero_le _, rfl, HB4.out, hown_.out, hbel4⟩
        case round =>
          clear hbel4
          obtain ⟨k, hk, rfl, hA, hown, hbel⟩ := hrel
          by_cases hlt : k < l.length
          · obtain ⟨x, rfl, hxb, hx⟩ := h_.out.at k hlt
            have cx := hx k hlt
            have cx : wr.cell? (x.add k) = some (.int .i64 (l.getD k 0)) := by rw [hbel.cell (by rw [add_block]; exact hxb)]; exact cx
            obtain ⟨g0, g1⟩ := hg_.out k hlt
            have Z0 := Lib.hid (fun e => And.intro (plcA_zero l k hlt e) (ordK_skip l k e))
            have Z1 := Lib.hid (fun m a b c => And.intro (plcA_one l k m hlt a b c) (ordK_one l k hlt (by unfold len; omega) (by unfold len; omega)))
            obtain ⟨X, hX⟩ : ∃ X, l.getD k 0 = X := ⟨_, rfl⟩
            rw [hX] at cx g0 g1 Z0 Z1
            clear hX hx
            obtain ⟨m, rfl⟩ : ∃ m : Nat, X = m := ⟨X.toNat, by omega⟩
            by_cases h0 : m = 0
            · subst h0
              have HE := Lib.hid (Z0.out rfl)
              have hA_ := Lib.hid hA
              have hown_ := Lib.hid hown
              clear hA hown
              go_wp2
              go_roundw
              case rel => exact ⟨k + 1, by omega, by go_num, by rw [HE.out.1]; exact hA_.out, by rw [HE.out.2]; exact hown_.out, hbel⟩
              case measure => simp [intOf]; omega
            · have HE := Lib.hid (Z1.out m rfl (by omega) (by omega))
              have hc := hA.cell m (by rw [plcA_len]; omega)
              have hfr := hA.free m
              rw [HE.out.1.2] at hc
              have hp : pos l k < N := by rw [← hN_.out]; exact HE.out.2.2
              have hfo := hown.free (pos l k)
              have hq := hown.int_cell (pos l k) (by rw [ordK_len, hN_.out]; exact hp)
              have HS := hA.far (b := g3) (i := pos l k) (by omega) (.int .i64 k)
              have HS := Lib.hid (HS.set m ((pos l k : Int) + 1))
              have HO := Lib.hid (OwnS.grown (hown.set_int (pos l k) k (by rw [ordK_len, hN_.out]; exact hp)) (World.grownBy_setCell ⟨w2.heap.size + 1, m, none⟩ (.int .i64 ((pos l k : Int) + 1))) (.inr (by simp [Value.ownBlock]; omega)))
              have h1 := HE.out.1.1
              rw [HE.out.1.2] at h1
              rw [h1] at HS
              rw [HE.out.2.1] at HO
              obtain ⟨Pk, hPk⟩ : ∃ Pk, pos l k = Pk := ⟨_, rfl⟩
              rw [hPk] at hc hp hfo hq HS HO
              have hA_ := Lib.hid hA
              have hown_ := Lib.hid hown
              clear hA hown
              clear h1 hPk HE
              go_wp2
              go_roundw
              case rel => exact ⟨k + 1, by omega, by go_num, HS.out, HO.out, (hbel.setCell (by simp; omega) _).setCell (by simp; omega) _⟩
              case measure => simp [intOf]; omega
          · obtain rfl : k = l.length := by omega
            rw [ordK_end] at hown
            have HV := Lib.hid (hown.isL (by rw [List.length_map, hN_.out]; omega))
            clear hown hA
            go_wp2
            go_ret
            exact ⟨_, rfl, HV.out, hbel⟩
  · have hO : orderL l = [] := by unfold orderL; rw [if_neg hE]
    rw [hO]
    obtain ⟨E, hEE⟩ : ∃ E, check l 16 = E := ⟨_, rfl⟩
    rw [hEE] at C hE
    have e1 : (E == 0) = false := by rw [beq_eq_false_iff_ne]; exact hE
    have e2 : (E != 0) = true := by rw [bne, e1]; rfl
    have C_ := Lib.hid C
    clear C
    clear hE hEE hO
    go_enter Try.func19, Try.ntmps19
    go_wp2_with fail
    refine C_.out.mono ?_; rintro e w0 ⟨rfl, n0, rfl⟩
    go_wp2_with fail
    go_ret
    exact ⟨_, rfl, IsL.nil _, below_dn (Below.refl _ _) n0⟩
end Go.Proofs.Ytekageibffhloaa
