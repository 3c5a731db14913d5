/- Layer 43, the document's: Build. -/
import Derived.Test.YtdonecbcnkipbaaAQ6
namespace Go.Proofs.Ytdonecbcnkipbaa
open Go.ChangeShapes Go.WideShapes Go.ChangeAt Go.RowKit
set_option linter.unusedVariables false
set_option linter.unusedSimpArgs false
set_option maxRecDepth 100000
open RollMath Gm
theorem add_run (a b : Tx) (h : a.length + b.length ≤ 1000000) (t : TypeId) (W : World) : (binOp .add t (.string (sT a)) (.string (sT b))).run Try.prog W = .ok (.string (sT (a ++ b))) W := by
  have e : binOp .add t (.string (sT a)) (.string (sT b)) = pure (.string (sT a ++ sT b)) := by
    have h2 : ¬ (9223372036854775807 : Int) < ((sT a).size : Int) + ((sT b).size : Int) := by rw [sT_size, sT_size]; omega
    simp [binOp, Op.stringOp, h2]
  rw [e, sT_app]
  rfl
/-- What the document builds out of the first grams. -/
def bldAt (K : Nat) (SZ : Int) (L : List Gr) (i : Nat) : Tx := bldL K SZ (L.take i)
theorem bldAt_next {K : Nat} {SZ : Int} {L : List Gr} {i : Nat} (h : i < L.length) : bldAt K SZ L (i + 1) = bldS K SZ (bldAt K SZ L i) (L.getD i ([], 0)) := by
  unfold bldAt bldL
  rw [take_getDG L i h, List.foldl_append]; rfl
theorem bldAt_len {K : Nat} {SZ : Int} {L : List Gr} (hL : ∀ g ∈ L, g.1.length = K) (i : Nat) (h : i ≤ L.length) : (bldAt K SZ L i).length ≤ K * i := by
  have := bld_few K SZ (L.take i) [] (fun g hg => hL g (List.mem_of_mem_take hg))
  rw [List.length_take, Nat.min_eq_left h] at this
  simpa [bldAt, bldL] using this
theorem dBuildNo (v : Value) (SZ k : Int) (w : World) (hk : k < 2 ∨ 16 < k ∨ SZ < 0 ∨ 67108864 < SZ) : Calls Try.prog 8 #[v, .int .i64 SZ, .int .i64 k] w fun e w' => e = .returned (.tuple #[.string ⟨#[]⟩, .int .i64 1]) ∧ Below w.heap.size w w' := by
  by_cases h1 : k < 2
  · clear hk
    go_enter Try.func8, Try.ntmps8
    go_wp2_with fail
    go_ret2
    exact ⟨rfl, by go_grown⟩
  by_cases h2 : 16 < k
  · clear hk
    go_enter Try.func8, Try.ntmps8
    go_wp2_with fail
    go_ret2
    exact ⟨rfl, by go_grown⟩
  by_cases h3 : SZ < 0
  · clear hk
    go_enter Try.func8, Try.ntmps8
    go_wp2_with fail
    go_ret2
    exact ⟨rfl, by go_grown⟩
  have h4 : 67108864 < SZ := by omega
  clear hk
  go_enter Try.func8, Try.ntmps8
  go_wp2_with fail
  go_ret2
  exact ⟨rfl, by go_grown⟩
theorem cnt_few {ls : List Tx} (hF : Few ls) (k : Nat) : (cntL ls k).length ≤ 1000 ∧ (∀ j, j < (cntL ls k).length → ((cntL ls k).getD j ([], 0)).2 ≤ 1000) := by
  have := out_bd hF k ls.length 0 (Nat.le_refl _)
  rw [out_end] at this
  exact this
set_option maxHeartbeats 3200000 in
theorem dBuildG (a : Option Addr) (c : Nat) (ls : List Tx) (K : Nat) (SZ : Int) (w : World) (h : IsTs w a ls) (hF : Few ls) (h1 : 2 ≤ K) (h16 : K ≤ 16) (h0 : 0 ≤ SZ) (hS : SZ ≤ 67108864) :
    Calls Try.prog 8 #[.slice a ls.length c, .int .i64 SZ, .int .i64 K] w fun e w' => e = .returned (.tuple #[.string (sT (bldL K SZ (cntL ls K))), .int .i64 0]) ∧ Below w.heap.size w w' := by
  have CC := Lib.hid (dCountG a c ls K w h hF (by omega) h16)
  have HCF := Lib.hid (cnt_few hF K)
  have HCL := Lib.hid (fun (g : Gr) (h : g ∈ cntL ls K) => cnt_len h)
  have hk1 : ¬ (K : Int) < 2 := by omega
  have hk2 : ¬ (16 : Int) < (K : Int) := by omega
  have hk3 : ¬ SZ < 0 := by omega
  have hk4 : ¬ (67108864 : Int) < SZ := by omega
  obtain ⟨L, hL⟩ : ∃ L, cntL ls K = L := ⟨_, rfl⟩
  rw [hL] at CC HCF HCL ⊢
  have hl := HCF.out.1
  clear h hF hL
  go_enter Try.func8, Try.ntmps8
  go_wp2_with fail
  refine CC.out.mono ?_; rintro e w1 ⟨v1, rfl, ho1, hb1⟩
  obtain ⟨va, vc, rfl, -, hgr⟩ := OwnG.gr ho1
  have HGR := Lib.hid hgr
  have HB1 := Lib.hid hb1
  clear ho1 hb1 hgr CC hk1 hk2 hk3 hk4
  go_wp2_with fail
  go_loopw [9, 10] (fun v i wr => ∃ n : Nat, n ≤ L.length ∧ i = .int .i64 n ∧ v = .string (sT (bldAt K SZ L n)) ∧ Hid (Below w1.heap.size w1 wr)) (fun _ i _ => L.length - (intOf i).toNat)
  case atStart => exact ⟨0, Nat.zero_le _, rfl, rfl, Lib.hid (Below.refl _ _)⟩
  case round =>
    obtain ⟨n, hn, rfl, rfl, hb⟩ := hrel
    by_cases hlt : n < L.length
    · have hni : (n : Int) < (L.length : Int) := by omega
      have hn0 : (0 : Int) ≤ (n : Int) := by omega
      obtain ⟨x, rfl, hxl, c0, c1⟩ := (HGR.out.kept hb.out).at n hlt
      have hxb : (x.add (n * 2)).block < wr.heap.size := by rw [add_block]; exact hxl
      have hnx := bldAt_next (K := K) (SZ := SZ) hlt
      have hol := bldAt_len (SZ := SZ) HCL.out n hn
      have hg2 := HCF.out.2 n hlt
      have hgl := HCL.out (L.getD n ([], 0)) (by rw [List.getD_eq_getElem?_getD, List.getElem?_eq_getElem hlt]; exact List.getElem_mem hlt)
      obtain ⟨G, hG⟩ : ∃ G, L.getD n ([], 0) = G := ⟨_, rfl⟩
      obtain ⟨O, hO⟩ : ∃ O, bldAt K SZ L n = O := ⟨_, rfl⟩
      rw [hG] at c0 c1 hnx hg2 hgl
      rw [hO] at hnx hol ⊢
      obtain ⟨t, m⟩ := G
      simp only at c0 c1 hg2 hgl
      have hO2 : O.length ≤ 16000 := by
        have : K * n ≤ 16 * 1000 := Nat.mul_le_mul h16 (by omega)
        omega
      have CF := Lib.hid (fun W => dFindT O t (by omega) (by omega) W)
      have hdef : bldS K SZ O (t, m) = if 2 ≤ m ∧ (findL O t).length = 0 ∧ ((O.length + K : Nat) : Int) ≤ SZ then t ++ O else O := rfl
      rw [hdef] at hnx
      obtain ⟨FN, hFN⟩ : ∃ FN, (findL O t).length = FN := ⟨_, rfl⟩
      have hFl := find_few O t
      rw [hFN] at CF hnx hFl
      have HNX := Lib.hid hnx
      have hszO := sT_size O
      have hszt := sT_size t
      have hmx : ¬ (9223372036854775807 : Int) < (t.length : Int) + (O.length : Int) := by omega
      have hmx2 : (t.length : Int) + (O.length : Int) ≤ 9223372036854775807 := by omega
      have hszb := Lib.hid hb.out.size
      clear hG hO hFN hdef hnx hol hgl
      by_cases hm : 2 ≤ m
      · have hmi : (2 : Int) ≤ (m : Int) := by omega
        clear h1
        go_wp2_with fail
        refine (CF.out _).mono ?_; rintro e w3 ⟨fa, fc, rfl, hb3⟩
        have HB3 := Lib.hid (hb.out.trans (hb3.mono hszb.out))
        have c3 := (hb3.cell hxb).trans c0
        clear hb3 hb hszb CF c0 c1 hxb
        by_cases hf : FN = 0
        · have hfi : ((FN : Int) == 0) = true := by rw [beq_iff_eq]; omega
          by_cases hs : (O.length : Int) + (K : Int) ≤ SZ
          · have HN2 := Lib.hid (show bldAt K SZ L (n + 1) = t ++ O by rw [HNX.out, if_pos ⟨hm, hf, by omega⟩])
            have hap := sT_app t O
            clear hf hm HNX
            go_wp2_with fail
            go_roundw
            case rel => exact ⟨n + 1, by omega, by go_num, by rw [HN2.out], HB3⟩
            case measure => simp [intOf]; omega
          · have HN2 := Lib.hid (show bldAt K SZ L (n + 1) = O by rw [HNX.out, if_neg (by omega)])
            clear hf hm HNX
            go_wp2_with fail
            go_roundw
            case rel => exact ⟨n + 1, by omega, by go_num, by rw [HN2.out], HB3⟩
            case measure => simp [intOf]; omega
        · have hfi : ((FN : Int) == 0) = false := by rw [beq_eq_false_iff_ne]; omega
          have HN2 := Lib.hid (show bldAt K SZ L (n + 1) = O by rw [HNX.out, if_neg (by omega)])
          clear hf hm HNX
          go_wp2_with fail
          go_roundw
          case rel => exact ⟨n + 1, by omega, by go_num, by rw [HN2.out], HB3⟩
          case measure => simp [intOf]; omega
      · have hmi : ¬ (2 : Int) ≤ (m : Int) := by omega
        have HN2 := Lib.hid (show bldAt K SZ L (n + 1) = O by rw [HNX.out, if_neg (by omega)])
        clear h1 hm HNX
        go_wp2_with fail
        go_roundw
        case rel => exact ⟨n + 1, by omega, by go_num, by rw [HN2.out], hb⟩
        case measure => simp [intOf]; omega
    · obtain rfl : n = L.length := by omega
      have hni : ¬ (L.length : Int) < (L.length : Int) := by omega
      have e : bldAt K SZ L L.length = bldL K SZ L := by unfold bldAt; rw [List.take_length]
      rw [e]
      have HBE := Lib.hid (HB1.out.trans (hb.out.mono HB1.out.size))
      clear hb e
      go_wp2_with fail
      go_ret2
      exact ⟨rfl, HBE.out⟩
end Go.Proofs.Ytdonecbcnkipbaa
