/- Layer 57: Buckets, Lens, at given rows. -/
import Derived.Test.YtjpmfaodkldobaaS1
import Derived.Test.YtjpmfaodkldobaaShelf
namespace Go.Proofs.Ytjpmfaodkldobaa
open Go.ChangeShapes Go.WideShapes Go.ChangeAt Go.RowKit
set_option linter.unusedVariables false
set_option maxRecDepth 100000
def bk (x : Int) : Nat := Lib.bitLen (max x 0).toNat
def bpad (o : List Int) (k j : Nat) : List Int := o ++ List.replicate j 0
def bfull (o : List Int) (k : Nat) : List Int := bpad o k (k + 1 - o.length)
def bstep (o : List Int) (x : Int) : List Int := (bfull o (bk x)).set (bk x) ((bfull o (bk x)).getD (bk x) 0 + 1)
def bks (l : List Int) : List Int := l.foldl bstep []
def bokAt (l : List Int) (k : Nat) : Bool := decide (bk (l.getD k 0) ≤ 100) && decide ((bks (l.take k)).length ≤ 100) && decide (0 ≤ (bfull (bks (l.take k)) (bk (l.getD k 0))).getD (bk (l.getD k 0)) 0) && decide ((bfull (bks (l.take k)) (bk (l.getD k 0))).getD (bk (l.getD k 0)) 0 ≤ 1000) && decide (-1000000 ≤ l.getD k 0) && decide (l.getD k 0 ≤ 1000000)
theorem bks_snoc (l : List Int) (k : Nat) (h : k < l.length) : bks (l.take (k + 1)) = bstep (bks (l.take k)) (l.getD k 0) := by
  unfold bks
  rw [take_getD l k h, List.foldl_append]; rfl
theorem bfull_len (o : List Int) (k : Nat) : k < (bfull o k).length := by unfold bfull bpad; simp; omega
theorem sBuckets (a : Option Addr) (c : Nat) (l : List Int) (w : World) (h : IsInts w a l) (hl : l.length ≤ 100) (H : ∀ k, k < l.length → bokAt l k = true) :
    Calls Try.prog 83 #[.slice a l.length c] w fun e w' => ∃ v, e = .returned v ∧ OwnI w.heap.size w' v (bks l) ∧ Below w.heap.size w w' := by
  have HI := Lib.hid h
  have HH := Lib.hid H
  clear h H
  go_enter Try.func83, Try.ntmps83
  go_wp2
  go_loopw [3, 9] (fun u i wr => ∃ k : Nat, k ≤ l.length ∧ i = .int .i64 k ∧ OwnI w.heap.size wr u (bks (l.take k)) ∧ Below w.heap.size w wr) (fun _ i _ => l.length - (intOf i).toNat)
  case atStart => exact ⟨0, Nat.zero_le _, rfl, OwnS.nil, Below.refl _ _⟩
  case round =>
    obtain ⟨i, hi, rfl, hown, hb⟩ := hrel
    have hbs := hb.size
    by_cases hit : i < l.length
    · obtain ⟨x, rfl, hxb, hcell0⟩ := HI.out.at i hit
      have ci : wr.cell? (x.add i) = _ := (hb.cell (by rw [add_block]; exact hxb)).trans (hcell0 i hit)
      clear hcell0
      have hok := HH.out i hit
      have HS := Lib.hid (bks_snoc l i hit)
      unfold bokAt at hok
      simp only [Bool.and_eq_true, decide_eq_true_eq] at hok
      obtain ⟨⟨⟨⟨⟨h1, h2⟩, h3⟩, h4⟩, h5⟩, h6⟩ := hok
      obtain ⟨O, hO⟩ : ∃ O, bks (l.take i) = O := ⟨_, rfl⟩
      obtain ⟨X, hX⟩ : ∃ X, l.getD i 0 = X := ⟨_, rfl⟩
      rw [hX] at h1 h3 h4 h5 h6 ci HS
      rw [hO] at h2 h3 h4 hown HS
      clear hO hX
      have HS2 := Lib.hid (show bstep O X = (bfull O (bk X)).set (bk X) ((bfull O (bk X)).getD (bk X) 0 + 1) from rfl)
      have hbl := Lib.hid (show Lib.bitLen (max X 0).toNat = bk X from rfl)
      have hfl := bfull_len O (bk X)
      have hfu := Lib.hid (show bfull O (bk X) = bpad O (bk X) (bk X + 1 - O.length) from rfl)
      obtain ⟨K, hK⟩ : ∃ K, bk X = K := ⟨_, rfl⟩
      rw [hK] at h1 h3 h4 HS2 hbl hfl hfu
      clear hK
      have hm : 0 ≤ max X 0 ∧ max X 0 ≤ 1000000 := by omega
      have CL := Lib.hid (fun w => Try.bits_Len (max X 0) w hm.1 (by omega))
      rw [hbl.out] at CL
      obtain ⟨hm1, hm2⟩ := hm
      clear hbl
      have hown_ := Lib.hid hown
      have hb_ := Lib.hid hb
      clear hown hb
      go_wp2_with fail
      refine (CL.out _).mono ?_; rintro e w1 ⟨rfl, rfl⟩
      go_wp2_with fail
      go_loopw [3] (fun u wr => ∃ (j : Nat) (P : List Int), j ≤ K + 1 - O.length ∧ Hid (P = bpad O K j) ∧ P.length = O.length + j ∧ OwnI w.heap.size wr u P ∧ Below w.heap.size w wr) (fun u _ => match u with | .slice _ n _ => K + 1 - n | _ => 0)
      case atStart => exact ⟨0, O, Nat.zero_le _, Lib.hid (by unfold bpad; simp), by omega, hown_.out, hb_.out⟩
      case round =>
        clear hown_ hb_ ci
        obtain ⟨j, P, hj, hP, hPl, hown, hb⟩ := hrel
        have hbs := hb.size
        obtain ⟨a2, c2, rfl⟩ := hown.slice
        by_cases hlt : O.length + j ≤ K
        · have HPN := Lib.hid (show P ++ [0] = bpad O K (j + 1) by rw [hP.out]; unfold bpad; rw [List.append_assoc, List.replicate_succ'])
          have HPL := Lib.hid (show (P ++ [0]).length = O.length + (j + 1) by simp; omega)
          have HL1 := Lib.hid (show P.length ≤ 1099511627776 by omega)
          have HB1 := Lib.hid hbs
          have hltP : P.length ≤ K := by omega
          have hPl_ := Lib.hid hPl
          have hown_ := Lib.hid hown
          have hb_ := Lib.hid hb
          clear hown hb
          clear hPl
          go_wp2_with (at_builtin; refine app_int rfl _ _ rfl _ _ _ _ 0 rfl hown_.out _ 1 rfl rfl HL1.out HB1.out ?_; intro v2 w2 hown2 hb2 hg2)
          obtain ⟨a3, c3, rfl⟩ := hown2.slice
          have hb3 := hb_.out.trans hb2
          obtain ⟨P2, hP2⟩ : ∃ P2, P ++ [0] = P2 := ⟨_, rfl⟩
          rw [hP2] at hown2 HPN HPL
          clear hb2 hg2
          go_wp2_with fail
          go_roundw
          case rel => exact ⟨j + 1, P2, by omega, HPN, HPL.out, by rw [hP2]; exact hown2, hb3⟩
          case measure => have h5 := HPL.out; have h6 := hPl_.out; rw [hP2]; show K + 1 - P2.length < K + 1 - P.length; omega
        · have hPK : K < P.length := by omega
          have hPF : P = bfull O K := by rw [hP.out, hfu.out]; congr 1; omega
          obtain ⟨g, cap, hv, hg1, hg2⟩ := OwnS.form hown (by omega) (by decide)
          simp only [Value.slice.injEq, true_and] at hv
          obtain ⟨rfl, rfl⟩ := hv
          have hcell := hown.int_cell K hPK
          have hfr := hown.free K
          have HSt := Lib.hid (hown.set_int K (P.getD K 0 + 1) hPK)
          rw [← hPF] at h3 h4 HS2
          have hb2 := Lib.hid (hb.setCell (p := ⟨g, K, none⟩) hg1 (.int .i64 (P.getD K 0 + 1)))
          obtain ⟨Z, hZ⟩ : ∃ Z, P.getD K 0 = Z := ⟨_, rfl⟩
          rw [hZ] at hcell HSt h3 h4 HS2 hb2
          clear hZ
          have hPK' : (K : Int) < (P.length : Int) := by omega
          clear hP hPl hPF hown hb hfl hlt hj
          go_wp2_with fail
          refine ⟨⟨i + 1, by omega, by go_num, ?_, hb2.out⟩, by simp [intOf]; omega⟩
          rw [HS.out, HS2.out]
          have := HSt.out
          exact this
    · obtain rfl : i = l.length := by omega
      rw [List.take_length] at hown
      have hown_ := Lib.hid hown
      clear hown
      go_wp2_with fail
      go_ret
      exact ⟨_, rfl, hown_.out, hb⟩
end Go.Proofs.Ytjpmfaodkldobaa
