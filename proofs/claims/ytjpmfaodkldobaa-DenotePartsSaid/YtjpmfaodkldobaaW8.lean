/- Layer 18, the document's: Copy. -/
import Derived.Test.YtjpmfaodkldobaaW6
import Derived.Test.YtjpmfaodkldobaaW7
namespace Go.Proofs.Ytjpmfaodkldobaa
open Go.ChangeShapes Go.WideShapes Go.ChangeAt Go.RowKit
set_option linter.unusedVariables false
set_option maxRecDepth 100000
theorem conv_marked {P : Program} {w : World} {B : Nat} {src dst e : TypeId} {v : Value} {l : List UInt8} (hs : P.underlying src = some (.slice e)) (he : P.underlying e = some (.int .u8)) (hd : P.underlying dst = some .string)
    (h : OwnM B w v l) : (convert src dst v).run P w = .ok (.string (sOf l)) w := by
  obtain ⟨g, cap, rfl, -⟩ := h.form
  refine run_convert_bytes_back (P := P) w src dst e ⟨g, 0, none⟩ cap l hs he hd (fun j hj => ?_)
  have e2 : (⟨g, 0, none⟩ : Addr).add j = ⟨g, j, none⟩ := by unfold Addr.add; split <;> simp_all
  rw [e2, h.cell j hj, getD_lt _ _ hj]
set_option maxHeartbeats 1600000 in
theorem dCopyIn (s : ByteArray) (n d : Nat) (hs : s.size ≤ 1000000) (hn : n ≤ 258) (hd : 1 ≤ d) (hd2 : d ≤ s.size) (w : World) :
    Calls Try.prog 22 #[.string s, .int .i64 n, .int .i64 d, .int .i64 67108864] w fun e w' => e = .returned (.tuple #[.string (sOf (copyL d n s.data.toList)), .int .i64 0]) ∧ Below w.heap.size w w' := by
  have hcv := run_bytes_of_string (P := Try.prog) w 9 34 5 s Try.underlying9 Try.underlying34 Try.underlying5
  have hM := ownM_conv w s (by omega)
  have hsl : s.data.toList.length = s.size := by simp
  have hB0 : Below w.heap.size w (w.drew.alloc (.cells (bytesRow s (grownCap w s.size 0 5)) 5 ((bytesRow s (grownCap w s.size 0 5)).size, (bytesRow s (grownCap w s.size 0 5)).size + 1))) := (Below.refl _ _).drew.alloc (Nat.le_refl _) _
  rw [hsl] at hM
  obtain ⟨W1, hW1⟩ : ∃ W1, (w.drew.alloc (.cells (bytesRow s (grownCap w s.size 0 5)) 5 ((bytesRow s (grownCap w s.size 0 5)).size, (bytesRow s (grownCap w s.size 0 5)).size + 1))) = W1 := ⟨_, rfl⟩
  rw [hW1] at hcv hM hB0
  obtain ⟨C, hC⟩ : ∃ C, grownCap w s.size 0 5 = C := ⟨_, rfl⟩
  rw [hC] at hcv hM
  obtain ⟨L, hLd⟩ : ∃ L, s.data.toList = L := ⟨_, rfl⟩
  rw [hLd] at hM hsl ⊢
  have HSL := Lib.hid hsl
  obtain ⟨i0, hi, hz0, hz1, hz2⟩ := info_get (show (Try.prog.info? 5).map (fun i => (i.zero, i.size, i.bytes)) = some (some (.int .u8 0), 1, 1) by kernel_rfl)
  have HM := Lib.hid hM
  have HB0 := Lib.hid hB0
  clear hW1 hC hLd hsl hM hB0
  have q1 : decide ((d : Int) < 1) = false := decide_eq_false (by omega)
  have q2 : decide ((67108864 : Int) < d) = false := decide_eq_false (by omega)
  have q3 : decide ((n : Int) < 0) = false := decide_eq_false (by omega)
  have q4 : decide ((258 : Int) < n) = false := decide_eq_false (by omega)
  have q5 : decide (s.size < d) = false := decide_eq_false (by omega)
  go_enter Try.func22, Try.ntmps22
  go_wp2_with fail
  go_loopw [10, 11] (fun u i wr => ∃ k : Nat, k ≤ n ∧ i = .int .i64 k ∧ OwnM w.heap.size wr u (copyL d k L) ∧ Below w.heap.size w wr) (fun _ i _ => n - (intOf i).toNat)
  case atStart => exact ⟨0, Nat.zero_le _, rfl, HM.out, HB0.out⟩
  case round =>
    clear hcv q1 q2 q3 q4 q5
    obtain ⟨k, hk, rfl, hM, hb⟩ := hrel
    have hbs := hb.size
    have HLn := Lib.hid (copyL_len d k L)
    have HSN := Lib.hid (copyL_snoc d k L)
    by_cases hlt : k < n
    · obtain ⟨g, cap, hv, hBg, hgl, hcap, hcm⟩ := hM.form
      subst hv
      have hl := HLn.out
      rw [HSL.out] at hl
      have hcell := OwnM.cell hM ((copyL d k L).length - d) (by omega)
      obtain ⟨R, hR⟩ : ∃ R, copyL d k L = R := ⟨_, rfl⟩
      rw [hR] at hM hcell hcap hl HSN ⊢
      clear hR HLn
      obtain ⟨Z, hZ⟩ : ∃ Z, R.getD (R.length - d) 0 = Z := ⟨_, rfl⟩
      rw [hZ] at hcell HSN
      clear hZ
      have hRd : d ≤ R.length := by omega
      have hRb : R.length ≤ 1000000000 := by omega
      have HRb := Lib.hid hRb
      have HBs := Lib.hid hbs
      have HM1 := Lib.hid hM
      have HBB := Lib.hid hb
      clear hM hb hl
      go_wp2_with (at_builtin; refine app_marked rfl _ _ _ rfl i0 Try.underlying34 hi hz0 hz1 hz2 _ _ _ R Z rfl HM1.out _ 1 rfl rfl HRb.out HBs.out ?_; intro v2 w2 hM2 hb2)
      rw [← HSN.out] at hM2
      have HM2 := Lib.hid hM2
      have HB2 := Lib.hid (HBB.out.trans hb2)
      clear hM2 hb2 HM1 HBB
      go_wp2_with fail
      go_roundw
      case rel => exact ⟨k + 1, by omega, by go_num, HM2.out, HB2.out⟩
      case measure => simp [intOf]; omega
    · obtain rfl : k = n := by omega
      have hcw := conv_marked (P := Try.prog) (src := 34) (dst := 9) (e := 5) Try.underlying34 Try.underlying5 Try.underlying9 hM
      have HBB := Lib.hid hb
      clear hM hb HLn HSN
      go_wp2_with fail
      go_ret2
      exact ⟨rfl, HBB.out⟩
end Go.Proofs.Ytjpmfaodkldobaa
