/- Layer 61: bytes out of bytes. Rows of bytes that a call owns. -/
import Derived.Test.YtkdkedgpchcfpaaV4
namespace Go.Proofs.Ytkdkedgpchcfpaa
open Go.ChangeShapes Go.WideShapes Go.ChangeAt Go.RowKit
set_option linter.unusedVariables false
set_option linter.unusedSimpArgs false
set_option maxRecDepth 100000
open Range
def fY (x : UInt8) : List Value := [.int .u8 (x.toNat : Int)]
theorem flatY : Flat fY 1 := fun x => ⟨rfl, by intro u hu; simp [fY] at hu; subst hu; rfl⟩
abbrev OwnY (B : Nat) (w : World) (v : Value) (l : List UInt8) : Prop := OwnS fY 5 1 B w v l
theorem info_u8 : (Try.prog.info? 5).map (fun i => (i.zero, i.size, i.bytes)) = some (some (.int .u8 0), 1, 1) := by kernel_rfl
theorem cells8_fY (l : List UInt8) : l.flatMap fY = cells8 l := by
  induction l with
  | nil => rfl
  | cons b l ih => rw [List.flatMap_cons, ih]; rfl
theorem OwnS.conv {B : Nat} {w : World} {v : Value} {l : List UInt8} (h : OwnY B w v l) : (convert 75 9 v).run Try.prog w = .ok (.string (sB l)) w := by
  have h' : w.ownsRow B 5 1 v l.length (cells8 l) := by rw [← cells8_fY]; exact h
  exact conv_own8 Try.underlying75 Try.underlying5 Try.underlying9 h'
theorem MDec.below {w w' : World} {B gm gc gd bx last M : Nat} {s : TS} (h : MDec w B gm gc gd bx last s) (hb : Below M w w') (hM : B ≤ M) (h1 : gm < M) (h2 : gc < M) : MDec w' B gm gc gd bx last s := by
  have := h.dB; have := h.xB
  exact ⟨(hb.block _ h1).trans h.mod, h.ch.block (hb.block _ h2), h.dec.kept hb (by omega), (hb.block _ (by omega)).trans h.box, h.dB, h.xB, h.dx, h.Bm, h.Bc, h.mc⟩
set_option maxHeartbeats 3200000 in
theorem mDecode (N : Nat) (hN : N = 65536) (s : ByteArray) (hs : s.size ≤ 1000000) (many : Nat) (hm : many ≤ 16777216) (w : World) :
    Calls Try.prog 38 #[.string s, .int .i64 many] w fun e w' => e = .returned (.tuple #[.string (sB (decM N s.data.toList many)), .int .i64 0]) ∧ Below w.heap.size w w' := by
  have C1 := Lib.hid (fun W => gNew s (by omega) W)
  have C2 := Lib.hid (fun W => mNew N hN W)
  have HM := Lib.hid (midD_s hN (midD0 s.data.toList N))
  have HT0 := Lib.hid (show t0M s.data.toList N = (⟨fresh s.data.toList, List.replicate N 1024, 1⟩, 0) from rfl)
  show Calls Try.prog 38 #[.string s, .int .i64 many] w fun e w' => e = .returned (.tuple #[.string (sB (outM (t0M s.data.toList N) many)), .int .i64 0]) ∧ Below w.heap.size w w'
  obtain ⟨T0, hT0⟩ : ∃ T0, t0M s.data.toList N = T0 := ⟨_, rfl⟩
  rw [hT0] at HM HT0 ⊢
  have hmf : ∀ (fn : Fn) (first cap : Array Value) (w : World), (Instr.makeFunc fn first cap).run Try.prog w = .ok (.func fn first cap) w := fun _ _ _ _ => rfl
  clear hT0
  go_enter Try.func38, Try.ntmps38
  go_wp2_with fail
  refine (C1.out _).mono ?_; rintro e w1 ⟨gd, rfl, hd1, hb1, hg1, hg2⟩
  have HD1 := Lib.hid hd1; have HB1 := Lib.hid hb1
  clear hd1 hb1 C1
  go_wp2_with fail
  refine (C2.out _).mono ?_; rintro e w2 ⟨gm, gc, rfl, hmod, hch, hmc, hgm, hgc, hb2⟩
  have hbs1 := HB1.out.size
  have hbx := (hb2.block w1.heap.size (by simp)).trans (heap_alloc_new w1 (.cells #[.pointer (some ⟨gd, 0, none⟩)] 36))
  have hB12 := HB1.out.trans ((Below.refl w.heap.size w1).alloc hbs1 (.cells #[.pointer (some ⟨gd, 0, none⟩)] 36) |>.trans (hb2.mono (by simp; omega)))
  have hd2 := (HD1.out.kept (w' := w1.alloc (.cells #[.pointer (some ⟨gd, 0, none⟩)] 36)) (B := w1.heap.size) ((Below.refl _ _).alloc (Nat.le_refl _) _) hg2).kept hb2 (by simp; omega)
  have hs1 : (w1.alloc (.cells #[.pointer (some ⟨gd, 0, none⟩)] 36)).heap.size = w1.heap.size + 1 := by simp
  rw [hs1] at hgm hgc
  have hT2 : MDec w2 (w1.heap.size + 1) gm gc gd w1.heap.size 0 T0.1 := by
    rw [HT0.out]
    exact ⟨hmod, hch, hd2, hbx, by omega, by omega, by omega, by omega, by omega, hmc⟩
  have hgm2 := block_lt hmod
  have hgc2 := hch.lt
  have HT2 := Lib.hid hT2; have HB2 := Lib.hid hB12
  clear hT2 hB12 hmod hch hd2 hbx hb2 hs1 HB1 HD1
  go_wp2_with (refine make_full (f := fY) info_u8 (by decide) Try.underlying75 0 rfl flatY (by decide) rfl _ _ rfl .i64 .i64 _ _ many rfl rfl rfl rfl (by omega) ?_; intro w3 hown3 hb3 hz3)
  obtain ⟨go, hgo⟩ : ∃ go, w2.heap.size = go := ⟨_, rfl⟩
  rw [hgo] at hown3 hz3 hb3 hgm2 hgc2 ⊢
  have HO := Lib.hid hown3
  have HT := Lib.hid (HT2.out.below hb3 (by omega) hgm2 hgc2)
  have HB := Lib.hid (HB2.out.trans (hb3.mono (by have := HB2.out.size; omega)))
  have hwgo : w.heap.size ≤ go := by have := HB2.out.size; omega
  obtain ⟨B, hB⟩ : ∃ B, w1.heap.size + 1 = B := ⟨_, rfl⟩
  obtain ⟨bx, hbxx⟩ : ∃ bx, w1.heap.size = bx := ⟨_, rfl⟩
  rw [hB] at HT hgm hgc
  rw [hbxx] at HT ⊢
  have hwB : w.heap.size ≤ B := by omega
  have hBgo : B ≤ go := by omega
  have hgdgo : gd < go := by omega
  have hL0 : T0.2 = 0 := by rw [HT0.out]
  have HT' := Lib.hid (show MDec w3 B gm gc gd bx (mDs T0 0).2 (mDs T0 0).1 by show MDec w3 B gm gc gd bx T0.2 T0.1; rw [hL0]; exact HT.out)
  clear hown3 hb3 hgo hB hbxx hz3 hbs1 HT2 HB2 HT hL0
  go_wp2_with fail
  go_loopw [23] (fun i wr => ∃ k : Nat, k ≤ many ∧ i = .int .i64 k ∧ MDec wr B gm gc gd bx (mDs T0 k).2 (mDs T0 k).1 ∧ OwnY go wr (.slice (some ⟨go, 0, none⟩) many many) (outM T0 k ++ List.replicate (many - k) 0) ∧ Below w.heap.size w wr) (fun i _ => many - (intOf i).toNat)
  case atStart => exact ⟨0, Nat.zero_le _, rfl, HT'.out, HO.out, HB.out⟩
  case round =>
    obtain ⟨k, hk, rfl, ht, hown, hb⟩ := hrel
    by_cases hlt : k < many
    · have HS := Lib.hid (outM_succ T0 k)
      have HE := Lib.hid (show mDs T0 (k + 1) = mD (mDs T0 k) from rfl)
      have hmid := HM.out k
      have hol : (outM T0 k).length = k := outM_len T0 k
      obtain ⟨P, hP⟩ : ∃ P, mDs T0 k = P := ⟨_, rfl⟩
      obtain ⟨OL, hOL⟩ : ∃ OL, outM T0 k = OL := ⟨_, rfl⟩
      obtain ⟨PN, hPN⟩ : ∃ PN, mDs T0 (k + 1) = PN := ⟨_, rfl⟩
      rw [hOL] at hown HS hol
      rw [hP] at ht HE hmid
      rw [hPN] at HS HE
      have HPN := Lib.hid hPN
      have CN := Lib.hid (mNextD wr N hN B gm gc gd bx P.2 ⟨P.1.d, P.1.ch, 1⟩ hmid.2.2.2 (ht.row 1) hmid.fine rfl)
      have HV := Lib.hid (show (stepsTo (256 * P.2) ⟨P.1.d, P.1.ch, 1⟩ 8).r - 256 = PN.2 ∧ stepsTo (256 * P.2) ⟨P.1.d, P.1.ch, 1⟩ 8 = PN.1 by rw [HE.out]; exact ⟨rfl, rfl⟩)
      rw [HV.out.1, HV.out.2] at CN
      have HP2 := Lib.hid (show PN.2 < 256 by rw [HE.out]; exact (hmid.next hN).2.2.2)
      have HO1 := Lib.hid hown
      have HB1 := Lib.hid hb
      have HOL := Lib.hid hol
      clear ht hown hb hmid hOL hPN HE hol hP HV
      go_wp2_with fail
      refine (CN.out).mono ?_; rintro e w4 ⟨rfl, ht4, hk4⟩
      have hown4 : OwnY go w4 (.slice (some ⟨go, 0, none⟩) many many) (OL ++ List.replicate (many - k) 0) := hk4.ownsRow HO1.out (fun j hj e => by
        have : go = j := by simpa [Value.ownBlock] using hj
        have e' : j = gd ∨ j = gc ∨ j = gm := e
        omega)
      have hll : (OL ++ List.replicate (many - k) (0 : UInt8)).length = many := by rw [List.length_append, HOL.out]; simp; omega
      have hcx : ∃ u, w4.cell? ⟨go, k, none⟩ = some u := by
        have := OwnS.cell flatY hown4 k 0 ((OL ++ List.replicate (many - k) 0)[k]'(by rw [hll]; exact hlt)) (by simp) (by decide)
        rw [Nat.mul_one, Nat.add_zero] at this
        exact ⟨_, this⟩
      obtain ⟨u0, cx⟩ := hcx
      have fx := hown4.free k
      have hpn := HP2.out
      have hown5 := OwnS.set1 flatY hown4 k (UInt8.ofNat PN.2) (.int .u8 PN.2) (by unfold fY; rw [show (UInt8.ofNat PN.2).toNat = PN.2 by simp; omega]) (by rw [hll]; exact hlt)
      have e1 : (OL ++ List.replicate (many - k) 0).set k (UInt8.ofNat PN.2) = OL ++ [UInt8.ofNat PN.2] ++ List.replicate (many - (k + 1)) 0 := by
        rw [List.set_append_right _ _ (by rw [HOL.out]; omega), HOL.out, Nat.sub_self]
        obtain ⟨m, hm⟩ : ∃ m, many - k = m + 1 := ⟨many - k - 1, by omega⟩
        rw [hm, show many - (k + 1) = m by omega, List.replicate_succ]
        simp
      rw [e1, ← HS.out] at hown5
      have ht5 := ht4.below ((Below.refl go w4).setCell (p := ⟨go, k, none⟩) (Nat.le_refl _) (.int .u8 PN.2)) hBgo hgm2 hgc2
      have hbs1 : w.heap.size ≤ wr.heap.size := HB1.out.size
      have hb5 := (HB1.out.trans (hk4.below (B := w.heap.size) (fun j hj => ⟨Nat.lt_of_lt_of_le hj hbs1, fun e => by have e' : j = gd ∨ j = gc ∨ j = gm := e; omega⟩))).setCell (p := ⟨go, k, none⟩) hwgo (.int .u8 PN.2)
      have HT5 := Lib.hid ht5; have HO5 := Lib.hid hown5; have HB5 := Lib.hid hb5
      clear ht4 hk4 hown4 e1 hll ht5 hown5 hb5
      go_wp2_with fail
      go_roundw
      case rel => exact ⟨k + 1, by omega, by go_num, by rw [HPN.out]; exact HT5.out, HO5.out, HB5.out⟩
      case measure => simp [intOf]; omega
    · obtain rfl : k = many := by omega
      rw [Nat.sub_self, List.replicate_zero, List.append_nil] at hown
      have hcv := hown.conv
      have HB1 := Lib.hid hb
      clear ht hown hb
      go_wp2_with fail
      go_ret2
      exact ⟨rfl, HB1.out⟩
end Go.Proofs.Ytkdkedgpchcfpaa
