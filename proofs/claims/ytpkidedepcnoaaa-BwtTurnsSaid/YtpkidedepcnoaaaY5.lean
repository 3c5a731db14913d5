/- Layer 48: Back. -/
import Derived.Test.YtpkidedepcnoaaaY4
namespace Go.Proofs.Ytpkidedepcnoaaa
open Go.ChangeShapes Go.WideShapes Go.ChangeAt Go.RowKit
set_option linter.unusedVariables false
set_option linter.unusedSimpArgs false
set_option maxRecDepth 100000
theorem make_u8 {X : World} {ops : Array Oper} {rest : List Oper} {o : Oper} {a : Act} {Q : Exit → Act → World → Prop} (hgd : o.guard = none) (lo co : Operand) (ho : o.op = .makeSlice 67 lo co)
    (kl kc : IntKind) (L C : Int) (n : Nat) (hlo : a.eval lo = .int kl L) (hco : a.eval co = .int kc C) (hL : L = (n : Int)) (hC : C = (n : Int)) (hn : n ≤ 1099511627776)
    (h : ∀ w', OwnY X.heap.size w' (.slice (some ⟨X.heap.size, 0, none⟩) n n) (List.replicate n 0) → Below X.heap.size X w' → X.heap.size < w'.heap.size → wpList Try.prog ops Q rest (a.put o.dst (.slice (some ⟨X.heap.size, 0, none⟩) n n)) w') : wpList Try.prog ops Q (o :: rest) a X :=
  make_full (f := fY) info_u8 (by decide) Try.underlying67 0 rfl flatY (by decide) hgd lo co ho kl kc L C n hlo hco hL hC hn h
theorem y_cell {B g n cap : Nat} {w : World} {l : List UInt8} (h : OwnY B w (.slice (some ⟨g, 0, none⟩) n cap) l) (i : Nat) (hi : i < l.length) : w.cell? ⟨g, i, none⟩ = some (.int .u8 ((l.getD i 0).toNat : Nat)) := by
  have := h.cell flatY i 0 l[i] (by simp [hi]) (by decide)
  rw [Nat.mul_one, Nat.add_zero] at this
  rw [this]
  simp [fY, List.getD_eq_getElem?_getD, hi]
theorem drop_put (o : List UInt8) (k : Nat) (b : UInt8) (h : k < o.length) : (o.set k b).drop k = b :: o.drop (k + 1) := by
  rw [List.drop_eq_getElem_cons (by rw [List.length_set]; exact h)]
  simp [List.drop_set]
theorem ahd_le (T : List UInt8) (at_ row : Nat) (hr : row ≤ T.length) (ha : at_ ≤ T.length) (hne : row ≠ at_) : ahd T at_ row ≤ T.length := by
  have hp := posn_lt (byteAt T) (List.range T.length) (sOfB at_ row) (by rw [List.length_range]; unfold sOfB; split <;> omega)
  rw [List.length_range] at hp
  unfold ahd; omega
def resB : Option (List UInt8) → Value
  | some S => .tuple #[.string (sM S), .int .i64 0]
  | none => .tuple #[.string ⟨#[]⟩, .int .i64 4]
set_option maxHeartbeats 3200000 in
theorem cBackB (T : List UInt8) (at_ : Nat) (w : World) (hT : T.length ≤ 10000) (ha : at_ ≤ T.length) (ha1 : 1 ≤ at_) (R : Option (List UInt8)) (hR : bk T at_ T.length 0 [] = R) :
    Calls Try.prog 31 #[.string (sM T), .int .i64 at_] w fun e w' => e = .returned (resB R) ∧ Below w.heap.size w w' := by
  obtain ⟨n, hn⟩ : ∃ n, T.length = n := ⟨_, rfl⟩
  have hS : (sM T).size = n := by rw [sM_size, hn]
  have CA := Lib.hid (fun W => cAhead T at_ W hT ha)
  have CB := Lib.hid (fun r W (hr : r ≤ T.length) (hne : r ≠ at_) => cByteOf T at_ r W (by omega) hr ha hne)
  have HR := Lib.hid hR
  have HAL := Lib.hid (fun r (hr : r ≤ T.length) (hne : r ≠ at_) => ahd_le T at_ r hr ha hne)
  have HN := Lib.hid hn
  rw [hn] at CA CB HR HAL hT ha
  have d1 : decide ((at_ : Int) < 0) = false := decide_eq_false (by omega)
  have d2 : decide ((n : Int) < at_) = false := decide_eq_false (by omega)
  have d3 : decide (n < at_) = false := decide_eq_false (by omega)
  have d4 : ((at_ : Int) == 0) = false := by rw [beq_eq_false_iff_ne]; omega
  clear hn hR
  go_enter Try.func31, Try.ntmps31
  go_wp2_with fail
  refine (CA.out _).mono ?_; rintro e w1 ⟨g, ah, rfl, ho, hol, hah, hb⟩
  have HA := Lib.hid ho
  have HOL := Lib.hid hol
  have HAH := Lib.hid hah
  have HB := Lib.hid hb
  clear ho hol hah hb CA
  go_wp2_with (refine make_u8 rfl _ _ rfl .i64 .i64 (n : Int) (n : Int) n rfl rfl rfl rfl (by omega) ?_; intro w2 ho2 hb2 hs2)
  obtain ⟨gm, hgm⟩ : ∃ g, w1.heap.size = g := ⟨_, rfl⟩
  have hgg := block_lt HA.out
  have HM := Lib.hid ho2
  have HA := Lib.hid (HA.out.kept hb2)
  have hz := HB.out.size
  have HB := Lib.hid (HB.out.trans (hb2.mono HB.out.size))
  rw [hgm] at HM hgg hz ⊢
  clear ho2 hb2 hs2 hgm d1 d2 d3 d4
  go_loopw [8, 9] (fun rv kv wr => ∃ (d row : Nat) (acc o : List UInt8), d ≤ n ∧ row ≤ n ∧ rv = .int .i64 row ∧ kv = .int .i64 ((n : Int) - 1 - d) ∧ Hid (o.length = n ∧ o.drop (n - d) = acc ∧ bk T at_ (n - d) row acc = R) ∧ Hid (OwnY gm wr (.slice (some ⟨gm, 0, none⟩) n n) o) ∧ Hid (IsN wr g ah) ∧ Hid (Below w.heap.size w wr)) (fun _ kv _ => (intOf kv + 1).toNat)
  case atStart => exact ⟨0, 0, [], _, Nat.zero_le _, Nat.zero_le _, rfl, by go_num, Lib.hid ⟨List.length_replicate, by rw [Nat.sub_zero]; exact List.drop_eq_nil_of_le (by rw [List.length_replicate]; exact Nat.le_refl _), HR.out⟩, HM, HA, HB⟩
  case round =>
    clear HM HA HB
    obtain ⟨d, row, acc, o, hd, hrow, rfl, rfl, HT, HM, HA, HB⟩ := hrel
    by_cases hdn : d < n
    · obtain ⟨k, hk⟩ : ∃ k, n - 1 - d = k := ⟨_, rfl⟩
      have hki : (n : Int) - 1 - d = (k : Int) := by omega
      rw [hki]
      have hkn : (k : Int) < n := by omega
      have hk0 : (0 : Int) ≤ (k : Int) := by omega
      have hnd : n - d = k + 1 := by omega
      by_cases he : row = at_
      · have e1 : ((row : Int) == (at_ : Int)) = true := by rw [beq_iff_eq]; omega
        have HE := Lib.hid (show resB R = .tuple #[.string ⟨#[]⟩, .int .i64 4] by
          have := HT.out.2.2
          rw [hnd, bk, if_pos he] at this
          rw [← this]; rfl)
        clear hki hk he
        go_wp2_with fail
        go_ret2
        exact ⟨by rw [HE.out]; rfl, HB.out⟩
      · have e1 : ((row : Int) == (at_ : Int)) = false := by rw [beq_eq_false_iff_ne]; omega
        have hst : bk T at_ k (ahd T at_ row) (T.getD (sOfB at_ row) 0 :: acc) = R := by
          have := HT.out.2.2
          rwa [hnd, bk, if_neg he] at this
        have hal := HAL.out row hrow he
        have hah := HAH.out row (by first | exact hrow | (rw [HN.out]; exact hrow)) he
        obtain ⟨A, hA⟩ : ∃ A, ahd T at_ row = A := ⟨_, rfl⟩
        rw [hA] at hst hal hah
        have CB1 := Lib.hid (fun W => CB.out row W hrow he)
        have hbb : (byteAt T (sOfB at_ row) : Nat) = (T.getD (sOfB at_ row) 0).toNat := rfl
        rw [hbb] at CB1
        obtain ⟨Y, hY⟩ : ∃ Y, T.getD (sOfB at_ row) 0 = Y := ⟨_, rfl⟩
        rw [hY] at CB1 hst
        have HT2 := Lib.hid (show (o.set k Y).length = n ∧ (o.set k Y).drop (n - (d + 1)) = Y :: acc ∧ bk T at_ (n - (d + 1)) A (Y :: acc) = R from ⟨by rw [List.length_set]; exact HT.out.1, by
          rw [show n - (d + 1) = k by omega, drop_put o k Y (by rw [HT.out.1]; omega), ← hnd, HT.out.2.1], by rw [show n - (d + 1) = k by omega]; exact hst⟩)
        have HK := Lib.hid hki
        have HAH2 := Lib.hid hah
        have hAn : (A : Int) ≤ n := by omega
        have hrl : (row : Int) < (n : Int) + 1 := by omega
        clear hst hA hY hbb hki hk hah he
        go_wp2_with fail
        refine (CB1.out _).mono ?_; rintro e w5 ⟨rfl, kq, rfl⟩
        have HM := Lib.hid (HM.out.drewN kq)
        have HA := Lib.hid (HA.out.drewN kq)
        have HB := Lib.hid (below_dn HB.out kq)
        clear CB1
        generalize wr.drewN kq = w6 at *
        have cm := y_cell HM.out k (by rw [HT.out.1]; omega)
        have fm := HM.out.free k
        have lm := (HM.out.lt _ rfl).2
        have ca := HA.out.cell row (by have h1 := HOL.out; have h2 := HN.out; omega)
        rw [HAH2.out] at ca
        have la := block_lt HA.out
        have hne : gm ≠ g := by omega
        have hne2 : g ≠ gm := by omega
        have HM2 := Lib.hid (HM.out.set1 flatY k Y (.int .u8 (Y.toNat : Int)) rfl (by rw [HT.out.1]; omega))
        have HA2 := Lib.hid (HA.out.away (k := gm) (j := k) (u := .int .u8 (Y.toNat : Int)) hne2)
        have HB2 := Lib.hid (HB.out.setCell (p := ⟨gm, k, none⟩) hz (.int .u8 (Y.toNat : Int)))
        go_wp2_with fail
        go_roundw
        case rel => exact ⟨d + 1, A, _, _, by omega, by omega, rfl, by have := HK.out; go_num, HT2, HM2, HA2, HB2⟩
        case measure => simp [intOf] <;> omega
    · obtain rfl : d = n := by omega
      have hki : (d : Int) - 1 - d = -1 := by omega
      rw [hki]
      have e : o = acc := by have := HT.out.2.1; rwa [Nat.sub_self, List.drop_zero] at this
      have HE := Lib.hid (show resB R = .tuple #[.string (sM o), .int .i64 0] by
        have := HT.out.2.2
        rw [Nat.sub_self, bk, ← e] at this
        rw [← this]; rfl)
      have hcv := HM.out.convY
      clear e
      go_wp2_with fail
      go_ret2
      exact ⟨by rw [HE.out]; rfl, HB.out⟩
end Go.Proofs.Ytpkidedepcnoaaa
