/- Layer 48: Turn. -/
import Derived.Test.YtpkidedepcnoaaaY1
import Derived.Test.YtpkidedepcnoaaaBv
namespace Go.Proofs.Ytpkidedepcnoaaa
open Go.ChangeShapes Go.WideShapes Go.ChangeAt Go.RowKit
set_option linter.unusedVariables false
set_option linter.unusedSimpArgs false
set_option maxRecDepth 100000
theorem cPlace (a : List Nat) (va : Option Addr) (vc n row : Nat) (w : World) (hi : IsInts w va (nI a)) (hl : a.length = n) (hr : row ≤ n) (hn : n ≤ 100000) :
    Calls Try.prog 43 #[.agg #[.int .i64 n, .slice va n vc], .int .i64 row] w fun e w' => e = .returned (.int .i64 (Pr a n row)) ∧ Below w.heap.size w w' := by
  by_cases h0 : row = 0
  · have e : Pr a n row = n := if_pos h0
    rw [e]
    subst h0
    go_enter Try.func43, Try.ntmps43
    go_wp2_with fail
    go_ret
    exact ⟨rfl, (Below.refl _ _).alloc (Nat.le_refl _) _⟩
  · obtain ⟨z, hz⟩ : ∃ z, row - 1 = z := ⟨_, rfl⟩
    have e : Pr a n row = a.getD z 0 := by unfold Pr; rw [if_neg h0, hz]
    rw [e]
    obtain ⟨x, rfl, hxb, hc⟩ := hi.at z (by rw [nI_len]; omega)
    have cz := hc z (by rw [nI_len]; omega)
    have hg : (nI a).getD z 0 = ((a.getD z 0 : Nat) : Int) := mapN_getD a z (by omega)
    rw [hg] at cz
    have hzi : (row : Int) - 1 = (z : Int) := by omega
    have hzn : (z : Int) < n := by omega
    have hr0 : ((row : Int) == 0) = false := by rw [beq_eq_false_iff_ne]; omega
    have cz2 := Go.Lib.cell?_alloc_some (.cells #[.int .i64 n, .slice (some x) n vc] 66) cz
    have hxb2 : x.block < (w.alloc (.cells #[.int .i64 n, .slice (some x) n vc] 66)).heap.size := by simp; omega
    clear hc hg e hz
    go_enter Try.func43, Try.ntmps43
    go_wp2_with fail
    go_ret
    exact ⟨rfl, (Below.refl _ _).alloc (Nat.le_refl _) _⟩
def fY (b : UInt8) : List Value := [.int .u8 (b.toNat : Int)]
theorem flatY : Flat fY 1 := fun x => ⟨rfl, by intro u hu; simp [fY] at hu; subst hu; rfl⟩
theorem info_u8 : (Try.prog.info? 5).map (fun i => (i.zero, i.size, i.bytes)) = some (some (.int .u8 0), 1, 1) := by kernel_rfl
abbrev OwnY (B : Nat) (w : World) (v : Value) (l : List UInt8) : Prop := OwnS fY 5 1 B w v l
theorem app_u8 {X : World} {ops : Array Oper} {rest : List Oper} {o : Oper} {a : Act} {Q : Exit → Act → World → Prop} (hgd : o.guard = none) (s xo : Operand)
    (ho : o.op = .call { callee := .builtin .append, args := #[s, xo], argTypes := #[67, 67] })
    (B T : Nat) (v : Value) (l : List UInt8) (x : UInt8) (hs : a.eval s = v) (hown : OwnY B X v l) (g c1 : Nat) (hg : X.heap.size = g) (hx : a.eval xo = .slice (some ⟨g, 0, none⟩) 1 c1) (hl : l.length ≤ 1099511627776) (hB : B ≤ X.heap.size)
    (h : ∀ v' w', OwnY B w' v' (l ++ [x]) → Below B X w' → X.grownBy w' v.ownBlock → wpList Try.prog ops Q rest (a.put o.dst v') w') : wpList Try.prog ops Q (o :: rest) a (X.alloc (.cells #[.int .u8 (x.toNat : Int)] T)) :=
  app_one (f := fY) info_u8 rfl (by decide) (by decide) Try.underlying67 flatY hgd s xo ho B T v l x hs hown g c1 hg hx hl hB h
theorem outF_len (L : List UInt8) (a : List Nat) : ∀ r, (outF L a r).length ≤ r
  | 0 => Nat.le_refl _
  | r + 1 => by have := outF_len L a r; rw [outF, List.length_append]; split <;> simp <;> omega
theorem cells8_fY (l : List UInt8) : l.flatMap fY = cells8 l := by
  induction l with
  | nil => rfl
  | cons b l ih => rw [List.flatMap_cons, ih]; rfl
theorem OwnS.convY {B : Nat} {w : World} {v : Value} {l : List UInt8} (h : OwnY B w v l) : (convert 67 9 v).run Try.prog w = .ok (.string (sM l)) w := by
  have h' : w.ownsRow B 5 1 v l.length (cells8 l) := by rw [← cells8_fY]; exact h
  exact conv_own8 Try.underlying67 Try.underlying5 Try.underlying9 h'
theorem mk_cap1 (ST E : TypeId) (z : Value) (bytes : Nat) (hST : Try.prog.underlying ST = some (.slice E)) (hE : (Try.prog.info? E).map (fun i => (i.zero, i.size, i.bytes)) = some (some z, 1, bytes)) (hby : bytes ≤ 8) (L : Nat) (hL : L ≤ 1000000) :
    ∃ ROW : Array Value, ROW.size = L ∧ ∀ w : World, (Instr.makeSlice ST (.int .i64 0) (.int .i64 (L : Int))).run Try.prog w = .ok (.slice (some ⟨w.heap.size, 0, none⟩) 0 L) (w.alloc (.cells ROW E)) := by
  obtain ⟨i, hi, hz, hs, hb⟩ := info_get hE
  refine ⟨madeCells z.cells L, size_madeCells _ _, fun w => ?_⟩
  have := run_make (w := w) (P := Try.prog) ST E i z hST hi hz .i64 .i64 0 (L : Int) (by decide) (by omega) (by
    rw [hb]
    have : (bytes : Int) * (L : Int) ≤ 8 * (L : Int) := Int.mul_le_mul_of_nonneg_right (by omega) (by omega)
    omega) (by omega)
  rw [hs, show ((L : Int)).toNat = L by omega, Nat.mul_one] at this
  exact this
theorem own_capY {w : World} {g cap B : Nat} {E : TypeId} {ROW : Array Value} (h : w.heap[g]? = some (.cells ROW E (0, 0))) (hB : B ≤ g) (hs : ROW.size = cap) (hc : cap ≤ 1000000000) : w.ownsRow B E 1 (.slice (some ⟨g, 0, none⟩) 0 cap) 0 [] := by
  refine ⟨rfl, .inr ⟨g, cap, ROW, rfl, hB, h, Nat.zero_le _, by unfold maxLen; omega, by omega, by simp⟩⟩
set_option maxHeartbeats 3200000 in
theorem cTurn2 (L : List UInt8) (a : List Nat) (va : Option Addr) (vc n : Nat) (w : World) (hi : IsInts w va (nI a)) (hs : IsSuf L a) (hn : L.length = n) (hL : n ≤ 10000) :
    Calls Try.prog 42 #[.string (sM L), .func (Fn.func 43) #[.agg #[.int .i64 n, .slice va n vc]] #[]] w fun e w' => e = .returned (.tuple #[.string (sM (outF L a (n + 1))), .int .i64 (atF L a (n + 1))]) ∧ Below w.heap.size w w' := by
  have hS : (sM L).size = n := by rw [sM_size, hn]
  obtain ⟨ROW, hROW, mk1⟩ := mk_cap1 67 5 (.int .u8 0) 1 Try.underlying67 info_u8 (by decide) n (by omega)
  have HI := Lib.hid hi
  have HS := Lib.hid hs
  have HN := Lib.hid hn
  have CP := Lib.hid (fun W r (hW : IsInts W va (nI a)) (hr : r ≤ n) => cPlace a va vc n r W hW (by rw [hs.len, hn]) hr (by omega))
  have hwn : IntKind.i64.wrap ((n : Int) + 1) = (n : Int) + 1 := IntWalk.i64_in _ (by omega)
  clear hi hs hn
  go_enter Try.func42, Try.ntmps42
  go_wp2_with fail
  have HO := Lib.hid (show OwnY w.heap.size (w.alloc (.cells ROW 5)) (.slice (some ⟨w.heap.size, 0, none⟩) 0 n) [] from own_capY (heap_alloc_new w _) (Nat.le_refl _) hROW (by omega))
  have HB := Lib.hid ((Below.refl w.heap.size w).alloc (Nat.le_refl _) (.cells ROW 5))
  generalize w.alloc (.cells ROW 5) = w1 at *
  go_loopw [6, 7, 16] (fun av ov rv wr => ∃ r : Nat, r ≤ n + 1 ∧ rv = .int .i64 r ∧ av = .int .i64 (atF L a r : Nat) ∧ Hid (OwnY w.heap.size wr ov (outF L a r)) ∧ Hid (Below w.heap.size w wr)) (fun _ _ rv _ => n + 1 - (intOf rv).toNat)
  case atStart => exact ⟨0, Nat.zero_le _, rfl, rfl, HO, HB⟩
  case round =>
    clear HO HB
    obtain ⟨r, hr, rfl, rfl, HO, HB⟩ := hrel
    obtain ⟨oa, oc, rfl⟩ := HO.out.slice
    by_cases hlt : r < n + 1
    · have hri : (r : Int) < (n : Int) + 1 := by omega
      have CP1 := Lib.hid (CP.out wr r (HI.out.kept HB.out) (by omega))
      have hst1 : outF L a (r + 1) = outF L a r ++ if 0 < Pr a n r then [L.getD (Pr a n r - 1) 0] else [] := by rw [outF, HN.out]
      have hst2 : atF L a (r + 1) = if 0 < Pr a n r then atF L a r else r := by rw [atF, HN.out]
      have hpn := (Pr_in HS.out r (by rw [HN.out]; omega)).1
      rw [HN.out] at hpn
      have hol := outF_len L a r
      obtain ⟨p, hp⟩ : ∃ p, Pr a n r = p := ⟨_, rfl⟩
      rw [hp] at CP1 hst1 hst2 hpn
      obtain ⟨O, hO⟩ : ∃ O, outF L a r = O := ⟨_, rfl⟩
      obtain ⟨T, hT⟩ : ∃ T, atF L a r = T := ⟨_, rfl⟩
      rw [hO] at HO hst1 hol ⊢
      rw [hT] at hst2 ⊢
      clear hp hO hT
      go_wp2_with fail
      refine CP1.out.mono ?_; rintro e w2 ⟨rfl, hb2⟩
      have HO := Lib.hid (HO.out.kept hb2)
      have HB := Lib.hid (HB.out.trans (hb2.mono HB.out.size))
      clear hb2 CP1
      by_cases hp0 : 0 < p
      · have hpi : (0 : Int) < p := by omega
        rw [if_pos hp0] at hst1 hst2
        obtain ⟨z, hz⟩ : ∃ z, p - 1 = z := ⟨_, rfl⟩
        rw [hz] at hst1
        have hzi : (p : Int) - 1 = (z : Int) := by omega
        have x1 := ixM L (z : Int) z rfl (by have := HN.out; omega)
        obtain ⟨Y, hY⟩ : ∃ Y, L.getD z 0 = Y := ⟨_, rfl⟩
        rw [hY] at x1 hst1
        have hzn : (z : Int) < n := by omega
        have H1 := Lib.hid hst1
        have H2 := Lib.hid hst2
        have HLn := Lib.hid (show O.length ≤ 1099511627776 by omega)
        have HBs := Lib.hid (show w.heap.size ≤ w2.heap.size from HB.out.size)
        clear hst1 hst2 hY hz hp0
        go_wp2_with (at_builtin; refine app_u8 rfl _ _ rfl w.heap.size _ (.slice oa O.length oc) O Y rfl HO.out w2.heap.size 1 rfl rfl HLn.out HBs.out ?_; intro v5 w5 ho5 hb5 hg5)
        have HO5 := Lib.hid ho5
        have HB5 := Lib.hid (HB.out.trans hb5)
        clear ho5 hb5 hg5 HO HB
        go_wp2_with fail
        go_roundw
        case rel => exact ⟨r + 1, by omega, by go_num, by rw [H2.out], by rw [H1.out]; exact HO5, HB5⟩
        case measure => simp [intOf] <;> omega
      · have hpi : ¬ (0 : Int) < p := by omega
        rw [if_neg hp0] at hst1 hst2
        rw [List.append_nil] at hst1
        have H1 := Lib.hid hst1
        have H2 := Lib.hid hst2
        clear hst1 hst2 hp0
        go_wp2_with fail
        go_roundw
        case rel => exact ⟨r + 1, by omega, by go_num, by rw [H2.out], by rw [H1.out]; exact HO, HB⟩
        case measure => simp [intOf] <;> omega
    · obtain rfl : r = n + 1 := by omega
      have hri : ¬ ((n + 1 : Nat) : Int) < (n : Int) + 1 := by omega
      have hcv := HO.out.convY
      obtain ⟨O, hO⟩ : ∃ O, outF L a (n + 1) = O := ⟨_, rfl⟩
      rw [hO] at hcv ⊢
      have HOO := Lib.hid hO
      clear hO
      go_wp2_with fail
      go_ret2
      exact ⟨by rw [HOO.out]; rfl, HB.out⟩
set_option maxHeartbeats 3200000 in
theorem cTurnB (L : List UInt8) (w : World) (hL : L.length ≤ 10000) :
    Calls Try.prog 29 #[.string (sM L)] w fun e w' => ∃ (a : List Nat) (at_ : Nat), e = .returned (.tuple #[.string (sM (tB L a at_)), .int .i64 at_]) ∧ IsSuf L a ∧ at_ ≤ L.length ∧ Pr a L.length at_ = 0 ∧ Below w.heap.size w w' := by
  have hS : (sM L).size = L.length := sM_size L
  have CS := Lib.hid (fun W => sortV L W hL)
  have C2 := Lib.hid (fun a va vc W (hi : IsInts W va (nI a)) (hs : IsSuf L a) => cTurn2 L a va vc L.length W hi hs rfl hL)
  go_enter Try.func29, Try.ntmps29
  go_wp2_with fail
  refine (CS.out _).mono ?_; rintro e w1 ⟨v, a, rfl, hs, hv, hb⟩
  obtain ⟨va, vc, rfl, hi⟩ := hv
  rw [show (nI a).length = L.length by rw [nI_len, hs.len]]
  have HI := Lib.hid hi
  have HS := Lib.hid hs
  have HB := Lib.hid hb
  clear hi hs hb CS
  go_wp2_with fail
  refine (C2.out a va vc _ HI.out HS.out).mono ?_; rintro e w2 ⟨rfl, hb2⟩
  obtain ⟨at_, hat, h0⟩ := Pr_all HS.out 0 (Nat.zero_le _)
  obtain ⟨e1, e2⟩ := turned_out HS.out at_ hat h0
  rw [e1, e2]
  have HX := Lib.hid (And.intro hat h0)
  have HB2 := Lib.hid (HB.out.trans (hb2.mono HB.out.size))
  clear e1 e2 hat h0 hb2 C2
  go_wp2_with fail
  go_ret2
  exact ⟨a, at_, rfl, HS.out, HX.out.1, HX.out.2, HB2.out⟩
end Go.Proofs.Ytpkidedepcnoaaa
