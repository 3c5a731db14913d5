import Derived.Test.YtedmnlfbmmlcbaaJ08
import Derived.Deep.RegionWith
import Derived.Deep.CutRange
import Derived.RegionCalls
/- Layer 46: a number out of a decoder. -/
namespace Go.Proofs.Ytedmnlfbmmlcbaa
open Go.ChangeShapes Go.WideShapes Go.ChangeAt Go.RowKit
set_option linter.unusedVariables false
set_option maxRecDepth 100000
open Range
/-- What a tree and its decoder are behind so many bits. -/
structure TS where
  d : Dec
  ch : List Int
  r : Nat
def stepT (s : TS) : TS :=
  ⟨stepD s.d (s.ch.getD s.r 0), s.ch.set s.r (updB (s.ch.getD s.r 0).toNat (bitD s.d (s.ch.getD s.r 0)) : Nat), 2 * s.r + if bitD s.d (s.ch.getD s.r 0) then 1 else 0⟩
def stepsT (s : TS) : Nat → TS
  | 0 => s
  | j + 1 => stepT (stepsT s j)
def FineT (s : TS) (n j : Nat) : Prop := Fine s.d ∧ s.ch.length = 2 ^ n ∧ (∀ z ∈ s.ch, 1 ≤ z ∧ z ≤ 2047) ∧ 2 ^ j ≤ s.r ∧ s.r < 2 ^ (j + 1)
theorem fineT_at {s : TS} {n j : Nat} (h : FineT s n j) (hj : j < n) : s.r < s.ch.length ∧ ∃ Z : Nat, s.ch.getD s.r 0 = Z ∧ 1 ≤ Z ∧ Z ≤ 2047 := by
  obtain ⟨h1, h2, h3, h4, h5⟩ := h
  have hp : 2 ^ (j + 1) ≤ 2 ^ n := Nat.pow_le_pow_right (by decide) hj
  have hr : s.r < s.ch.length := by omega
  have hz := h3 (s.ch.getD s.r 0) (by simp [List.getD_eq_getElem?_getD, hr])
  exact ⟨hr, (s.ch.getD s.r 0).toNat, by omega, by omega, by omega⟩
theorem fineT_step {s : TS} {n j : Nat} (h : FineT s n j) (hj : j < n) : FineT (stepT s) n (j + 1) := by
  obtain ⟨hr, Z, hZ, hz1, hz2⟩ := fineT_at h hj
  obtain ⟨h1, h2, h3, h4, h5⟩ := h
  unfold stepT
  rw [hZ]
  refine ⟨stepD_fine h1 _, by simpa using h2, ?_, ?_, ?_⟩
  · intro z hz
    rcases List.mem_or_eq_of_mem_set hz with hz | hz
    · exact h3 z hz
    · have := updB_ok (p := Z) ⟨hz1, hz2⟩ (bitD s.d (Z : Int))
      rw [hz, Int.toNat_natCast]; omega
  · simp only [Nat.pow_succ] at *; split <;> omega
  · simp only [Nat.pow_succ] at *; split <;> omega
theorem fineT_steps {s : TS} {n : Nat} (h : FineT s n 0) : ∀ j, j ≤ n → FineT (stepsT s j) n j
  | 0, _ => h
  | j + 1, hj => fineT_step (fineT_steps h j (by omega)) (by omega)
abbrev askV (bx : Nat) : Value := .func (Fn.func 63) #[] #[.pointer (some ⟨bx, 0, none⟩)]
/-- A tree that asks a decoder. -/
def IsTreeB (w : World) (B g b n : Nat) (ch : List Int) (ask : Value) : Prop :=
  w.heap[g]? = some (.cells #[.slice (some ⟨b, 0, none⟩) ch.length ch.length, .int .i64 n, ask] 59 (0, 0)) ∧ OwnI B w (.slice (some ⟨b, 0, none⟩) ch.length ch.length) ch ∧ b ≠ g
def TDec (w : World) (B gt gb gd bx n : Nat) (s : TS) : Prop :=
  IsTreeB w B gt gb n s.ch (askV bx) ∧ IsDec w gd s.d ∧ w.heap[bx]? = some (.cells #[.pointer (some ⟨gd, 0, none⟩)] 92 (0, 0)) ∧ gd < B ∧ bx < B ∧ gd ≠ bx ∧ B ≤ gt
theorem TDec.asked {w w' : World} {B gt gb gd bx n : Nat} {s : TS} {d : Dec} (h : TDec w B gt gb gd bx n s) (hd : IsDec w' gd d) (hk : Keeps (fun k => k = gd) w w') : TDec w' B gt gb gd bx n ⟨d, s.ch, s.r⟩ := by
  obtain ⟨⟨h1, h2, h3⟩, h4, h5, h6, h7, h8, h9⟩ := h
  refine ⟨⟨hk.heap h1 (by show ¬ gt = gd; omega), hk.ownsRow h2 (fun k hkk e => ?_), h3⟩, hd, hk.heap h5 (fun e => h8 (show bx = gd from e).symm), h6, h7, h8, h9⟩
  have e' : k = gd := e
  have := (World.ownsRow.lt h2 k hkk).1
  omega
theorem TDec.stored {w : World} {B gt gb gd bx n : Nat} {s : TS} (h : TDec w B gt gb gd bx n s) (hr : s.r < s.ch.length) (z : Int) :
    TDec (w.setCell ⟨gb, s.r, none⟩ (.int .i64 z)) B gt gb gd bx n ⟨s.d, s.ch.set s.r z, s.r⟩ := by
  obtain ⟨⟨h1, h2, h3⟩, h4, h5, h6, h7, h8, h9⟩ := h
  have hbB : B ≤ gb := (World.ownsRow.lt h2 gb rfl).1
  refine ⟨⟨?_, ?_, h3⟩, h4.kept (B := B) ((Below.refl _ _).setCell (p := ⟨gb, s.r, none⟩) hbB _) h6, ?_, h6, h7, h8, h9⟩
  · simp only [List.length_set]
    exact (Below.heap_setCell _ _ _ _ (fun e => h3 e.symm)).trans h1
  · have := OwnS.set_int h2 s.r z hr
    simp only [List.length_set]
    exact this
  · exact (Below.heap_setCell _ _ _ _ (by show bx ≠ gb; omega)).trans h5
theorem TDec.row {w : World} {B gt gb gd bx n : Nat} {d : Dec} {ch : List Int} {r : Nat} (h : TDec w B gt gb gd bx n ⟨d, ch, r⟩) (r' : Nat) : TDec w B gt gb gd bx n ⟨d, ch, r'⟩ := h
set_option maxHeartbeats 3200000 in
theorem tNumD (w : World) (B gt gb gd bx n : Nat) (s : TS) (hn : n ≤ 9) (h : TDec w B gt gb gd bx n s) (hf : FineT s n 0) (h1 : s.r = 1) :
    Calls Try.prog 32 #[.pointer (some ⟨gt, 0, none⟩)] w fun e w' => e = .returned (.int .i64 (((stepsT s n).r : Int) - (2 ^ n : Nat))) ∧ TDec w' B gt gb gd bx n (stepsT s n) ∧ Keeps (fun k => k = gd ∨ k = gb) w w' := by
  have HF := Lib.hid (fineT_steps hf)
  have HT0 := Lib.hid h
  have c1 : w.cell? ⟨gt, 1, none⟩ = some (.int .i64 n) := by obtain ⟨⟨h1, h2, h3⟩, _⟩ := h; exact cell_lit h1 1 _ rfl
  have HR := Lib.hid h1
  clear h hf h1
  go_enter Try.func32, Try.ntmps32
  go_wp2_with fail
  go_loopw [3, 9] (fun r i wr => ∃ j : Nat, j ≤ n ∧ i = .int .i64 j ∧ r = .int .i64 ((stepsT s j).r : Nat) ∧ TDec wr B gt gb gd bx n (stepsT s j) ∧ Keeps (fun k => k = gd ∨ k = gb) w wr) (fun _ i _ => n - (intOf i).toNat)
  case atStart => exact ⟨0, Nat.zero_le _, rfl, by show _ = Value.int .i64 ((s.r : Nat) : Int); rw [HR.out]; rfl, HT0.out, Keeps.refl _ _⟩
  case round =>
    obtain ⟨j, hj, rfl, rfl, ht, hkk⟩ := hrel
    have HKK := Lib.hid hkk
    clear hkk
    by_cases hlt : j < n
    · obtain ⟨hr, Z, hZ, hz1, hz2⟩ := fineT_at (HF.out j hj) hlt
      have hfd := (HF.out j hj).1
      have HST := Lib.hid (show stepsT s (j + 1) = stepT (stepsT s j) from rfl)
      have HR0 : (stepsT s j).r ≤ 512 := by
        have h5 := (HF.out j hj).2.2.2.2
        have : 2 ^ (j + 1) ≤ 2 ^ 9 := Nat.pow_le_pow_right (by decide) (by omega)
        omega
      obtain ⟨T, hT⟩ : ∃ T, stepsT s j = T := ⟨_, rfl⟩
      rw [hT] at ht hr hZ hfd HST HR0 ⊢
      obtain ⟨⟨t1, t2, t3⟩, t4, t5, t6, t7, t8, t9⟩ := id ht
      have g0 := cell_lit t1 0 _ rfl
      have g2 := cell_lit t1 2 _ rfl
      have cr := OwnS.int_cell t2 T.r hr
      rw [hZ] at cr
      have CA := Lib.hid (fun W (h5 : W.heap[bx]? = some (.cells #[.pointer (some ⟨gd, 0, none⟩)] 92 (0, 0))) (h4 : IsDec W gd T.d) => tAskD W bx gd T.d Z h5 h4 hfd)
      have HT1 := Lib.hid ht
      clear t1 t2 t4 t5 hT ht
      obtain ⟨BT, hBT⟩ : ∃ BT, bitD T.d (Z : Int) = BT := ⟨_, rfl⟩
      rw [hBT] at CA
      have HST2 := Lib.hid (show stepT T = ⟨stepD T.d Z, T.ch.set T.r (updB Z BT : Nat), 2 * T.r + if BT then 1 else 0⟩ by unfold stepT; rw [hZ, hBT]; rfl)
      have hZ' := Lib.hid hZ
      have HR5 := Lib.hid (show T.r ≤ 512 from HR0)
      clear hBT hZ HR0
      go_wp2_with fail
      go_cut [4] from 11 to 46 (fun s4 wc => s4 = .bool BT ∧ TDec wc B gt gb gd bx n ⟨stepD T.d Z, T.ch, T.r⟩ ∧ Keeps (fun k => k = gd ∨ k = gb) w wc)
      case first =>
        go_region_with (go_at_call 63; refine (CA.out wr.drew (show wr.drew.heap[bx]? = _ from HT1.out.2.2.1) (show IsDec wr.drew gd T.d from HT1.out.2.1)).mono ?_; rintro e w5 ⟨rfl, hd5, hk5⟩)
        all_goals
          go_wp2_with fail
          go_meet
          case rel => exact ⟨rfl, HT1.out.asked hd5 ((Keeps.refl (fun k => k = gd) wr).drew.trans hk5), HKK.out.drew.trans' hk5 (fun k _ e => .inl e)⟩
      case rest =>
        obtain ⟨rfl, ht5, hk5⟩ := hcut
        have HK5 := Lib.hid hk5
        clear hk5
        clear cr g0 g2 CA HT1
        obtain ⟨⟨t1, t2, t3⟩, t4, t5, -⟩ := id ht5
        have g0 := cell_lit t1 0 _ rfl
        have cr := OwnS.int_cell t2 T.r hr
        simp only at g0 cr
        rw [hZ'.out] at cr
        have fr := t2.free T.r
        have HT5 := Lib.hid ht5
        have CU := Lib.hid (fun W => pUpdate Z ⟨hz1, hz2⟩ BT W)
        have HT6 := Lib.hid (ht5.stored hr (updB Z BT : Nat))
        clear t4 t5 ht5
        clear t1 t2
        have hr512 : T.r ≤ 512 := HR5.out
        go_wp2_with fail
        go_cut [] from 11 to 46 (fun wx => TDec wx B gt gb gd bx n ⟨stepD T.d Z, T.ch.set T.r (updB Z BT : Nat), T.r⟩ ∧ Keeps (fun k => k = gd ∨ k = gb) w wx)
        case first =>
          go_region_with (go_at_call 51; (with_reducible refine (CU.out _).mono ?_); rintro e w6 ⟨rfl, rfl⟩)
          all_goals
            go_wp2_with fail
            go_meet
            case rel => exact ⟨HT6.out, (HK5.out.setCell (p := ⟨gb, T.r, none⟩) (.inr (.inr rfl)) _).drew⟩
        case rest =>
          obtain ⟨hcut, hkx⟩ := hcut
          have HTX := Lib.hid hcut
          have HKX := Lib.hid hkx
          clear hkx
          have HSS := Lib.hid (HST.out.trans HST2.out)
          clear hcut g0 cr fr HT5 HT6 CU
          cases BT with
          | true =>
            go_wp2_with fail
            go_roundw
            case rel => exact ⟨j + 1, by omega, by go_num, by rw [HSS.out]; go_num, by rw [HSS.out]; exact HTX.out.row _, HKX.out⟩
            case measure => simp [intOf]; omega
          | false =>
            go_wp2_with fail
            go_roundw
            case rel => exact ⟨j + 1, by omega, by go_num, by rw [HSS.out]; go_num, by rw [HSS.out]; exact HTX.out.row _, HKX.out⟩
            case measure => simp [intOf]; omega
    · obtain rfl : j = n := by omega
      have HTT := Lib.hid ht
      have hf5 := (HF.out j hj).2.2.2
      have hp : 2 ^ (j + 1) ≤ 2 ^ 10 := Nat.pow_le_pow_right (by decide) (by omega)
      have hp1 : 2 ^ j ≤ 2 ^ 9 := Nat.pow_le_pow_right (by decide) (by omega)
      have HW := Lib.hid (show wrap64 ((2 : Int) ^ j) = ((2 ^ j : Nat) : Int) by
        have e1 : (2 : Int) ^ j = ((2 ^ j : Nat) : Int) := by simp
        rw [e1]; unfold wrap64; generalize 2 ^ j = q at *; omega)
      have HX := Lib.hid (show wrap64 (((stepsT s j).r : Int) - wrap64 ((2 : Int) ^ j)) = ((stepsT s j).r : Int) - ((2 ^ j : Nat) : Int) by
        rw [HW.out]
        have h5 := hf5.2
        unfold wrap64
        generalize (stepsT s j).r = q at *
        generalize 2 ^ j = p at *
        generalize 2 ^ (j + 1) = p2 at *
        omega)
      have c1' : wr.cell? ⟨gt, 1, none⟩ = some (.int .i64 j) := by obtain ⟨⟨h1, h2, h3⟩, _⟩ := ht; exact cell_lit h1 1 _ rfl
      clear ht hf5 hp hp1 c1
      go_wp2_with fail
      go_ret
      exact ⟨ret_i HX.out, HTT.out, HKK.out⟩
end Go.Proofs.Ytedmnlfbmmlcbaa
