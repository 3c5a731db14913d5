/- Layer 48: BwtBack's walk. -/
import Derived.Test.YtpkidedepcnoaaaY7
namespace Go.Proofs.Ytpkidedepcnoaaa
open Go.ChangeShapes Go.WideShapes Go.ChangeAt Go.RowKit
set_option linter.unusedVariables false
set_option linter.unusedSimpArgs false
set_option maxRecDepth 100000
set_option maxHeartbeats 3200000 in
theorem back_any (L : List UInt8) (a : List Nat) (at_ : Nat) (hs : IsSuf L a) (ha : at_ ≤ L.length) (h0 : Pr a L.length at_ = 0) (hL : L.length ≤ 10000) (w : World) :
    Calls Try.prog 31 #[.string (sM (tB L a at_)), .int .i64 at_] w fun e w' => e = .returned (.tuple #[.string (sM L), .int .i64 0]) ∧ Below w.heap.size w w' := by
  have hl := tB_len L a at_
  by_cases hz : at_ = 0
  · subst hz
    by_cases hn : L = []
    · subst hn
      rw [List.eq_nil_of_length_eq_zero hl]
      exact cBackNil w
    · exfalso
      have : 0 < L.length := List.length_pos_iff.2 hn
      unfold Pr at h0
      rw [if_pos rfl] at h0
      omega
  · have := cBackB (tB L a at_) at_ w (by omega) (by omega) (by omega) (some L) (by
      have := bk_ok hs at_ ha h0 L.length 0 (Nat.le_refl _) (Nat.zero_le _) rfl
      rw [hl]
      rwa [List.drop_length] at this)
    exact this
set_option maxHeartbeats 3200000 in
theorem bwt_walk (L : List UInt8) (w : World) (hL : L.length ≤ 1000) :
    Calls Try.prog 11 #[.string (sM L)] w fun e w' => e = .returned (.bool true) ∧ Below w.heap.size w w' := by
  have hS : (sM L).size = L.length := sM_size L
  have CT := Lib.hid (fun W => cTurnB L W (by omega))
  have CB := Lib.hid (fun a at_ W hs ha h0 => back_any L a at_ hs ha h0 (by omega) W)
  have hti : ¬ (1000 : Int) < L.length := by omega
  go_enter Try.func11, Try.ntmps11
  go_wp2_with fail
  refine (CT.out _).mono ?_; rintro e w1 ⟨a, at_, rfl, hs, ha, h0, hb⟩
  have HB := Lib.hid hb
  have HTP := Lib.hid (tB_perm hs at_ ha h0)
  have hTl := tB_len L a at_
  have CB1 := Lib.hid (fun W => CB.out a at_ W hs ha h0)
  obtain ⟨T, hT⟩ : ∃ T, tB L a at_ = T := ⟨_, rfl⟩
  rw [hT] at HTP hTl CB1
  rw [hT]
  clear hT hb CT CB hs h0
  have hST : (sM T).size = L.length := by rw [sM_size, hTl]
  go_wp2_with fail
  refine (CB1.out _).mono ?_; rintro e w2 ⟨rfl, hb2⟩
  have HB := Lib.hid (HB.out.trans (hb2.mono HB.out.size))
  clear hb2 CB1
  go_wp2_with fail
  have HZ := Lib.hid (show IsZ (w2.alloc (.cells Try.zeroCells52 52)) w2.heap.size (fun v => bal L T 0 v) from by
    have e : Try.zeroCells52 = zA (fun v => bal L T 0 v) := by
      rw [show (fun v => bal L T 0 v) = (fun _ => (0 : Int)) from funext (fun v => by simp [bal, cb])]
      kernel_rfl
    rw [e]
    exact heap_alloc_new w2 _)
  have HB3 := Lib.hid (HB.out.alloc HB.out.size (.cells Try.zeroCells52 52))
  have hz := HB.out.size
  generalize w2.alloc (.cells Try.zeroCells52 52) = w3 at *
  generalize w2.heap.size = g at *
  clear HB
  go_loopw [8] (fun iv wr => ∃ i : Nat, i ≤ L.length ∧ iv = .int .i64 i ∧ Hid (IsZ wr g (fun v => bal L T i v)) ∧ Hid (Below w.heap.size w wr)) (fun iv _ => L.length - (intOf iv).toNat)
  case atStart => exact ⟨0, Nat.zero_le _, rfl, HZ, HB3⟩
  case round =>
    clear HZ HB3
    obtain ⟨i, hi, rfl, HZ, HB⟩ := hrel
    by_cases hlt : i < L.length
    · have hii : (i : Int) < L.length := by omega
      have x1 := ixM L (i : Int) i rfl hlt
      have x2 := ixM T (i : Int) i rfl (by omega)
      have b1 := UInt8.toNat_lt (L.getD i 0)
      have b2 := UInt8.toNat_lt (T.getD i 0)
      have s1 := fun v => cb_step L i v hlt
      have s2 := fun v => cb_step T i v (by omega)
      obtain ⟨X, hX⟩ : ∃ X, (L.getD i 0).toNat = X := ⟨_, rfl⟩
      obtain ⟨Y, hY⟩ : ∃ Y, (T.getD i 0).toNat = Y := ⟨_, rfl⟩
      rw [hX] at x1 b1
      rw [hY] at x2 b2
      simp only [hX] at s1
      simp only [hY] at s2
      clear hX hY
      obtain ⟨p, hp⟩ : ∃ p, bal L T i X = p := ⟨_, rfl⟩
      obtain ⟨q, hq⟩ : ∃ q, bal L T i Y + (if Y = X then 1 else 0) = q := ⟨_, rfl⟩
      have cl := fun v => cb_le L i v
      have ct := fun v => cb_le T i v
      have hpb : -1000 ≤ p ∧ p ≤ 1000 := by have := cl X; have := ct X; unfold bal at hp; omega
      have hqb : -1001 ≤ q ∧ q ≤ 1001 := by have := cl Y; have := ct Y; unfold bal at hq; split at hq <;> omega
      have c1 := HZ.out.cell X b1
      have f1 := HZ.out.free X
      have l1 := block_lt HZ.out
      rw [hp] at c1
      have HZ2 := Lib.hid (show IsZ (wr.setCell ⟨g, X, none⟩ (.int .i64 (p + 1))) g (fun v => bal L T i v + (if v = X then 1 else 0)) from HZ.out.set X (p + 1) _ (fun v => by
        by_cases e : v = X
        · subst e; rw [if_pos rfl, if_pos rfl, hp]
        · rw [if_neg e, if_neg e, Int.add_zero]))
      have HB2 := Lib.hid (HB.out.setCell (p := ⟨g, X, none⟩) hz (.int .i64 (p + 1)))
      clear hp cl ct
      go_wp2_with fail
      go_region
      have HZ := Lib.hid (show IsZ ((wr.setCell ⟨g, X, none⟩ (.int .i64 (p + 1))).drew) g (fun v => bal L T i v + (if v = X then 1 else 0)) from HZ2.out)
      have HB := Lib.hid HB2.out.drew
      clear HZ2 HB2 c1 f1 l1 hpb
      generalize (wr.setCell ⟨g, X, none⟩ (.int .i64 (p + 1))).drew = w4 at *
      have c1 := HZ.out.cell Y b2
      have f1 := HZ.out.free Y
      have l1 := block_lt HZ.out
      rw [hq] at c1
      have HZ2 := Lib.hid (show IsZ (w4.setCell ⟨g, Y, none⟩ (.int .i64 (q - 1))) g (fun v => bal L T (i + 1) v) from HZ.out.set Y (q - 1) _ (fun v => by
        unfold bal at hq ⊢
        rw [s1 v, s2 v]
        by_cases e : v = Y
        · subst e; rw [if_pos rfl, if_pos rfl, ← hq]; omega
        · rw [if_neg e, if_neg e]; omega))
      have HB2 := Lib.hid (HB.out.setCell (p := ⟨g, Y, none⟩) hz (.int .i64 (q - 1)))
      clear hq s1 s2
      go_wp2_with fail
      go_region
      go_wp2_with fail
      go_roundw
      case rel => exact ⟨i + 1, by omega, by go_num, HZ2, Lib.hid HB2.out.drew⟩
      case measure => simp [intOf] <;> omega
    · obtain rfl : i = L.length := by omega
      have hii : ¬ (L.length : Int) < L.length := by omega
      have hld := fun W (h : IsZ W g (fun v => bal L T L.length v)) => h.load
      have l1 := block_lt HZ.out
      have heq : ∀ W, (Op.equalIn 10000 52 (.agg (zA (fun v => bal L T L.length v))) (.agg Try.zeroCells52)).run Try.prog W = .ok true W := fun W => by
        rw [zero_zA]; exact eql_zA (fun v => bal L T L.length v) (fun _ => 0) (fun v _ => bal_end HTP.out v) W
      go_wp2_with fail
      refine wp_load_row 52 _ rfl g rfl _ _ _ _ HZ.out Try.underlying52 rfl (by rw [zA_size]; kernel_rfl) ?_
      obtain ⟨z1, hz1⟩ : ∃ z, zA (fun v => bal L T L.length v) = z := ⟨_, rfl⟩
      simp only [hz1] at heq ⊢
      clear hld hz1
      go_wp2_with fail
      refine (awake48 _).mono ?_; rintro e wx ⟨rfl, hbx⟩
      have HB := Lib.hid (HB.out.trans (hbx.mono HB.out.size))
      clear hbx
      go_wp2_with fail
      go_ret
      exact ⟨rfl, HB.out⟩
end Go.Proofs.Ytpkidedepcnoaaa
