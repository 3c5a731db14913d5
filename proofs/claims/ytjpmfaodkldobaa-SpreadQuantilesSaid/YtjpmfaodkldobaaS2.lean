/- Layer 57: the program's Quantile. -/
import Derived.Test.YtjpmfaodkldobaaS1
import Derived.Test.YtjpmfaodkldobaaShelf
import Derived.Sort.OwnSortedInts
namespace Go.Proofs.Ytjpmfaodkldobaa
open Go.ChangeShapes Go.WideShapes Go.ChangeAt Go.RowKit
set_option linter.unusedVariables false
set_option maxRecDepth 100000
open QuantMath
theorem addr_plain {w : World} {x : Addr} {l : List Int} (h0 : 0 < l.length) (hc : ∀ i, i < l.length → w.cell? (x.add i) = some (.int .i64 (l.getD i 0))) : ∃ b o, x = ⟨b, o, none⟩ ∧ ∀ j, j < l.length → w.cell? ⟨b, o + j, none⟩ = some (.int .i64 (l.getD j 0)) := by
  obtain ⟨b, o, s⟩ := x
  have h1 := World.cell?_spot (hc 0 h0)
  have h2 : s = none := by simpa [Addr.add] using h1
  subst h2
  refine ⟨b, o, rfl, fun j hj => ?_⟩
  have h3 := hc j hj
  have h4 : (⟨b, o, none⟩ : Addr).add j = ⟨b, o + j, none⟩ := by unfold Addr.add; split <;> simp_all
  rwa [h4] at h3
theorem sortT (B g cap : Nat) (l : List Int) (w : World) (h : OwnI B w (.slice (some ⟨g, 0, none⟩) l.length cap) l) (hl : l.length ≤ 1000000) :
    Calls Try.prog 86 #[.slice (some ⟨g, 0, none⟩) l.length cap] w fun e w' => e = .returned (.tuple #[]) ∧ OwnI B w' (.slice (some ⟨g, 0, none⟩) l.length cap) (srt l) ∧ w.grownBy w' (some g) := by
  have hH : Go.Sort.Holds (Value.int .i64) w g 0 l.toArray := fun j hj => by
    have hj' : j < l.length := by simpa using hj
    refine ⟨?_, h.free (0 + j)⟩
    rw [Nat.zero_add, h.int_cell j hj']
    simp [List.getD_eq_getElem?_getD, hj']
  refine (Try.slices_Sort_int g 0 cap l w hH (h.lt g rfl).2 (by omega)).mono ?_
  rintro e w' ⟨h1, n, os, rfl⟩
  refine ⟨h1, ?_, grownBy_sortedI _⟩
  have hs := srt_length l
  rcases h.2 with ⟨hv, h0⟩ | ⟨g', cap', cur, hv, hg, hcur, hn, hcap, hsz, htk⟩
  · simp at hv
  · simp only [Value.slice.injEq, Option.some.injEq, Addr.mk.injEq, true_and, and_true] at hv
    obtain ⟨rfl, rfl⟩ := hv
    have := ownsRow_sortedI (os := os) (n := n) (ss := l) (ts := srt l) hs hg hcur hn hcap hsz
    have h2 : (Go.Sort.grow (Go.Sort.putRow (Value.int .i64) (Go.Sort.ahead w n) g 0 (srt l).toArray) os).ownsRow B 3 1 (.slice (some ⟨g, 0, none⟩) l.length cap) (srt l).length (intCells (srt l)) := by rw [hs]; exact this
    exact own_OwnI h2
theorem cloneT (b o c : Nat) (l : List Int) (w : World) (hl : l.length ≤ 1000000) (h0 : 0 < l.length) (hc : ∀ j, j < l.length → w.cell? ⟨b, o + j, none⟩ = some (.int .i64 (l.getD j 0))) :
    Calls Try.prog 85 #[.slice (some ⟨b, o, none⟩) l.length c] w fun e w' => ∃ g cap, e = .returned (.slice (some ⟨g, 0, none⟩) l.length cap) ∧ OwnI w.heap.size w' (.slice (some ⟨g, 0, none⟩) l.length cap) l ∧ Below w.heap.size w w' := by
  refine (Try.slices_Clone_int b o l.length c l w (Nat.le_refl _) (by omega) hc).mono ?_
  rintro e w' ⟨v, h1, h2, -, h3⟩
  rw [List.take_length] at h2
  have h4 : OwnI w.heap.size w' v l := own_OwnI h2
  obtain ⟨g, cap, rfl, -, -⟩ := OwnS.form h4 h0 (by decide)
  exact ⟨g, cap, h1, h4, h3⟩
set_option maxHeartbeats 1600000 in
theorem sQuantIn (a : Option Addr) (c : Nat) (l : List Int) (n o : Int) (w : World) (h : IsInts w a l) (hl : l.length ≤ 1000) (h0 : 0 < l.length) (ho : 1 ≤ o) (ho2 : o ≤ 1048576) (hn : 0 ≤ n) (hno : n ≤ o) (V : Int) (hV : quantV l n o = V) :
    Calls Try.prog 51 #[.slice a l.length c, .int .i64 n, .int .i64 o] w fun e w' => e = .returned (.tuple #[.int .i64 V, .int .i64 0]) ∧ Below w.heap.size w w' := by
  obtain ⟨K, hK, hKl⟩ := quant_at l n o h0 ho hn hno
  have HV := Lib.hid (show (srt l).getD K 0 = V by rw [← hV]; unfold quantV; rw [hK]; rfl)
  have hPb : 0 ≤ n * ((l.length : Int) - 1) ∧ n * ((l.length : Int) - 1) ≤ 1048576 * 1000 := by
    have h2 : 0 ≤ n * ((l.length : Int) - 1) := Int.mul_nonneg hn (by omega)
    have h3 : n * ((l.length : Int) - 1) ≤ 1048576 * ((l.length : Int) - 1) := Int.mul_le_mul_of_nonneg_right (by omega) (by omega)
    omega
  obtain ⟨P, hP⟩ : ∃ P : Int, n * ((l.length : Int) - 1) = P := ⟨_, rfl⟩
  rw [hP] at hK hPb
  obtain ⟨hP0, hP1⟩ := hPb
  clear hV
  obtain ⟨x, rfl, hxb, hcell⟩ := h.at 0 h0
  obtain ⟨b, off, rfl, hcl⟩ := addr_plain h0 hcell
  have CC := Lib.hid (cloneT b off c l w (by omega) h0 hcl)
  have hsl := srt_length l
  have hKs := Lib.hid (show K < (srt l).length by omega)
  clear h hcell hcl hxb hsl
  go_enter Try.func51, Try.ntmps51
  go_wp2_with fail
  refine CC.out.mono ?_; rintro e w1 ⟨g, cap, rfl, hown, hb⟩
  have CS := Lib.hid (sortT _ g cap l w1 hown (by omega))
  have hg := (hown.lt g rfl).1
  have hown_ := Lib.hid hown
  have hb_ := Lib.hid hb
  clear hown hb
  go_wp2_with fail
  refine CS.out.mono ?_; rintro e w2 ⟨rfl, hown2, hgr⟩
  have hcK := hown2.int_cell K hKs.out
  rw [HV.out] at hcK
  have hb2 := Lib.hid (hb_.out.grown hgr hb_.out.size (fun k hk => by simp at hk; omega))
  clear hown2 hgr CS CC hown_ hb_

  go_wp2_with fail
  go_ret2
  exact ⟨rfl, hb2.out⟩
theorem sQuantBad (a : Option Addr) (L c : Nat) (n o : Int) (w : World) (h : o < 1 ∨ 1048576 < o ∨ n < 0 ∨ o < n) :
    Calls Try.prog 51 #[.slice a L c, .int .i64 n, .int .i64 o] w fun e w' => e = .returned (.tuple #[.int .i64 0, .int .i64 1]) ∧ Below w.heap.size w w' := by
  have e : (decide (o < 1) || decide (1048576 < o) || decide (n < 0) || decide (o < n)) = true := by simp; omega
  by_cases h1 : o < 1
  · clear h
    go_enter Try.func51, Try.ntmps51
    go_wp2_with fail
    go_ret2
    exact ⟨rfl, Below.refl _ _⟩
  by_cases h2 : 1048576 < o
  · clear h
    go_enter Try.func51, Try.ntmps51
    go_wp2_with fail
    go_ret2
    exact ⟨rfl, Below.refl _ _⟩
  by_cases h3 : n < 0
  · clear h
    go_enter Try.func51, Try.ntmps51
    go_wp2_with fail
    go_ret2
    exact ⟨rfl, Below.refl _ _⟩
  have h4 : o < n := by omega
  clear h
  go_enter Try.func51, Try.ntmps51
  go_wp2_with fail
  go_ret2
  exact ⟨rfl, Below.refl _ _⟩
theorem sQuant (a : Option Addr) (c : Nat) (l : List Int) (n o : Int) (w : World) (h : IsInts w a l) (hl : l.length ≤ 1000) (R : Int × Int) (hR : quantS l n o = R) :
    Calls Try.prog 51 #[.slice a l.length c, .int .i64 n, .int .i64 o] w fun e w' => e = .returned (.tuple #[.int .i64 R.1, .int .i64 R.2]) ∧ Below w.heap.size w w' := by
  subst hR
  unfold quantS
  by_cases hb : o < 1 ∨ 1048576 < o ∨ n < 0 ∨ o < n
  · rw [if_pos hb]; exact sQuantBad a _ c n o w hb
  · rw [if_neg hb]
    by_cases h0 : l.length = 0
    · rw [if_pos h0, h0]
      have b1 : 1 ≤ o := by omega
      have b2 : o ≤ 1048576 := by omega
      have b3 : 0 ≤ n := by omega
      have b4 : n ≤ o := by omega
      clear hb h0 h hl
      go_enter Try.func51, Try.ntmps51
      go_wp2_with fail
      go_ret2
      exact ⟨rfl, Below.refl _ _⟩
    · rw [if_neg h0]
      exact sQuantIn a c l n o w h hl (by omega) (by omega) (by omega) (by omega) (by omega) _ rfl
end Go.Proofs.Ytjpmfaodkldobaa
