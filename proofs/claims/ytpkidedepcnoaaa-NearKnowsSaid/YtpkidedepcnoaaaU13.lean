/- Layer 19: SuffixRises. -/
import Derived.Test.YtpkidedepcnoaaaK4
import Derived.Test.YtpkidedepcnoaaaU12
namespace Go.Proofs.Ytpkidedepcnoaaa
open Go.ChangeShapes Go.WideShapes Go.ChangeAt Go.RowKit
set_option linter.unusedVariables false
set_option linter.unusedSimpArgs false
set_option maxRecDepth 100000
theorem boo_cell {B g n cap : Nat} {w : World} {l : List Bool} (h : OwnB B w (.slice (some ⟨g, 0, none⟩) n cap) l) (i : Nat) (hi : i < l.length) : w.cell? ⟨g, i, none⟩ = some (.bool (l.getD i false)) := by
  have := h.cell flatB i 0 l[i] (by simp [hi]) (by decide)
  rw [Nat.mul_one, Nat.add_zero] at this
  rw [this]
  simp [fB, List.getD_eq_getElem?_getD, hi]
theorem setB_getD (l : List Bool) (a b : Nat) (x : Bool) (ha : a < l.length) : (l.set a x).getD b false = if a = b then x else l.getD b false := by
  simp only [List.getD_eq_getElem?_getD, List.getElem?_set]
  by_cases h : a = b
  · subst h; simp [ha]
  · simp [h]
set_option maxHeartbeats 3200000 in
theorem rises_walk (L : List UInt8) (w : World) (hL : L.length ≤ 3000) :
    Calls Try.prog 4 #[.string (sM L)] w fun e w' => e = .returned (.bool true) ∧ Below w.heap.size w w' := by
  have hS : (sM L).size = L.length := sM_size L
  have CS := Lib.hid (fun W => cSort L W (by omega))
  go_enter Try.func4, Try.ntmps4
  go_wp2_with fail
  refine (CS.out _).mono ?_; rintro e w1 ⟨ga, a, rfl, hn, hs, hg, hb⟩
  have HN := Lib.hid hn
  have HSF := Lib.hid hs
  have HB := Lib.hid hb
  have hga := block_lt hn
  clear hn hs hb CS
  go_wp2_with (refine make_bool rfl _ _ rfl .i64 .i64 (L.length : Int) (L.length : Int) L.length rfl rfl rfl rfl (by omega) ?_; intro w2 ho2 hb2 hs2)
  obtain ⟨gm, hgm⟩ : ∃ g, w1.heap.size = g := ⟨_, rfl⟩
  have hz := HB.out.size
  have HM := Lib.hid ho2
  have HN := Lib.hid (HN.out.kept hb2)
  have HB := Lib.hid (HB.out.trans (hb2.mono HB.out.size))
  rw [hgm] at HM hga hz ⊢
  clear ho2 hb2 hs2 hgm
  go_loopw [5] (fun iv wr => ∃ (i : Nat) (mt : List Bool), i ≤ L.length ∧ iv = .int .i64 i ∧ Hid (mt.length = L.length ∧ ∀ j, i ≤ j → j < L.length → mt.getD (a.getD j 0) false = false) ∧ Hid (OwnB gm wr (.slice (some ⟨gm, 0, none⟩) L.length L.length) mt) ∧ Hid (IsN wr ga a) ∧ Hid (Below w.heap.size w wr)) (fun iv _ => L.length - (intOf iv).toNat)
  case atStart => exact ⟨0, _, Nat.zero_le _, rfl, Lib.hid ⟨List.length_replicate, fun j h1 h2 => by rw [List.getD_eq_getElem?_getD, List.getElem?_replicate]; split <;> rfl⟩, HM, HN, HB⟩
  case round =>
    clear HM HN HB
    obtain ⟨i, mt, hi, rfl, HT, HM, HN, HB⟩ := hrel
    have hal := HSF.out.len
    by_cases hlt : i < L.length
    · have hii : (i : Int) < L.length := by omega
      have ca := HN.out.cell i (by omega)
      have la := block_lt HN.out
      have hx := HSF.out.lt _ (getD_mem a i (by omega))
      have hF := HT.out.2 i (Nat.le_refl _) hlt
      have HT2 := Lib.hid (show (mt.set (a.getD i 0) true).length = L.length ∧ ∀ j, i + 1 ≤ j → j < L.length → (mt.set (a.getD i 0) true).getD (a.getD j 0) false = false from ⟨by rw [List.length_set]; exact HT.out.1, fun j h1 h2 => by
        have hne := pw_getD HSF.out.nodup i j (by omega) (by omega)
        rw [setB_getD _ _ _ _ (by rw [HT.out.1]; exact hx), if_neg hne]
        exact HT.out.2 j (by omega) h2⟩)
      have hkey : ∀ z, z + 1 = i → key L (a.getD z 0) L.length < key L (a.getD i 0) L.length := fun z hz => pw_getD HSF.out.inc z i (by omega) (by omega)
      obtain ⟨x, hxx⟩ : ∃ x, a.getD i 0 = x := ⟨_, rfl⟩
      rw [hxx] at ca hx hF HT2 hkey
      have HKY := Lib.hid hkey
      have cm := boo_cell HM.out x (by rw [HT.out.1]; exact hx)
      rw [hF] at cm
      have fm := HM.out.free x
      have lm := (HM.out.lt _ rfl).2
      have hxi : (x : Int) < L.length := by omega
      have q1 : decide ((x : Int) < 0) = false := decide_eq_false (by omega)
      have q2 : decide ((L.length : Int) ≤ x) = false := decide_eq_false (by omega)
      have q3 : decide (L.length ≤ x) = false := decide_eq_false (by omega)
      have s2 := slD L (x : Int) x rfl (by omega)
      have hxle : (x : Int) ≤ L.length := by omega
      have HM2 := Lib.hid (fun N => (show OwnB gm (wr.drewN N) (.slice (some ⟨gm, 0, none⟩) L.length L.length) mt from HM.out).set1 flatB x true (.bool true) rfl (by rw [HT.out.1]; exact hx))
      have HN2 := Lib.hid (fun N => (HN.out.drewN N).away (k := gm) (j := x) (u := .bool true) (by omega))
      have HB2 := Lib.hid (fun N => (below_dn HB.out N).setCell (p := ⟨gm, x, none⟩) hz (.bool true))
      clear hkey hF hxx
      by_cases hi0 : i = 0
      · subst hi0
        clear hal hx hlt hi s2 hxle hga la
        have la := block_lt HN.out
        go_wp2_with fail
        go_quiet (fail)
        go_wp2_with fail
        go_roundw
        case rel => exact ⟨1, _, by omega, by go_num, HT2, HM2.out _, HN2.out _, HB2.out _⟩
        case measure => simp [intOf] <;> omega
      · obtain ⟨z, hz⟩ : ∃ z, i - 1 = z := ⟨_, rfl⟩
        have hzi : (i : Int) - 1 = (z : Int) := by omega
        have hzl : (z : Int) < L.length := by omega
        have hi1 : (0 : Int) < i := by omega
        have q4 : decide ((0 : Int) < i) = true := decide_eq_true (by omega)
        have q5 : decide (0 < i) = true := decide_eq_true (by omega)
        have cz := HN.out.cell z (by omega)
        have hp := HSF.out.lt _ (getD_mem a z (by omega))
        have hk := HKY.out z (by omega)
        obtain ⟨p, hpp⟩ : ∃ p, a.getD z 0 = p := ⟨_, rfl⟩
        rw [hpp] at cz hp hk
        have s1 := slD L (p : Int) p rfl (by omega)
        have g1 := geqD L p x (by omega) (by omega) 9
        rw [decide_eq_false (by omega)] at g1
        have hpl : (p : Int) ≤ L.length := by omega
        obtain ⟨A, hA⟩ : ∃ A, sM (L.drop p) = A := ⟨_, rfl⟩
        obtain ⟨C, hC⟩ : ∃ A, sM (L.drop x) = A := ⟨_, rfl⟩
        rw [hA] at s1 g1
        rw [hC] at s2 g1
        clear hpp hk hA hC hz hal hx hlt hi hp hga
        go_wp2_with fail
        go_quiet (fail)
        go_wp2_with fail
        go_roundw
        case rel => exact ⟨i + 1, _, by omega, by go_num, HT2, HM2.out _, HN2.out _, HB2.out _⟩
        case measure => simp [intOf] <;> omega
    · obtain rfl : i = L.length := by omega
      go_wp2_with fail
      refine (awake19 _).mono ?_; rintro e w5 ⟨rfl, hb5⟩
      go_wp2_with fail
      go_ret
      exact ⟨rfl, HB.out.trans (hb5.mono HB.out.size)⟩
end Go.Proofs.Ytpkidedepcnoaaa
