/- Layer 12: rows of runs. -/
import Derived.Test.YtekageibffhloaaR1
import Derived.Laws.StructEq
namespace Go.Proofs.Ytekageibffhloaa
open Go.ChangeShapes Go.WideShapes Go.ChangeAt Go.RowKit
set_option linter.unusedVariables false
set_option maxRecDepth 100000
open RunsMath

def IsRuns (w : World) (a : Option Addr) (l : List Run) : Prop := l.length ≤ 70368744177664 ∧ (l = [] ∨ ∃ x, a = some x ∧ ∀ i, i < l.length → w.cell? (x.add (i * 2)) = some (.int .i64 (l.getD i (0, 0)).1) ∧ w.cell? ⟨(x.add (i * 2)).block, (x.add (i * 2)).off + 1, none⟩ = some (.int .i64 (l.getD i (0, 0)).2))
def IsR (w : World) (v : Value) (l : List Run) : Prop := ∃ a cap, v = .slice a l.length cap ∧ IsRuns w a l
theorem IsRuns.at {w : World} {a : Option Addr} {l : List Run} (h : IsRuns w a l) (k : Nat) (hk : k < l.length) : ∃ x : Addr, a = some x ∧ x.block < w.heap.size ∧ ∀ i, i < l.length → w.cell? (x.add (i * 2)) = some (.int .i64 (l.getD i (0, 0)).1) ∧ w.cell? ⟨(x.add (i * 2)).block, (x.add (i * 2)).off + 1, none⟩ = some (.int .i64 (l.getD i (0, 0)).2) := by
  rcases h.2 with rfl | ⟨x, rfl, hc⟩
  · simp at hk
  · have := cell_block (hc 0 (by omega)).1
    exact ⟨x, rfl, by simpa [Addr.add] using this, hc⟩
theorem IsRuns.kept {w w' : World} {a : Option Addr} {l : List Run} (h : IsRuns w a l) (hb : Below w.heap.size w w') : IsRuns w' a l := by
  refine ⟨h.1, ?_⟩
  rcases h.2 with rfl | ⟨x, rfl, hc⟩
  · exact .inl rfl
  · refine .inr ⟨x, rfl, fun i hi => ?_⟩
    obtain ⟨h1, h2⟩ := hc i hi
    rw [hb.cell (cell_block h1), hb.cell (cell_block h2)]; exact ⟨h1, h2⟩
theorem IsR.kept {w w' : World} {v : Value} {l : List Run} (h : IsR w v l) (hb : Below w.heap.size w w') : IsR w' v l := by
  obtain ⟨a, cap, e, h⟩ := h
  exact ⟨a, cap, e, h.kept hb⟩
theorem IsR.nil (w : World) : IsR w (.slice none 0 0) [] := ⟨none, 0, rfl, by simp, .inl rfl⟩
theorem IsR.alloc {w : World} {v : Value} {l : List Run} (h : IsR w v l) (o : Obj) : IsR (w.alloc o) v l := h.kept ((Below.refl _ _).alloc (Nat.le_refl _) o)
def fR (r : Run) : List Value := [.int .i64 r.1, .int .i64 r.2]
theorem flatR : Flat fR 2 := fun x => ⟨rfl, by intro u hu; simp [fR] at hu; rcases hu with rfl | rfl <;> rfl⟩
abbrev OwnR (B : Nat) (w : World) (v : Value) (l : List Run) : Prop := OwnS fR 88 2 B w v l
theorem info_run : (Try.prog.info? 88).map (fun i => (i.zero, i.size, i.bytes)) = some (some (.agg #[.int .i64 0, .int .i64 0]), 2, 16) := by kernel_rfl
theorem OwnS.isR {B : Nat} {w : World} {v : Value} {l : List Run} (h : OwnR B w v l) (hl : l.length ≤ 70368744177664) : IsR w v l := by
  by_cases h0 : 0 < l.length
  · obtain ⟨g, cap, rfl, -, -⟩ := h.form h0 (by decide)
    refine ⟨_, cap, rfl, hl, .inr ⟨_, rfl, fun i hi => ?_⟩⟩
    have h1 := h.cell flatR i 0 l[i] (by simp [hi]) (by decide)
    have h2 := h.cell flatR i 1 l[i] (by simp [hi]) (by decide)
    have e1 : (⟨g, 0, none⟩ : Addr).add (i * 2) = ⟨g, i * 2 + 0, none⟩ := by unfold Addr.add; split <;> simp_all
    rw [e1]
    show w.cell? ⟨g, i * 2 + 0, none⟩ = _ ∧ w.cell? ⟨g, i * 2 + 1, none⟩ = _
    rw [h1, h2]
    simp [fR, List.getD_eq_getElem?_getD, hi]
  · obtain ⟨a, cap, rfl⟩ := h.slice
    exact ⟨a, cap, rfl, hl, .inl (List.eq_nil_of_length_eq_zero (by omega))⟩
theorem take_getDR (l : List Run) (k : Nat) (h : k < l.length) : l.take (k + 1) = l.take k ++ [l.getD k (0, 0)] := by
  rw [List.take_succ_eq_append_getElem h]; simp [List.getD_eq_getElem?_getD, h]
set_option maxHeartbeats 1600000 in
theorem dSame (a b : Option Addr) (ca cb : Nat) (l m : List Run) (w : World) (h1 : IsRuns w a l) (h2 : IsRuns w b m) (B : Bool) (hB : B = decide (l = m)) :
    Calls Try.prog 26 #[.slice a l.length ca, .slice b m.length cb] w fun e w' => e = .returned (.bool B) ∧ ∃ k, w' = w.drewN k := by
  have hl1 := h1.1; have hl2 := h2.1
  by_cases hlen : l.length = m.length
  · have hne : ((l.length : Int) == (m.length : Int)) = true := by simp [hlen]
    have hne' : ((l.length : Int) != (m.length : Int)) = false := by simp [hlen]
    have hlen_ := Lib.hid hlen
    have hB_ := Lib.hid hB
    have h1_ := Lib.hid h1
    have h2_ := Lib.hid h2
    clear hlen hB h1 h2
    go_enter Try.func26, Try.ntmps26
    go_wp2
    clear hne hne'
    go_loopw [5] (fun i wr => ∃ k : Nat, k ≤ l.length ∧ i = .int .i64 k ∧ Hid (l.take k = m.take k) ∧ ∃ q, wr = w.drewN q) (fun i _ => l.length - (intOf i).toNat)
    case atStart => exact ⟨0, Nat.zero_le _, rfl, Lib.hid rfl, 0, rfl⟩
    case round =>
      obtain ⟨k, hk, rfl, ht, q, rfl⟩ := hrel
      by_cases hlt : k < l.length
      · obtain ⟨x, rfl, -, hx⟩ := h1_.out.at k hlt
        have hltm : k < m.length := by have := hlen_.out; omega
        obtain ⟨y, rfl, -, hy⟩ := h2_.out.at k hltm
        obtain ⟨cx, cx2⟩ := hx k hlt
        obtain ⟨cy, cy2⟩ := hy k hltm
        clear hx hy
        obtain ⟨X, hX⟩ : ∃ X, l.getD k (0, 0) = X := ⟨_, rfl⟩
        obtain ⟨Y, hY⟩ : ∃ Y, m.getD k (0, 0) = Y := ⟨_, rfl⟩
        rw [hX] at cx cx2; rw [hY] at cy cy2
        obtain ⟨x0, x1⟩ := X
        obtain ⟨y0, y1⟩ := Y
        simp only at cx cx2 cy cy2
        by_cases h0 : x0 = y0
        · by_cases h1 : x1 = y1
          · subst h0; subst h1
            have HT := Lib.hid (show l.take (k + 1) = m.take (k + 1) by rw [take_getDR l k hlt, take_getDR m k hltm, ht.out, hX, hY])
            clear hX hY
            go_wp2
            go_region
            go_wp2
            go_roundw
            case rel => exact ⟨k + 1, by omega, by go_num, HT, _, rfl⟩
            case measure => simp [intOf]; omega
          · have HF := Lib.hid (show B = false by
              rw [hB_.out, decide_eq_false_iff_not]
              rintro rfl
              rw [hX] at hY; injection hY with e1 e2; exact h1 e2)
            subst h0
            clear hX hY
            go_wp2
            go_region
            go_wp2
            go_ret
            exact ⟨ret_b HF.out.symm, _, rfl⟩
        · have HF := Lib.hid (show B = false by
            rw [hB_.out, decide_eq_false_iff_not]
            rintro rfl
            rw [hX] at hY; injection hY with e1 e2; exact h0 e1)
          clear hX hY
          go_wp2
          go_region
          go_wp2
          go_ret
          exact ⟨ret_b HF.out.symm, _, rfl⟩
      · have HF := Lib.hid (show B = true by
          rw [hB_.out, decide_eq_true_iff]
          have h := ht.out
          have hl := hlen_.out
          rw [List.take_of_length_le (by omega), List.take_of_length_le (by omega)] at h
          exact h)
        go_wp2
        go_ret
        exact ⟨ret_b HF.out.symm, _, rfl⟩
  · have HF := Lib.hid (show B = false by rw [hB, decide_eq_false_iff_not]; rintro rfl; exact hlen rfl)
    have e1 : ((l.length : Int) == (m.length : Int)) = false := by rw [beq_eq_false_iff_ne]; omega
    have e2 : ((l.length : Int) != (m.length : Int)) = true := by rw [bne, e1]; rfl
    clear hlen hB
    go_enter Try.func26, Try.ntmps26
    go_wp2
    go_ret
    exact ⟨ret_b HF.out.symm, 0, rfl⟩
theorem dSameB {v u : Value} {l m : List Run} {w : World} (h1 : IsR w v l) (h2 : IsR w u m) (B : Bool) (hB : B = decide (l = m)) :
    Calls Try.prog 26 #[v, u] w fun e w' => e = .returned (.bool B) ∧ Below w.heap.size w w' := by
  obtain ⟨a, ca, rfl, h1⟩ := h1
  obtain ⟨b, cb, rfl, h2⟩ := h2
  exact (dSame a b ca cb l m w h1 h2 B hB).mono fun _ _ ⟨h, n, hw⟩ => ⟨h, by rw [hw]; exact below_dn (Below.refl _ _) n⟩
/-- How often the length at a place comes from there on. -/
def rowN (l : List Int) (i : Nat) : Nat := same (l.getD i 0) (l.drop i)
theorem same_at (x : Int) (l : List Int) (i k : Nat) (hk : k ≤ same x (l.drop i)) (hik : i + k < l.length) : (l.getD (i + k) 0 = x → k + 1 ≤ same x (l.drop i)) ∧ (l.getD (i + k) 0 ≠ x → same x (l.drop i) = k) := by
  have key : ∀ (m : List Int) (k : Nat), k ≤ same x m → k < m.length → (m.getD k 0 = x → k + 1 ≤ same x m) ∧ (m.getD k 0 ≠ x → same x m = k) := by
    intro m
    induction m with
    | nil => intro k _ h; simp at h
    | cons y m ih =>
      intro k hk hl
      cases k with
      | zero =>
        simp only [List.getD_cons_zero, same]
        by_cases h : y = x
        · rw [if_pos h]; exact ⟨fun _ => by omega, fun h' => absurd h h'⟩
        · rw [if_neg h]; exact ⟨fun h' => absurd h' h, fun _ => rfl⟩
      | succ k =>
        simp only [same] at hk ⊢
        by_cases h : y = x
        · rw [if_pos h] at hk ⊢
          have := ih k (by omega) (by simpa using hl)
          rw [List.getD_cons_succ]
          exact ⟨fun h' => by have := this.1 h'; omega, fun h' => by have := this.2 h'; omega⟩
        · rw [if_neg h] at hk; omega
  have h1 : (l.drop i).getD k 0 = l.getD (i + k) 0 := by simp [List.getD_eq_getElem?_getD, List.getElem?_drop]
  have := key (l.drop i) k hk (by rw [List.length_drop]; omega)
  rwa [h1] at this
set_option maxHeartbeats 1600000 in
theorem rRow (a : Option Addr) (c : Nat) (l : List Int) (i : Nat) (hi : i < l.length) (w : World) (h : IsInts w a l) :
    Calls Try.prog 84 #[.slice a l.length c, .int .i64 i] w fun e w' => e = .returned (.int .i64 (min (rowN l i) 138 : Nat)) ∧ ∃ q, w' = w.drewN q := by
  have hl := h.1
  obtain ⟨x, rfl, -, hx⟩ := h.at i hi
  have cx := hx i hi
  have HX := Lib.hid hx
  have HA := Lib.hid (fun k => same_at (l.getD i 0) l i k)
  have h1 := (same_at (l.getD i 0) l i 0 (Nat.zero_le _) (by omega)).1 rfl
  have hle : Hid (same (l.getD i 0) (l.drop i) ≤ l.length - i) := by have := same_le (l.getD i 0) (l.drop i); rwa [List.length_drop] at this
  obtain ⟨S, hS⟩ : ∃ S, same (l.getD i 0) (l.drop i) = S := ⟨_, rfl⟩
  have HR : Hid (rowN l i = S) := hS
  rw [hS] at HA h1 hle
  obtain ⟨X, hXX⟩ : ∃ X, l.getD i 0 = X := ⟨_, rfl⟩
  rw [hXX] at cx HA
  clear hx h hS hXX
  go_enter Try.func84, Try.ntmps84
  go_wp2
  go_loopw [5] (fun u wr => ∃ k : Nat, 1 ≤ k ∧ k ≤ S ∧ k ≤ 138 ∧ u = .int .i64 k ∧ ∃ q, wr = w.drewN q) (fun u _ => 138 - (intOf u).toNat)
  case atStart => exact ⟨1, by omega, h1, by omega, rfl, 0, rfl⟩
  case round =>
    obtain ⟨k, hk1, hkS, hk, rfl, q, rfl⟩ := hrel
    by_cases g1 : i + k < l.length
    · have e1 : decide ((i : Int) + (k : Int) < (l.length : Int)) = true := by simp; omega
      have e1n : decide (i + k < l.length) = true := by simpa using g1
      by_cases g2 : k < 138
      · have e2 : decide ((k : Int) < 138) = true := by simp; omega
        have e2n : decide (k < 138) = true := by simpa using g2
        have ci := HX.out (i + k) g1
        have hA := HA.out k hkS g1
        have htn : ((i : Int) + (k : Int)).toNat = i + k := by omega
        have hi64 : IntKind.i64.wrap ((i : Int) + (k : Int)) = (i : Int) + (k : Int) := IntWalk.i64_in _ (by omega)
        obtain ⟨Y, hY⟩ : ∃ Y, l.getD (i + k) 0 = Y := ⟨_, rfl⟩
        rw [hY] at ci hA
        by_cases g3 : Y = X
        · have HK := Lib.hid (hA.1 g3)
          subst g3
          clear hA hY
          go_wp2
          go_quiet (fail)
          go_wp2
          go_roundw
          case rel => exact ⟨k + 1, by omega, HK.out, by omega, by go_num, _, rfl⟩
          case measure => simp [intOf]; omega
        · have HK := Lib.hid (show (k : Int) = (min (rowN l i) 138 : Nat) by rw [HR.out, hA.2 g3]; omega)
          have g3' : (Y == X) = false := by rw [beq_eq_false_iff_ne]; exact g3
          clear hA hY g3
          go_wp2
          go_quiet (fail)
          go_wp2
          go_ret
          exact ⟨ret_i HK.out, _, World.drewN_drewN ..⟩
      · have HK := Lib.hid (show (k : Int) = (min (rowN l i) 138 : Nat) by rw [HR.out]; omega)
        have e2 : decide ((k : Int) < 138) = false := by simp; omega
        have e2n : decide (k < 138) = false := by simpa using g2
        go_wp2
        go_quiet (fail)
        go_wp2
        go_ret
        exact ⟨ret_i HK.out, _, World.drewN_drewN ..⟩
    · have HK := Lib.hid (show (k : Int) = (min (rowN l i) 138 : Nat) by have := hle.out; rw [HR.out]; omega)
      have e1 : decide ((i : Int) + (k : Int) < (l.length : Int)) = false := by simp; omega
      have e1n : decide (i + k < l.length) = false := by simpa using g1
      go_wp2
      go_quiet (fail)
      go_wp2
      go_ret
      exact ⟨ret_i HK.out, _, World.drewN_drewN ..⟩
set_option maxHeartbeats 1600000 in
theorem dRow (a : Option Addr) (c : Nat) (l : List Int) (i : Nat) (hi : i < l.length) (w : World) (h : IsInts w a l) :
    Calls Try.prog 63 #[.slice a l.length c, .int .i64 i] w fun e w' => e = .returned (.int .i64 (rowN l i : Nat)) ∧ ∃ q, w' = w.drewN q := by
  have hl := h.1
  obtain ⟨x, rfl, -, hx⟩ := h.at i hi
  have cx := hx i hi
  have HX := Lib.hid hx
  have HA := Lib.hid (fun k => same_at (l.getD i 0) l i k)
  have hle : Hid (same (l.getD i 0) (l.drop i) ≤ l.length - i) := by have := same_le (l.getD i 0) (l.drop i); rwa [List.length_drop] at this
  obtain ⟨S, hS⟩ : ∃ S, same (l.getD i 0) (l.drop i) = S := ⟨_, rfl⟩
  have HR : Hid (rowN l i = S) := hS
  rw [hS] at HA hle
  obtain ⟨X, hXX⟩ : ∃ X, l.getD i 0 = X := ⟨_, rfl⟩
  rw [hXX] at cx HA
  clear hx h hS hXX
  go_enter Try.func63, Try.ntmps63
  go_wp2
  go_loopw [5] (fun u wr => ∃ k : Nat, k ≤ S ∧ i + k ≤ l.length ∧ u = .int .i64 k ∧ ∃ q, wr = w.drewN q) (fun u _ => l.length - i - (intOf u).toNat)
  case atStart => exact ⟨0, by omega, by omega, rfl, 0, rfl⟩
  case round =>
    obtain ⟨k, hkS, hk, rfl, q, rfl⟩ := hrel
    by_cases g1 : i + k < l.length
    · have e1 : decide ((i : Int) + (k : Int) < (l.length : Int)) = true := by simp; omega
      have e1n : decide (i + k < l.length) = true := by simpa using g1
      have ci := HX.out (i + k) g1
      have hA := HA.out k hkS g1
      have htn : ((i : Int) + (k : Int)).toNat = i + k := by omega
      have hi64 : IntKind.i64.wrap ((i : Int) + (k : Int)) = (i : Int) + (k : Int) := IntWalk.i64_in _ (by omega)
      obtain ⟨Y, hY⟩ : ∃ Y, l.getD (i + k) 0 = Y := ⟨_, rfl⟩
      rw [hY] at ci hA
      by_cases g3 : Y = X
      · have HK := Lib.hid (hA.1 g3)
        subst g3
        clear hA hY
        go_wp2
        go_quiet (fail)
        go_wp2
        go_roundw
        case rel => exact ⟨k + 1, HK.out, by omega, by go_num, _, rfl⟩
        case measure => simp [intOf]; omega
      · have HK := Lib.hid (show (k : Int) = (rowN l i : Nat) by rw [HR.out, hA.2 g3])
        have g3' : (Y == X) = false := by rw [beq_eq_false_iff_ne]; exact g3
        clear hA hY g3
        go_wp2
        go_quiet (fail)
        go_wp2
        go_ret
        exact ⟨ret_i HK.out, _, World.drewN_drewN ..⟩
    · have HK := Lib.hid (show (k : Int) = (rowN l i : Nat) by have := hle.out; rw [HR.out]; omega)
      have e1 : decide ((i : Int) + (k : Int) < (l.length : Int)) = false := by simp; omega
      have e1n : decide (i + k < l.length) = false := by simpa using g1
      go_wp2
      go_quiet (fail)
      go_wp2
      go_ret
      exact ⟨ret_i HK.out, _, World.drewN_drewN ..⟩
/-- The length ahead of a place. -/
def aheadL (l : List Int) (i : Nat) : Int := if i = 0 then -1 else l.getD (i - 1) 0
theorem first_min (a x : Int) (k : Nat) : firstRun a x (min k 138) = firstRun a x k := by
  unfold firstRun
  by_cases h1 : x = 0 ∧ 11 ≤ k
  · rw [if_pos h1, if_pos ⟨h1.1, by omega⟩]; simp
  rw [if_neg h1, if_neg (by omega)]
  by_cases h2 : x = 0 ∧ 3 ≤ k
  · rw [if_pos h2, if_pos ⟨h2.1, by omega⟩]; congr 2; omega
  rw [if_neg h2, if_neg (by omega)]
  by_cases h3 : x ≠ 0 ∧ a = x ∧ 3 ≤ k
  · rw [if_pos h3, if_pos ⟨h3.1, h3.2.1, by omega⟩]; congr 2; omega
  rw [if_neg h3, if_neg (by omega)]
end Go.Proofs.Ytekageibffhloaa
