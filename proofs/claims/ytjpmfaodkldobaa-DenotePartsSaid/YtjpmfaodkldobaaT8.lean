/- Layer 18: tokens in a row; room. -/
import Derived.Test.YtjpmfaodkldobaaT7
namespace Go.Proofs.Ytjpmfaodkldobaa
open Go.ChangeShapes Go.WideShapes Go.ChangeAt Go.RowKit
set_option linter.unusedVariables false
set_option linter.unusedSimpArgs false
set_option maxRecDepth 100000
def tkAt (w : World) (x : Addr) (i : Nat) (t : Tk) : Prop :=
  w.cell? (x.add (i * 5)) = some (.int .i64 t.k) ∧ w.cell? ⟨(x.add (i * 5)).block, (x.add (i * 5)).off + 1, none⟩ = some (.int .i64 t.b) ∧ w.cell? ⟨(x.add (i * 5)).block, (x.add (i * 5)).off + 2, none⟩ = some (.int .i64 t.l) ∧
  w.cell? ⟨(x.add (i * 5)).block, (x.add (i * 5)).off + 3, none⟩ = some (.int .i64 t.d) ∧ w.cell? ⟨(x.add (i * 5)).block, (x.add (i * 5)).off + 4, none⟩ = some (.int .i64 t.r)
theorem tkAt.kept {w w' : World} {x : Addr} {i : Nat} {t : Tk} (h : tkAt w x i t) (hb : Below w.heap.size w w') : tkAt w' x i t := by
  obtain ⟨h0, h1, h2, h3, h4⟩ := h
  exact ⟨(hb.cell (cell_block h0)).trans h0, (hb.cell (cell_block h1)).trans h1, (hb.cell (cell_block h2)).trans h2, (hb.cell (cell_block h3)).trans h3, (hb.cell (cell_block h4)).trans h4⟩
def IsTk (w : World) (a : Option Addr) (l : List Tk) : Prop := l = [] ∨ ∃ x, a = some x ∧ ∀ i t, l[i]? = some t → tkAt w x i t
theorem IsTk.at {w : World} {a : Option Addr} {l : List Tk} (h : IsTk w a l) (k : Nat) (hk : k < l.length) : ∃ x : Addr, a = some x ∧ x.block < w.heap.size ∧ tkAt w x k l[k] := by
  rcases h with rfl | ⟨x, rfl, hc⟩
  · simp at hk
  · have h1 := hc k l[k] (by simp [hk])
    exact ⟨x, rfl, by have := cell_block h1.1; rwa [add_block] at this, h1⟩
theorem IsTk.kept {w w' : World} {a : Option Addr} {l : List Tk} (h : IsTk w a l) (hb : Below w.heap.size w w') : IsTk w' a l := by
  rcases h with rfl | ⟨x, rfl, hc⟩
  · exact .inl rfl
  · exact .inr ⟨x, rfl, fun i t ht => (hc i t ht).kept hb⟩
theorem IsTk.take {w : World} {a : Option Addr} {l : List Tk} (h : IsTk w a l) (n : Nat) : IsTk w a (l.take n) := by
  rcases h with rfl | ⟨x, rfl, hc⟩
  · exact .inl (by simp)
  · refine .inr ⟨x, rfl, fun i t ht => hc i t ?_⟩
    rw [List.getElem?_take] at ht
    split at ht
    · exact ht
    · cases ht
theorem add_add5 (x : Addr) (n i : Nat) : (x.add (n * 5)).add (i * 5) = x.add ((n + i) * 5) := by
  rw [Nat.add_mul]
  unfold Addr.add
  by_cases hn : n * 5 = 0
  · rw [hn]; simp
  · by_cases hi : i * 5 = 0
    · rw [hi]; simp
    · simp [hn, hi]; omega
theorem IsTk.drop {w : World} {x : Addr} {l : List Tk} (h : IsTk w (some x) l) (n : Nat) : IsTk w (some (x.add (n * 5))) (l.drop n) := by
  rcases h with rfl | ⟨x', e, hc⟩
  · exact .inl (by simp)
  · injection e with e
    subst e
    refine .inr ⟨_, rfl, fun i t ht => ?_⟩
    rw [List.getElem?_drop] at ht
    have := hc (n + i) t ht
    unfold tkAt
    rw [add_add5]
    exact this
set_option maxHeartbeats 1600000 in
theorem pRoom (a : Option Addr) (c : Nat) (l : List Tk) (w : World) (h : IsTk w a l) (hl : l.length ≤ 1000) :
    Calls Try.prog 63 #[.slice a l.length c] w fun e w' => ∃ N : Nat, e = .returned (.int .i64 N) ∧ (N : Int) ≤ 66000 ∧ Below w.heap.size w w' := by
  have HI := Lib.hid h
  clear h
  go_enter Try.func63, Try.ntmps63
  go_wp2_with fail
  go_loopw [3, 4] (fun n i wr => ∃ k N : Nat, i = .int .i64 k ∧ n = .int .i64 N ∧ k ≤ l.length ∧ (N : Int) ≤ 65794 ∧ Below w.heap.size w wr) (fun _ i _ => l.length - (intOf i).toNat)
  case atStart => exact ⟨0, 0, rfl, rfl, Nat.zero_le _, by decide, Below.refl _ _⟩
  case round =>
    obtain ⟨k, N, rfl, rfl, hk, hN, hb⟩ := hrel
    by_cases hlt : k < l.length
    · by_cases hN2 : (N : Int) < 65536
      · obtain ⟨x, rfl, hx, h0, h1, h2, h3, h4⟩ := (HI.out.kept hb).at k hlt
        have CS := Lib.hid (size_any l[k].k l[k].b l[k].l l[k].d l[k].r wr)
        have hz := szTok_bd l[k].k l[k].b l[k].l l[k].d l[k].r
        obtain ⟨Z, hZ⟩ : ∃ Z : Nat, szTok l[k].k l[k].b l[k].l l[k].d l[k].r = Z := ⟨(szTok l[k].k l[k].b l[k].l l[k].d l[k].r).toNat, by omega⟩
        rw [hZ] at CS hz
        clear hZ
        generalize l[k] = t at *
        have hd1 : decide (k < l.length) = true := decide_eq_true hlt
        have HB := Lib.hid hb
        have hZ2 : Z ≤ 258 := by omega
        clear hb hz
        go_wp2_with fail
        refine CS.out.mono ?_; rintro e w1 ⟨rfl, hb1⟩
        have HB1 := Lib.hid (HB.out.trans (hb1.mono HB.out.size))
        clear hb1 h0 h1 h2 h3 h4
        go_wp2_with fail
        go_roundw
        case rel => exact ⟨k + 1, N + Z, by go_num, by go_num, by omega, by omega, HB1.out⟩
        case measure => simp [intOf]; omega
      · have HB := Lib.hid hb
        clear hb
        go_wp2_with fail
        go_ret
        exact ⟨N, rfl, by omega, HB.out⟩
    · obtain rfl : k = l.length := by omega
      have HB := Lib.hid hb
      clear hb
      go_wp2_with fail
      go_ret
      exact ⟨N, rfl, by omega, HB.out⟩
end Go.Proofs.Ytjpmfaodkldobaa
