/- The document's begins, Bools, on rows of bits. -/
import Derived.Test.YtkdkedgpchcfpaaK4
namespace Go.Proofs.Ytkdkedgpchcfpaa
open Go.ChangeShapes Go.WideShapes Go.ChangeAt Go.RowKit
set_option linter.unusedVariables false
set_option maxRecDepth 100000
/-- Does l begin with the row h? -/
def begL (l h : List Bool) : Bool := decide (h.length ≤ l.length) && decide (l.take h.length = h)
set_option maxHeartbeats 1600000 in
theorem dBegins (a b : Option Addr) (ca cb : Nat) (l h : List Bool) (w : World) (h1 : IsBoo w a l) (h2 : IsBoo w b h) (hl : l.length ≤ 1000000) (hh : h.length ≤ 1000000) (B : Bool) (hB : begL l h = B) :
    Calls Try.prog 50 #[.slice a l.length ca, .slice b h.length cb] w fun e w' => e = .returned (.bool B) ∧ ∃ k, w' = w.drewN k := by
  by_cases hlen : l.length < h.length
  · have hBf : B = false := by rw [← hB]; unfold begL; rw [decide_eq_false (by omega)]; rfl
    subst hBf
    clear h1 h2 hB
    go_enter Try.func50, Try.ntmps50
    go_wp2
    go_ret
    exact ⟨rfl, 0, rfl⟩
  have HI := Lib.hid h1
  have HJ := Lib.hid h2
  have HB := Lib.hid (show B = decide (l.take h.length = h) by rw [← hB]; unfold begL; rw [decide_eq_true (show h.length ≤ l.length by omega)]; rfl)
  clear h1 h2 hB
  go_enter Try.func50, Try.ntmps50
  go_wp2
  go_loopw [5] (fun i wr => ∃ k : Nat, k ≤ h.length ∧ i = .int .i64 k ∧ Hid (l.take k = h.take k) ∧ ∃ q, wr = w.drewN q) (fun i _ => h.length - (intOf i).toNat)
  case atStart => exact ⟨0, Nat.zero_le _, rfl, Lib.hid (by simp), 0, rfl⟩
  case round =>
    obtain ⟨k, hk, rfl, heq, q, rfl⟩ := hrel
    by_cases hlt : k < h.length
    · obtain ⟨x, rfl, hxb, cx⟩ := HI.out.at k (by omega)
      obtain ⟨y, rfl, hyb, cy⟩ := HJ.out.at k hlt
      have HTl := Lib.hid (takeB l k (by omega))
      have HTh := Lib.hid (takeB h k hlt)
      obtain ⟨X, hX⟩ : ∃ X, l.getD k false = X := ⟨_, rfl⟩
      obtain ⟨Y, hY⟩ : ∃ Y, h.getD k false = Y := ⟨_, rfl⟩
      rw [hX] at cx HTl
      rw [hY] at cy HTh
      clear hX hY
      by_cases hxy : X = Y
      · subst hxy
        have HN := Lib.hid (show l.take (k + 1) = h.take (k + 1) by rw [HTl.out, HTh.out, heq.out])
        go_wp2
        go_region
        all_goals (
          go_wp2
          go_roundw
          case rel => exact ⟨k + 1, by omega, by go_num, HN, _, rfl⟩
          case measure => simp [intOf]; omega)
      · have hne : (X == Y) = false := by simpa using hxy
        have HF := Lib.hid (show B = false by
          rw [HB.out]
          refine decide_eq_false (fun e => hxy ?_)
          have e1 := congrArg (List.take (k + 1)) e
          rw [List.take_take, Nat.min_eq_left (by omega), HTl.out, HTh.out, heq.out] at e1
          simpa using e1)
        go_wp2
        go_region
        all_goals (
          go_wp2
          go_ret
          exact ⟨by rw [HF.out]; rfl, _, rfl⟩)
    · obtain rfl : k = h.length := by omega
      have HT := Lib.hid (show B = true by rw [HB.out]; have h3 := heq.out; rw [List.take_length] at h3; exact decide_eq_true h3)
      go_wp2
      go_ret
      exact ⟨by rw [HT.out]; rfl, _, rfl⟩
theorem dBools (a b : Option Addr) (ca cb : Nat) (l h : List Bool) (w : World) (h1 : IsBoo w a l) (h2 : IsBoo w b h) (hl : l.length ≤ 1000000) (hh : h.length ≤ 1000000) (B : Bool) (hB : B = decide (l = h)) :
    Calls Try.prog 19 #[.slice a l.length ca, .slice b h.length cb] w fun e w' => e = .returned (.bool B) ∧ ∃ k, w' = w.drewN k := by
  by_cases hlen : l.length = h.length
  · have C := Lib.hid (dBegins a b ca cb l h w h1 h2 hl hh _ rfl)
    have HB := Lib.hid (show begL l h = B by
      rw [hB]; unfold begL
      rw [decide_eq_true (show h.length ≤ l.length by omega), ← hlen, List.take_length]; rfl)
    rw [HB.out] at C
    have hb : ((l.length : Int) == (h.length : Int)) = true := by rw [beq_iff_eq]; omega
    clear h1 h2 hB hlen
    go_enter Try.func19, Try.ntmps19
    go_wp2_with fail
    refine C.out.mono ?_; rintro e w1 ⟨rfl, k, rfl⟩
    go_wp2_with fail
    go_ret
    exact ⟨rfl, _, rfl⟩
  · have hBf : B = false := by rw [hB]; exact decide_eq_false (fun e => hlen (by rw [e]))
    subst hBf
    have hb : ((l.length : Int) == (h.length : Int)) = false := by rw [beq_eq_false_iff_ne]; omega
    clear h1 h2 hB
    go_enter Try.func19, Try.ntmps19
    go_wp2
    go_ret
    exact ⟨rfl, 0, rfl⟩
theorem dBoolsT {v u : Value} {l m : List Bool} {w : World} (h1 : IsB w v l) (h2 : IsB w u m) (hl : l.length ≤ 1000000) (hm : m.length ≤ 1000000) (B : Bool) (hB : B = decide (l = m)) :
    Calls Try.prog 19 #[v, u] w fun e w' => e = .returned (.bool B) ∧ Below w.heap.size w w' := by
  obtain ⟨a, ca, rfl, h1⟩ := h1
  obtain ⟨b, cb, rfl, h2⟩ := h2
  refine (dBools a b ca cb l m w h1 h2 hl hm B hB).mono ?_
  rintro e w' ⟨rfl, k, rfl⟩
  exact ⟨rfl, below_dn (Below.refl _ _) k⟩
theorem IsB.alloc {w : World} {v : Value} {l : List Bool} (h : IsB w v l) (o : Obj) : IsB (w.alloc o) v l := h.kept ((Below.refl _ _).alloc (Nat.le_refl _) o)
end Go.Proofs.Ytkdkedgpchcfpaa
