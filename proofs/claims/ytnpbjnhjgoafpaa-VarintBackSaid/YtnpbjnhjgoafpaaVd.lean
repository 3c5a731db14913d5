/- Layer 3: Read's contracts at what is known, and the examples of the chapter. -/
import Derived.Test.YtnpbjnhjgoafpaaVc
namespace Go.Proofs.Ytnpbjnhjgoafpaa
open Go.ChangeShapes Go.WideShapes Go.ChangeAt Go.RowKit
set_option linter.unusedVariables false
set_option maxRecDepth 100000

/-- Read where what it tells is known. -/
theorem read_at (s : ByteArray) (hs : s.size ≤ maxLen) (e n c : Nat) (v : ByteArray) (h : rd s.data.toList = (e, n, c)) (hv : v = if e = 0 then s.extract c s.size else ⟨#[]⟩) (w : World) :
    Calls Try.prog 38 #[.string s] w fun en w' => en = .returned (.tuple #[.int .i64 n, .string v, .int .i64 e]) ∧ Below w.heap.size w w' :=
  (read_any s hs w).mono fun en w' ⟨⟨k, hk⟩, he⟩ => ⟨by rw [he, h, hv], by rw [hk]; exact below_drewN (Below.refl _ _) k⟩
theorem refRead_at (s : ByteArray) (hs : s.size ≤ maxLen) (e n c : Nat) (v : ByteArray) (h : rd s.data.toList = (e, n, c)) (hv : v = if e = 0 then s.extract c s.size else ⟨#[]⟩) (w : World) :
    Calls Try.prog 39 #[.string s] w fun en w' => en = .returned (.tuple #[.int .i64 n, .string v, .int .i64 e]) ∧ Below w.heap.size w w' :=
  (refRead_any s hs w).mono fun en w' ⟨hk, he⟩ => ⟨by rw [he, h, hv], hk⟩
/-- Put where what it tells is known. -/
theorem put_at (n : Int) (m : Nat) (v : ByteArray) (e : n = m) (h : m ≤ 4294967295) (hv : (⟨(vb m).toArray⟩ : ByteArray) = v) (w : World) :
    Calls Try.prog 34 #[.int .i64 n] w fun en w' => en = .returned (.tuple #[.string v, .int .i64 0]) ∧ Below w.heap.size w w' := by
  subst e; rw [← hv]; exact put_in m h w

theorem awake3 (w : World) : Calls Try.prog 37 #[] w fun e w' => e = .returned (.bool true) ∧ Below w.heap.size w w' := by
  go_enter Try.func37, Try.ntmps37
  go_wp2_with fail
  refine (put_at 300 300 ⟨#[172, 2]⟩ rfl (by decide) (by decide) _).mono ?_; rintro e w1 ⟨rfl, hb1⟩
  go_wp2_with fail
  refine (put_out (-1) (by decide) _).mono ?_; rintro e w' ⟨rfl, rfl⟩
  go_wp2_with fail
  refine (read_at ⟨#[172, 2, 120]⟩ (by decide) 0 300 2 ⟨#[120]⟩ (by decide) (by decide) _).mono ?_; rintro e w2 ⟨rfl, hb2⟩
  go_wp2_with fail
  refine (read_at ⟨#[128, 0]⟩ (by decide) 4 0 0 ⟨#[]⟩ (by decide) (by decide) _).mono ?_; rintro e w3 ⟨rfl, hb3⟩
  go_wp2_with fail
  refine (read_at ⟨#[128, 128]⟩ (by decide) 3 0 0 ⟨#[]⟩ (by decide) (by decide) _).mono ?_; rintro e w4 ⟨rfl, hb4⟩
  go_wp2_with fail
  refine (size_int 300 300 2 rfl (by decide) (by decide) _).mono ?_; rintro e w' ⟨rfl, rfl⟩
  go_wp2_with fail
  refine (size_out (-1) (by decide) _).mono ?_; rintro e w' ⟨rfl, rfl⟩
  go_wp2_with fail
  go_ret
  exact ⟨rfl, ((hb1.trans (hb2.mono hb1.size)).trans (hb3.mono (by have := hb1.size; have := hb2.size; omega))).trans (hb4.mono (by have := hb1.size; have := hb2.size; have := hb3.size; omega))⟩
end Go.Proofs.Ytnpbjnhjgoafpaa
