/- Layer 32: contracts of Of, Check and Head, whatever came in. -/
import Derived.Test.YtmpmioffngonjaaLv
import Derived.Test.YtmpmioffngonjaaOwn
namespace Go.Proofs.Ytmpmioffngonjaa
open Go.ChangeShapes Go.WideShapes Go.ChangeAt Go.RowKit
set_option linter.unusedVariables false
set_option maxRecDepth 100000

def Of32 (f : Nat) (n W D P E : Int) : Prop := ∀ w, Calls Try.prog f #[.int .i64 n] w fun e w' => e = .returned (.tuple #[.agg #[.int .i64 W, .int .i64 D, .int .i64 P], .int .i64 E]) ∧ Below w.heap.size w w'
theorem lvOfOut (n : Int) (h : n < 0 ∨ 9 < n) : Of32 42 n 0 0 0 2 := by
  intro w
  rcases h with h | h
  · go_enter Try.func42, Try.ntmps42
    go_wp2
    exact bodyPost_ret (v := .tuple #[_, _]) (by simp [results, Try.results42, go_sem]) rfl ⟨rfl, (Below.refl _ _).alloc (Nat.le_refl _) _⟩
  · have h' : ¬ n < 0 := by omega
    go_enter Try.func42, Try.ntmps42
    go_wp2
    exact bodyPost_ret (v := .tuple #[_, _]) (by simp [results, Try.results42, go_sem]) rfl ⟨rfl, (Below.refl _ _).alloc (Nat.le_refl _) _⟩
theorem rOfOut (n : Int) (h : n < 0 ∨ 9 < n) : Of32 43 n 0 0 0 2 := by
  intro w
  rcases h with h | h
  · go_enter Try.func43, Try.ntmps43
    go_wp2
    exact bodyPost_ret (v := .tuple #[_, _]) (by simp [results, Try.results43, go_sem]) rfl ⟨rfl, (Below.refl _ _).alloc (Nat.le_refl _) _⟩
  · have h' : ¬ n < 0 := by omega
    go_enter Try.func43, Try.ntmps43
    go_wp2
    exact bodyPost_ret (v := .tuple #[_, _]) (by simp [results, Try.results43, go_sem]) rfl ⟨rfl, (Below.refl _ _).alloc (Nat.le_refl _) _⟩
theorem rOf_0 : Of32 43 0 0 0 0 0 := by
  intro w
  go_enter Try.func43, Try.ntmps43
  go_wp2
  exact bodyPost_ret (v := .tuple #[_, _]) (by simp [results, Try.results43, go_sem]) rfl ⟨rfl, by go_grown⟩
theorem rOf_1 : Of32 43 1 1 4 0 0 := by
  intro w
  go_enter Try.func43, Try.ntmps43
  go_wp2
  exact bodyPost_ret (v := .tuple #[_, _]) (by simp [results, Try.results43, go_sem]) rfl ⟨rfl, by go_grown⟩
theorem rOf_2 : Of32 43 2 1 16 0 0 := by
  intro w
  go_enter Try.func43, Try.ntmps43
  go_wp2
  exact bodyPost_ret (v := .tuple #[_, _]) (by simp [results, Try.results43, go_sem]) rfl ⟨rfl, by go_grown⟩
theorem rOf_3 : Of32 43 3 1 64 0 0 := by
  intro w
  go_enter Try.func43, Try.ntmps43
  go_wp2
  exact bodyPost_ret (v := .tuple #[_, _]) (by simp [results, Try.results43, go_sem]) rfl ⟨rfl, by go_grown⟩
theorem rOf_4 : Of32 43 4 2 16 0 0 := by
  intro w
  go_enter Try.func43, Try.ntmps43
  go_wp2
  exact bodyPost_ret (v := .tuple #[_, _]) (by simp [results, Try.results43, go_sem]) rfl ⟨rfl, by go_grown⟩
theorem rOf_5 : Of32 43 5 2 64 0 0 := by
  intro w
  go_enter Try.func43, Try.ntmps43
  go_wp2
  exact bodyPost_ret (v := .tuple #[_, _]) (by simp [results, Try.results43, go_sem]) rfl ⟨rfl, by go_grown⟩
theorem rOf_6 : Of32 43 6 2 256 0 0 := by
  intro w
  go_enter Try.func43, Try.ntmps43
  go_wp2
  exact bodyPost_ret (v := .tuple #[_, _]) (by simp [results, Try.results43, go_sem]) rfl ⟨rfl, by go_grown⟩
theorem rOf_7 : Of32 43 7 3 134217728 0 0 := by
  intro w
  go_enter Try.func43, Try.ntmps43
  go_wp2
  exact bodyPost_ret (v := .tuple #[_, _]) (by simp [results, Try.results43, go_sem]) rfl ⟨rfl, by go_grown⟩
theorem rOf_8 : Of32 43 8 3 134217728 1 0 := by
  intro w
  go_enter Try.func43, Try.ntmps43
  go_wp2
  exact bodyPost_ret (v := .tuple #[_, _]) (by simp [results, Try.results43, go_sem]) rfl ⟨rfl, by go_grown⟩
theorem rOf_9 : Of32 43 9 3 134217728 2 0 := by
  intro w
  go_enter Try.func43, Try.ntmps43
  go_wp2
  exact bodyPost_ret (v := .tuple #[_, _]) (by simp [results, Try.results43, go_sem]) rfl ⟨rfl, by go_grown⟩
theorem rOfIn (n : Nat) (h : n < 10) : Of32 43 n (lvWay n) (lvDepth n) (lvPasses n) 0 := by
  obtain rfl | rfl | rfl | rfl | rfl | rfl | rfl | rfl | rfl | rfl : n = 0 ∨ n = 1 ∨ n = 2 ∨ n = 3 ∨ n = 4 ∨ n = 5 ∨ n = 6 ∨ n = 7 ∨ n = 8 ∨ n = 9 := by omega
  · exact rOf_0
  · exact rOf_1
  · exact rOf_2
  · exact rOf_3
  · exact rOf_4
  · exact rOf_5
  · exact rOf_6
  · exact rOf_7
  · exact rOf_8
  · exact rOf_9
theorem Of_both (n : Int) : ∃ W D P E, Of32 42 n W D P E ∧ Of32 43 n W D P E := by
  by_cases h : n < 0 ∨ 9 < n
  · exact ⟨_, _, _, _, lvOfOut n h, rOfOut n h⟩
  · obtain ⟨k, rfl⟩ : ∃ k : Nat, n = k := ⟨n.toNat, by omega⟩
    exact ⟨_, _, _, _, fun w => lvOf k (by omega) w, rOfIn k (by omega)⟩
end Go.Proofs.Ytmpmioffngonjaa
