/- Layer 49: what each function answers, whatever came in; the examples. -/
import Derived.Test.YtekageibffhloaaZv
namespace Go.Proofs.Ytekageibffhloaa
open Go.ChangeShapes Go.WideShapes Go.ChangeAt Go.RowKit
set_option linter.unusedVariables false
set_option maxRecDepth 100000
open ZerosMath

theorem over_short (l : List Int) : ∀ p c, c ≤ 1048576 → over p c l = false → c + (unpackL p l).length ≤ 1048576 := by
  induction l with
  | nil => intro p c hc h; simp [unpackL]; exact hc
  | cons x l ih =>
    intro p c hc h
    simp only [over] at h
    simp only [unpackL]
    by_cases hx : x ≤ 1
    · rw [if_pos hx] at h ⊢
      by_cases hm : 1048576 - c < p * (x.toNat + 1)
      · rw [if_pos hm] at h; cases h
      · rw [if_neg hm] at h
        have := ih _ _ (by omega) h
        simp; omega
    · rw [if_neg hx] at h ⊢
      by_cases hm : 1048576 - c < 1
      · rw [if_pos hm] at h; cases h
      · rw [if_neg hm] at h
        have := ih _ _ (by omega) h
        simp; omega
def packE (l : List Int) : Int := if inB l 1048576 then 0 else 2
def packR (l : List Int) : List Int := if inB l 1048576 then packL 0 l else []
def unE (l : List Int) : Int := if inB l 1048577 then (if over 1 0 l then 5 else 0) else 2
def unR (l : List Int) : List Int := if inB l 1048577 then (if over 1 0 l then [] else unpackL 1 l) else []
def Answers (r : List Int) (E : Int) (w : World) (e : Ending) (w' : World) : Prop := ∃ v', e = .returned (.tuple #[v', .int .i64 E]) ∧ IsL w' v' r ∧ Below w.heap.size w w'
theorem zPackA {v : Value} {l : List Int} {w : World} (h : IsL w v l) (hl : l.length ≤ 1100000) : Calls Try.prog 45 #[v] w (Answers (packR l) (packE l) w) := by
  obtain ⟨a, c, rfl, h⟩ := h
  unfold packR packE
  rcases hB : inB l 1048576 with _ | _
  · exact (zPackBad a c l w h hB).mono fun e w' ⟨he, hw⟩ => by subst hw; exact ⟨_, he, IsL.nil _, Below.refl _ _⟩
  · refine (zPack a c l w h hB hl).mono fun e w' ⟨v', he, ho, hb⟩ => ⟨v', he, own_isL ho ?_, hb⟩
    have := packL_length 0 l
    show (packL 0 l).length ≤ _
    omega
theorem rPackA {v : Value} {l : List Int} {w : World} (h : IsL w v l) (hl : l.length ≤ 4000) : Calls Try.prog 46 #[v] w (Answers (packR l) (packE l) w) := by
  obtain ⟨a, c, rfl, h⟩ := h
  unfold packR packE
  rcases hB : inB l 1048576 with _ | _
  · exact (rPackBad a c l w h hB).mono fun e w' ⟨he, hw⟩ => by subst hw; exact ⟨_, he, IsL.nil _, Below.refl _ _⟩
  · refine (rPack a c l w h hB hl).mono fun e w' ⟨v', he, ho, hb⟩ => ⟨v', he, own_isL ho ?_, hb⟩
    have := packL_length 0 l
    show (packL 0 l).length ≤ _
    omega
theorem un_post {l : List Int} {w : World} {e : Ending} {w' : World} (h : UPost (over 1 0 l) l w e w') : Answers (if over 1 0 l then [] else unpackL 1 l) (if over 1 0 l then 5 else 0) w e w' := by
  obtain ⟨hb, h⟩ := h
  rcases h with ⟨h, he⟩ | ⟨h, v', he, ho⟩
  · rw [h]; exact ⟨_, he, IsL.nil _, hb⟩
  · have := over_short l 1 0 (by omega) h
    rw [h]; exact ⟨v', he, own_isL ho (by show (unpackL 1 l).length ≤ _; omega), hb⟩
theorem zUnA {v : Value} {l : List Int} {w : World} (h : IsL w v l) (hl : l.length ≤ 2000) : Calls Try.prog 47 #[v] w (Answers (unR l) (unE l) w) := by
  obtain ⟨a, c, rfl, h⟩ := h
  unfold unR unE
  rcases hB : inB l 1048577 with _ | _
  · exact (zUnBad a c l w h hB).mono fun e w' ⟨he, hw⟩ => by subst hw; exact ⟨_, he, IsL.nil _, Below.refl _ _⟩
  · exact (zUn a c l w h hB hl _ rfl).mono fun e w' h => un_post h
theorem rUnA {v : Value} {l : List Int} {w : World} (h : IsL w v l) (hl : l.length ≤ 2000) : Calls Try.prog 48 #[v] w (Answers (unR l) (unE l) w) := by
  obtain ⟨a, c, rfl, h⟩ := h
  unfold unR unE
  rcases hB : inB l 1048577 with _ | _
  · exact (rUnBad a c l w h hB).mono fun e w' ⟨he, hw⟩ => by subst hw; exact ⟨_, he, IsL.nil _, Below.refl _ _⟩
  · exact (rUn a c l w h hB hl _ rfl).mono fun e w' h => un_post h
theorem lit_isL (w : World) (l : List Int) (hl : l.length ≤ 70368744177664) : IsL (w.alloc (.cells (l.map (Value.int .i64 ·)).toArray 3)) (.slice (some ⟨w.heap.size, 0, none⟩) l.length l.length) l := ⟨_, _, rfl, IsInts.new w l 3 (0, 0) hl⟩
theorem pk1 (w : World) (n : Nat) (hn : n = w.heap.size) : Calls Try.prog 45 #[.slice (some ⟨n, 0, none⟩) 4 4] (w.alloc (.cells #[.int .i64 5, .int .i64 0, .int .i64 0, .int .i64 0] 3)) (Answers [6, 0, 0] 0 (w.alloc (.cells #[.int .i64 5, .int .i64 0, .int .i64 0, .int .i64 0] 3))) := by
  subst hn
  have h := zPackA (lit_isL w [5, 0, 0, 0] (by decide)) (by decide)
  rw [show packR [5, 0, 0, 0] = [6, 0, 0] by decide, show packE [5, 0, 0, 0] = 0 by decide] at h
  exact h
theorem un1 (w : World) (n : Nat) (hn : n = w.heap.size) : Calls Try.prog 47 #[.slice (some ⟨n, 0, none⟩) 3 3] (w.alloc (.cells #[.int .i64 1, .int .i64 0, .int .i64 3] 3)) (Answers [0, 0, 0, 0, 2] 0 (w.alloc (.cells #[.int .i64 1, .int .i64 0, .int .i64 3] 3))) := by
  subst hn
  have h := zUnA (lit_isL w [1, 0, 3] (by decide)) (by decide)
  rw [show unR [1, 0, 3] = [0, 0, 0, 0, 2] by decide, show unE [1, 0, 3] = 0 by decide] at h
  exact h
theorem pk2 (w : World) (n : Nat) (hn : n = w.heap.size) : Calls Try.prog 45 #[.slice (some ⟨n, 0, none⟩) 1 1] (w.alloc (.cells #[.int .i64 (-1)] 3)) (Answers [] 2 (w.alloc (.cells #[.int .i64 (-1)] 3))) := by
  subst hn
  have h := zPackA (lit_isL w [-1] (by decide)) (by decide)
  rw [show packR [-1] = [] by decide, show packE [-1] = 2 by decide] at h
  exact h
theorem below_new {w w' : World} {o : Obj} (hb : Below (w.alloc o).heap.size (w.alloc o) w') : Below w.heap.size w w' := ((Below.refl _ _).alloc (Nat.le_refl _) o).trans (hb.mono (by simp))
theorem make21 : ∃ ROW : Array Value, (∀ w : World, (Instr.makeSlice 22 (.int .i64 21) (.int .i64 21)).run Try.prog w = .ok (.slice (some ⟨w.heap.size, 0, none⟩) 21 21) (w.alloc (.cells ROW 3))) ∧
    ∀ w : World, IsL (w.alloc (.cells ROW 3)) (.slice (some ⟨w.heap.size, 0, none⟩) 21 21) (List.replicate 21 0) :=
  ⟨((List.replicate 21 (0 : Int)).map (Value.int .i64 ·)).toArray, fun w => by kernel_rfl, fun w => lit_isL w (List.replicate 21 0) (by decide)⟩
theorem un2 {w : World} {v : Value} (h : IsL w v (List.replicate 21 0)) : Calls Try.prog 47 #[v] w (Answers [] 5 w) := by
  have h := zUnA h (by decide)
  rw [show unR (List.replicate 21 0) = [] by decide, show unE (List.replicate 21 0) = 5 by decide] at h
  exact h
theorem lit3 (w : World) : IsL (w.alloc (.cells #[.int .i64 6, .int .i64 0, .int .i64 0] 3)) (.slice (some ⟨w.heap.size, 0, none⟩) 3 3) [6, 0, 0] := lit_isL w [6, 0, 0] (by decide)
theorem lit5 (w : World) (n : Nat) (hn : n = w.heap.size) : IsL (w.alloc (.cells #[.int .i64 0, .int .i64 0, .int .i64 0, .int .i64 0, .int .i64 2] 3)) (.slice (some ⟨n, 0, none⟩) 5 5) [0, 0, 0, 0, 2] := by subst hn; exact lit_isL w [0, 0, 0, 0, 2] (by decide)
set_option maxHeartbeats 1600000 in
theorem awake49 (w : World) : Calls Try.prog 44 #[] w fun e w' => e = .returned (.bool true) ∧ Below w.heap.size w w' := by
  obtain ⟨ROW, hmk, hr⟩ := make21
  have HR := Lib.hid hr
  clear hr
  go_enter Try.func44, Try.ntmps44
  go_wp2_with fail
  refine (pk1 _ _ (by simp)).mono ?_; rintro e w1 ⟨v1, rfl, h1, hb⟩
  have hb := below_new hb
  go_wp2_with fail
  refine (un1 _ _ (by simp)).mono ?_; rintro e w2 ⟨v2, rfl, h2, hb2⟩
  have hb2 := below_new hb2
  have h1 := h1.kept hb2
  have hb := hb.trans (hb2.mono hb.size)
  clear hb2
  go_wp2_with fail
  refine (pk2 _ _ (by simp)).mono ?_; rintro e w3 ⟨v3, rfl, h3, hb2⟩
  have hb2 := below_new hb2
  have h1 := h1.kept hb2
  have h2 := h2.kept hb2
  have hb := hb.trans (hb2.mono hb.size)
  clear hb2
  go_wp2_with fail
  refine (un2 (HR.out _)).mono ?_; rintro e w4 ⟨v4, rfl, h4, hb2⟩
  have hb2 := below_new hb2
  have h1 := h1.kept hb2
  have h2 := h2.kept hb2
  have hb := hb.trans (hb2.mono hb.size)
  clear hb2 h3 h4 hmk
  go_wp2_with fail
  refine (intsL (h1.kept ((Below.refl _ _).alloc (Nat.le_refl _) _)) (lit3 _) true (by decide)).mono ?_
  rintro e w5 ⟨rfl, q1, rfl⟩
  have hb := hb.alloc hb.size (.cells #[.int .i64 6, .int .i64 0, .int .i64 0] 3)
  have h2 := h2.kept ((Below.refl _ _).alloc (Nat.le_refl _) (.cells #[.int .i64 6, .int .i64 0, .int .i64 0] 3))
  have h2 := h2.drewN q1
  have hb := below_drewN hb q1
  clear h1
  go_wp2_with fail
  refine (intsL (h2.kept ((Below.refl _ _).alloc (Nat.le_refl _) _)) (lit5 _ _ (by simp)) true (by decide)).mono ?_
  rintro e w5 ⟨rfl, q2, rfl⟩
  have hb := below_drewN (hb.alloc hb.size (.cells #[.int .i64 0, .int .i64 0, .int .i64 0, .int .i64 0, .int .i64 2] 3)) q2
  clear h2
  go_wp2_with fail
  go_ret
  exact ⟨rfl, by first | exact hb | simpa using hb⟩
end Go.Proofs.Ytekageibffhloaa
