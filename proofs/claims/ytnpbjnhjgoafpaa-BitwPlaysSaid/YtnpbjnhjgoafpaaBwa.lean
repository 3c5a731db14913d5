/- Layer 1's awake, and writers that are none. -/
import Derived.Test.YtnpbjnhjgoafpaaBz
namespace Go.Proofs.Ytnpbjnhjgoafpaa
open Go.ChangeShapes Go.WideShapes Go.ChangeAt Go.RowKit
set_option linter.unusedVariables false
set_option maxRecDepth 100000
open Bits

theorem foot_lt {w : World} {g B : Nat} {l : List Bool} (h : IsWriter w g B l) : ∀ k, foot w g k → k < w.heap.size := by
  obtain ⟨v, bs, r, n, ⟨hg, hown, hB, hbl⟩, hm, hr, hsp⟩ := h
  intro k hk
  rcases hk with rfl | ⟨v', hv, hb⟩
  · exact block_lt hg
  · rw [cell_in hg 0] at hv
    simp at hv
    subst hv
    exact (hown.lt k hb).2
theorem IsWriter.keep {w w' : World} {g B : Nat} {l : List Bool} {S : Nat → Prop} (h : IsWriter w g B l) (hk : Keeps S w w') (hd : ∀ k, foot w g k → ¬ S k) : IsWriter w' g B l ∧ ∀ k, foot w' g k ↔ foot w g k := by
  have hlt := foot_lt h
  obtain ⟨v, bs, r, n, ⟨hg, hown, hB, hbl⟩, hm, hr, hsp⟩ := h
  have hg' := hk.heap hg (hd g (.inl rfl))
  have c : w.cell? ⟨g, 0, none⟩ = some v := cell_lit hg 0 v rfl
  have c' : w'.cell? ⟨g, 0, none⟩ = some v := cell_lit hg' 0 v rfl
  refine ⟨⟨v, bs, r, n, ⟨hg', hk.ownsRow hown (fun k hb => hd k (.inr ⟨v, c, hb⟩)), Nat.le_trans hB hk.size, hbl⟩, hm, hr, hsp⟩, fun k => ?_⟩
  unfold foot; rw [c, c']
theorem IsWriter.drewN {w : World} {g B : Nat} {l : List Bool} (h : IsWriter w g B l) (k : Nat) : IsWriter (w.drewN k) g B l := h
theorem put_frame {w0 w w' : World} {g n : Nat} (hb : Below n w0 w) (hn : n ≤ w.heap.size) (hf : ∀ k, foot w g k → n ≤ k) (hk : Keeps (foot w g) w w') (hf' : ∀ k, foot w' g k → foot w g k ∨ w.heap.size ≤ k) : Below n w0 w' ∧ ∀ k, foot w' g k → n ≤ k := by
  refine ⟨hb.trans (hk.below (fun k hk' => ⟨Nat.lt_of_lt_of_le hk' hn, fun h => by have := hf k h; omega⟩)), fun k h => ?_⟩
  rcases hf' k h with h | h
  · exact hf k h
  · omega
theorem wAlign (w : World) (g B : Nat) (l : List Bool) (h : IsWriter w g B l) (hl : l.length ≤ 900000000000) : Calls Try.prog 18 #[.pointer (some ⟨g, 0, none⟩)] w fun e w' =>
    e = .returned (.int .i64 (lack l.length)) ∧ IsWriter w' g B (l ++ bitsOf 0 (lack l.length)) ∧ Keeps (foot w g) w w' ∧ ∀ k, foot w' g k → foot w g k ∨ w.heap.size ≤ k := by
  have hlk : lack l.length < 8 := by unfold lack; omega
  have Q := Lib.hid (wPut w g B l 0 (lack l.length) h (by omega) (Nat.pow_pos (by decide)) (by omega))
  obtain ⟨v, bs, r, n, ⟨hg, hown, hB, hbl⟩, hm, hr, hsp⟩ := h
  have hc := cell_in hg 2
  simp at hc
  have HE : Hid (-(n : Int) % 8 = ((lack l.length : Nat) : Int)) := by
    show _ = _
    have hlen : l.length = 8 * bs.length + n := by rw [← hsp, List.length_append, spread_length, bitsOf_length]
    unfold lack; rw [hlen]; omega
  clear hg hown hB hbl hr hsp
  go_enter Try.func18, Try.ntmps18
  go_wp2_with fail
  rw [HE.out]
  refine Q.out.mono ?_; rintro e w1 ⟨rfl, hr, hk, hz⟩
  go_wp2_with fail
  go_ret
  exact ⟨ret_i HE.out, hr, hk, hz⟩
set_option maxHeartbeats 1600000 in
theorem awake01 (w : World) : Calls Try.prog 15 #[] w fun e w' => e = .returned (.bool true) ∧ Below w.heap.size w w' := by
  go_enter Try.func15, Try.ntmps15
  go_wp2_with fail
  refine (wNew _).mono ?_; rintro e w1 ⟨rfl, hw1, hb1, hz1, hf1⟩
  go_wp2_with fail
  refine (wPut _ _ _ _ 1 1 hw1 (by decide) (by decide) (by decide)).mono ?_; rintro e w2 ⟨rfl, hw2, hk2, hq2⟩
  obtain ⟨hb2, hf2⟩ := put_frame hb1 (by omega) hf1 hk2 hq2
  clear hb1 hf1 hk2 hq2 hw1
  go_wp2_with fail
  refine (wPut _ _ _ _ 2 2 hw2 (by decide) (by decide) (by decide)).mono ?_; rintro e w3 ⟨rfl, hw3, hk3, hq3⟩
  obtain ⟨hb3, hf3⟩ := put_frame hb2 hb2.size hf2 hk3 hq3
  clear hb2 hf2 hk3 hq3 hw2
  go_wp2_with fail
  refine (wPutOut _ 4 2 (.inr (.inr ⟨by decide, by decide⟩)) (by decide) _).mono ?_; rintro e w4 ⟨rfl, hb4⟩
  obtain ⟨hw4, hq4⟩ := hw3.keep (S := fun _ => False) (Keeps.of_below hb4) (fun _ _ h => h)
  have hf4 : ∀ k, foot w4 w.heap.size k → w.heap.size ≤ k := fun k h => hf3 k ((hq4 k).1 h)
  have hc4 := hb3.trans (hb4.mono hb3.size)
  clear hb3 hf3 hb4 hq4 hw3
  go_wp2_with fail
  refine (wPutOut _ 0 57 (.inr (.inl (by decide))) (by decide) _).mono ?_; rintro e w5 ⟨rfl, hb5⟩
  obtain ⟨hw5, hq5⟩ := hw4.keep (S := fun _ => False) (Keeps.of_below hb5) (fun _ _ h => h)
  have hf5 : ∀ k, foot w5 w.heap.size k → w.heap.size ≤ k := fun k h => hf4 k ((hq5 k).1 h)
  have hc5 := hc4.trans (hb5.mono hc4.size)
  clear hc4 hf4 hb5 hq5 hw4
  go_wp2_with fail
  refine (wBytes _ _ _ _ hw5).mono ?_; rintro e w6 ⟨rfl, hb6⟩
  rw [show pack ([] ++ bitsOf 1 1 ++ bitsOf 2 2) = [5] from by decide]
  obtain ⟨hw6, hq6⟩ := hw5.keep (S := fun _ => False) (Keeps.of_below hb6) (fun _ _ h => h)
  have hf6 : ∀ k, foot w6 w.heap.size k → w.heap.size ≤ k := fun k h => hf5 k ((hq6 k).1 h)
  have hc6 := hc5.trans (hb6.mono hc5.size)
  clear hc5 hf5 hb6 hq6 hw5
  go_wp2_with fail
  refine (wLen _ _ _ _ hw6).mono ?_; rintro e w7 ⟨rfl, k7, rfl⟩
  rw [show (([] : List Bool) ++ bitsOf 1 1 ++ bitsOf 2 2).length = 3 from by decide]
  go_wp2_with fail
  refine (wAlign _ _ _ _ (hw6.drewN k7) (by decide)).mono ?_; rintro e w8 ⟨rfl, hw8, hk8, hq8⟩
  rw [show lack (([] : List Bool) ++ bitsOf 1 1 ++ bitsOf 2 2).length = 5 from by decide] at *
  obtain ⟨hb8, hf8⟩ := put_frame (below_drewN hc6 k7) hc6.size hf6 hk8 hq8
  clear hc6 hf6 hk8 hq8 hw6
  go_wp2_with fail
  refine (wLen _ _ _ _ hw8).mono ?_; rintro e w9 ⟨rfl, k9, rfl⟩
  rw [show (([] : List Bool) ++ bitsOf 1 1 ++ bitsOf 2 2 ++ bitsOf 0 5).length = 8 from by decide]
  go_wp2_with fail
  refine (wAlign _ _ _ _ (hw8.drewN k9) (by decide)).mono ?_; rintro e w10 ⟨rfl, hw10, hk10, hq10⟩
  rw [show lack (([] : List Bool) ++ bitsOf 1 1 ++ bitsOf 2 2 ++ bitsOf 0 5).length = 0 from by decide] at *
  obtain ⟨hb10, hf10⟩ := put_frame (below_drewN hb8 k9) hb8.size hf8 hk10 hq10
  clear hb8 hf8 hk10 hq10
  go_wp2_with fail
  go_ret
  exact ⟨rfl, hb10⟩
end Go.Proofs.Ytnpbjnhjgoafpaa
