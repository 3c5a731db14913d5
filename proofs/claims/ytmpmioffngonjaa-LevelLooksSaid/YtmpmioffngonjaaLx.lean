/- Layer 32: contracts of Check, whatever came in. -/
import Derived.Test.YtmpmioffngonjaaLv
import Derived.Test.YtmpmioffngonjaaOwn
namespace Go.Proofs.Ytmpmioffngonjaa
open Go.ChangeShapes Go.WideShapes Go.ChangeAt Go.RowKit
set_option linter.unusedVariables false
set_option maxRecDepth 100000

def chk32 (lv lg : Int) (n : Nat) : Int := if lv < 0 ∨ 9 < lv then 2 else if lg < 15 ∨ 26 < lg then 12 else if 2 ^ lg.toNat < n then 13 else 0
def Ck32 (f : Nat) (lv lg : Int) (s : ByteArray) (E : Int) : Prop := ∀ w, Calls Try.prog f #[.agg #[.int .i64 lv, .int .i64 lg, .string s]] w fun e w' => e = .returned (.int .i64 E) ∧ Below w.heap.size w w'
theorem ck46_g15 (lv : Int) (s : ByteArray) (hs : s.size ≤ 100000) (a1 : 0 ≤ lv) (a2 : lv ≤ 9) (h3 : (32768 : Int) < s.size) : Ck32 46 lv 15 s 13 := by
  intro w
  go_enter Try.func46, Try.ntmps46
  go_wp2
  go_quiet (fail)
  go_wp2
  go_ret
  exact ⟨rfl, below_drewN ((Below.refl _ _).alloc (Nat.le_refl _) _) _⟩
theorem ck46_l15 (lv : Int) (s : ByteArray) (hs : s.size ≤ 100000) (a1 : 0 ≤ lv) (a2 : lv ≤ 9) (h3 : (s.size : Int) ≤ 32768) : Ck32 46 lv 15 s 0 := by
  intro w
  go_enter Try.func46, Try.ntmps46
  go_wp2
  go_quiet (fail)
  go_wp2
  go_ret
  exact ⟨rfl, below_drewN ((Below.refl _ _).alloc (Nat.le_refl _) _) _⟩
theorem ck46_g16 (lv : Int) (s : ByteArray) (hs : s.size ≤ 100000) (a1 : 0 ≤ lv) (a2 : lv ≤ 9) (h3 : (65536 : Int) < s.size) : Ck32 46 lv 16 s 13 := by
  intro w
  go_enter Try.func46, Try.ntmps46
  go_wp2
  go_quiet (fail)
  go_wp2
  go_ret
  exact ⟨rfl, below_drewN ((Below.refl _ _).alloc (Nat.le_refl _) _) _⟩
theorem ck46_l16 (lv : Int) (s : ByteArray) (hs : s.size ≤ 100000) (a1 : 0 ≤ lv) (a2 : lv ≤ 9) (h3 : (s.size : Int) ≤ 65536) : Ck32 46 lv 16 s 0 := by
  intro w
  go_enter Try.func46, Try.ntmps46
  go_wp2
  go_quiet (fail)
  go_wp2
  go_ret
  exact ⟨rfl, below_drewN ((Below.refl _ _).alloc (Nat.le_refl _) _) _⟩
theorem ck46_l17 (lv : Int) (s : ByteArray) (hs : s.size ≤ 100000) (a1 : 0 ≤ lv) (a2 : lv ≤ 9) (h3 : (s.size : Int) ≤ 131072) : Ck32 46 lv 17 s 0 := by
  intro w
  go_enter Try.func46, Try.ntmps46
  go_wp2
  go_quiet (fail)
  go_wp2
  go_ret
  exact ⟨rfl, below_drewN ((Below.refl _ _).alloc (Nat.le_refl _) _) _⟩
theorem ck46_l18 (lv : Int) (s : ByteArray) (hs : s.size ≤ 100000) (a1 : 0 ≤ lv) (a2 : lv ≤ 9) (h3 : (s.size : Int) ≤ 262144) : Ck32 46 lv 18 s 0 := by
  intro w
  go_enter Try.func46, Try.ntmps46
  go_wp2
  go_quiet (fail)
  go_wp2
  go_ret
  exact ⟨rfl, below_drewN ((Below.refl _ _).alloc (Nat.le_refl _) _) _⟩
theorem ck46_l19 (lv : Int) (s : ByteArray) (hs : s.size ≤ 100000) (a1 : 0 ≤ lv) (a2 : lv ≤ 9) (h3 : (s.size : Int) ≤ 524288) : Ck32 46 lv 19 s 0 := by
  intro w
  go_enter Try.func46, Try.ntmps46
  go_wp2
  go_quiet (fail)
  go_wp2
  go_ret
  exact ⟨rfl, below_drewN ((Below.refl _ _).alloc (Nat.le_refl _) _) _⟩
theorem ck46_l20 (lv : Int) (s : ByteArray) (hs : s.size ≤ 100000) (a1 : 0 ≤ lv) (a2 : lv ≤ 9) (h3 : (s.size : Int) ≤ 1048576) : Ck32 46 lv 20 s 0 := by
  intro w
  go_enter Try.func46, Try.ntmps46
  go_wp2
  go_quiet (fail)
  go_wp2
  go_ret
  exact ⟨rfl, below_drewN ((Below.refl _ _).alloc (Nat.le_refl _) _) _⟩
theorem ck46_l21 (lv : Int) (s : ByteArray) (hs : s.size ≤ 100000) (a1 : 0 ≤ lv) (a2 : lv ≤ 9) (h3 : (s.size : Int) ≤ 2097152) : Ck32 46 lv 21 s 0 := by
  intro w
  go_enter Try.func46, Try.ntmps46
  go_wp2
  go_quiet (fail)
  go_wp2
  go_ret
  exact ⟨rfl, below_drewN ((Below.refl _ _).alloc (Nat.le_refl _) _) _⟩
theorem ck46_l22 (lv : Int) (s : ByteArray) (hs : s.size ≤ 100000) (a1 : 0 ≤ lv) (a2 : lv ≤ 9) (h3 : (s.size : Int) ≤ 4194304) : Ck32 46 lv 22 s 0 := by
  intro w
  go_enter Try.func46, Try.ntmps46
  go_wp2
  go_quiet (fail)
  go_wp2
  go_ret
  exact ⟨rfl, below_drewN ((Below.refl _ _).alloc (Nat.le_refl _) _) _⟩
theorem ck46_l23 (lv : Int) (s : ByteArray) (hs : s.size ≤ 100000) (a1 : 0 ≤ lv) (a2 : lv ≤ 9) (h3 : (s.size : Int) ≤ 8388608) : Ck32 46 lv 23 s 0 := by
  intro w
  go_enter Try.func46, Try.ntmps46
  go_wp2
  go_quiet (fail)
  go_wp2
  go_ret
  exact ⟨rfl, below_drewN ((Below.refl _ _).alloc (Nat.le_refl _) _) _⟩
theorem ck46_l24 (lv : Int) (s : ByteArray) (hs : s.size ≤ 100000) (a1 : 0 ≤ lv) (a2 : lv ≤ 9) (h3 : (s.size : Int) ≤ 16777216) : Ck32 46 lv 24 s 0 := by
  intro w
  go_enter Try.func46, Try.ntmps46
  go_wp2
  go_quiet (fail)
  go_wp2
  go_ret
  exact ⟨rfl, below_drewN ((Below.refl _ _).alloc (Nat.le_refl _) _) _⟩
theorem ck46_l25 (lv : Int) (s : ByteArray) (hs : s.size ≤ 100000) (a1 : 0 ≤ lv) (a2 : lv ≤ 9) (h3 : (s.size : Int) ≤ 33554432) : Ck32 46 lv 25 s 0 := by
  intro w
  go_enter Try.func46, Try.ntmps46
  go_wp2
  go_quiet (fail)
  go_wp2
  go_ret
  exact ⟨rfl, below_drewN ((Below.refl _ _).alloc (Nat.le_refl _) _) _⟩
theorem ck46_l26 (lv : Int) (s : ByteArray) (hs : s.size ≤ 100000) (a1 : 0 ≤ lv) (a2 : lv ≤ 9) (h3 : (s.size : Int) ≤ 67108864) : Ck32 46 lv 26 s 0 := by
  intro w
  go_enter Try.func46, Try.ntmps46
  go_wp2
  go_quiet (fail)
  go_wp2
  go_ret
  exact ⟨rfl, below_drewN ((Below.refl _ _).alloc (Nat.le_refl _) _) _⟩
theorem ck46_any (lv lg : Int) (s : ByteArray) (hs : s.size ≤ 100000) : Ck32 46 lv lg s (chk32 lv lg s.size) := by
  by_cases h1 : lv < 0 ∨ 9 < lv
  · rw [show chk32 lv lg s.size = 2 by unfold chk32; rw [if_pos h1]]
    intro w
    rcases h1 with h1 | h1
    · go_enter Try.func46, Try.ntmps46
      go_wp2
      go_ret
      exact ⟨rfl, (Below.refl _ _).alloc (Nat.le_refl _) _⟩
    · have h1' : ¬ lv < 0 := by omega
      go_enter Try.func46, Try.ntmps46
      go_wp2
      go_ret
      exact ⟨rfl, (Below.refl _ _).alloc (Nat.le_refl _) _⟩
  · have a1 : 0 ≤ lv := by omega
    have a2 : lv ≤ 9 := by omega
    by_cases h2 : lg < 15 ∨ 26 < lg
    · rw [show chk32 lv lg s.size = 12 by unfold chk32; rw [if_neg h1, if_pos h2]]
      clear h1
      intro w
      rcases h2 with h2 | h2
      · go_enter Try.func46, Try.ntmps46
        go_wp2
        go_ret
        exact ⟨rfl, (Below.refl _ _).alloc (Nat.le_refl _) _⟩
      · have h2' : ¬ lg < 15 := by omega
        go_enter Try.func46, Try.ntmps46
        go_wp2
        go_ret
        exact ⟨rfl, (Below.refl _ _).alloc (Nat.le_refl _) _⟩
    · rw [show chk32 lv lg s.size = if 2 ^ lg.toNat < s.size then 13 else 0 by unfold chk32; rw [if_neg h1, if_neg h2]]
      clear h1
      obtain rfl | rfl | rfl | rfl | rfl | rfl | rfl | rfl | rfl | rfl | rfl | rfl : lg = 15 ∨ lg = 16 ∨ lg = 17 ∨ lg = 18 ∨ lg = 19 ∨ lg = 20 ∨ lg = 21 ∨ lg = 22 ∨ lg = 23 ∨ lg = 24 ∨ lg = 25 ∨ lg = 26 := by omega
      · by_cases h3 : 2 ^ ((15 : Int).toNat) < s.size
        · rw [if_pos h3]; exact ck46_g15 lv s hs a1 a2 (by have e : 2 ^ ((15 : Int).toNat) = 32768 := by decide
                                                           rw [e] at h3; omega)
        · rw [if_neg h3]; exact ck46_l15 lv s hs a1 a2 (by have e : 2 ^ ((15 : Int).toNat) = 32768 := by decide
                                                           rw [e] at h3; omega)
      · by_cases h3 : 2 ^ ((16 : Int).toNat) < s.size
        · rw [if_pos h3]; exact ck46_g16 lv s hs a1 a2 (by have e : 2 ^ ((16 : Int).toNat) = 65536 := by decide
                                                           rw [e] at h3; omega)
        · rw [if_neg h3]; exact ck46_l16 lv s hs a1 a2 (by have e : 2 ^ ((16 : Int).toNat) = 65536 := by decide
                                                           rw [e] at h3; omega)
      · have e : 2 ^ ((17 : Int).toNat) = 131072 := by decide
        rw [if_neg (by rw [e]; omega)]; exact ck46_l17 lv s hs a1 a2 (by omega)
      · have e : 2 ^ ((18 : Int).toNat) = 262144 := by decide
        rw [if_neg (by rw [e]; omega)]; exact ck46_l18 lv s hs a1 a2 (by omega)
      · have e : 2 ^ ((19 : Int).toNat) = 524288 := by decide
        rw [if_neg (by rw [e]; omega)]; exact ck46_l19 lv s hs a1 a2 (by omega)
      · have e : 2 ^ ((20 : Int).toNat) = 1048576 := by decide
        rw [if_neg (by rw [e]; omega)]; exact ck46_l20 lv s hs a1 a2 (by omega)
      · have e : 2 ^ ((21 : Int).toNat) = 2097152 := by decide
        rw [if_neg (by rw [e]; omega)]; exact ck46_l21 lv s hs a1 a2 (by omega)
      · have e : 2 ^ ((22 : Int).toNat) = 4194304 := by decide
        rw [if_neg (by rw [e]; omega)]; exact ck46_l22 lv s hs a1 a2 (by omega)
      · have e : 2 ^ ((23 : Int).toNat) = 8388608 := by decide
        rw [if_neg (by rw [e]; omega)]; exact ck46_l23 lv s hs a1 a2 (by omega)
      · have e : 2 ^ ((24 : Int).toNat) = 16777216 := by decide
        rw [if_neg (by rw [e]; omega)]; exact ck46_l24 lv s hs a1 a2 (by omega)
      · have e : 2 ^ ((25 : Int).toNat) = 33554432 := by decide
        rw [if_neg (by rw [e]; omega)]; exact ck46_l25 lv s hs a1 a2 (by omega)
      · have e : 2 ^ ((26 : Int).toNat) = 67108864 := by decide
        rw [if_neg (by rw [e]; omega)]; exact ck46_l26 lv s hs a1 a2 (by omega)
theorem ck47_g15 (lv : Int) (s : ByteArray) (hs : s.size ≤ 100000) (a1 : 0 ≤ lv) (a2 : lv ≤ 9) (h3 : (32768 : Int) < s.size) : Ck32 47 lv 15 s 13 := by
  intro w
  go_enter Try.func47, Try.ntmps47
  go_wp2
  go_ret
  exact ⟨rfl, (Below.refl _ _).alloc (Nat.le_refl _) _⟩
theorem ck47_l15 (lv : Int) (s : ByteArray) (hs : s.size ≤ 100000) (a1 : 0 ≤ lv) (a2 : lv ≤ 9) (h3 : (s.size : Int) ≤ 32768) : Ck32 47 lv 15 s 0 := by
  intro w
  go_enter Try.func47, Try.ntmps47
  go_wp2
  go_ret
  exact ⟨rfl, (Below.refl _ _).alloc (Nat.le_refl _) _⟩
theorem ck47_g16 (lv : Int) (s : ByteArray) (hs : s.size ≤ 100000) (a1 : 0 ≤ lv) (a2 : lv ≤ 9) (h3 : (65536 : Int) < s.size) : Ck32 47 lv 16 s 13 := by
  intro w
  go_enter Try.func47, Try.ntmps47
  go_wp2
  go_ret
  exact ⟨rfl, (Below.refl _ _).alloc (Nat.le_refl _) _⟩
theorem ck47_l16 (lv : Int) (s : ByteArray) (hs : s.size ≤ 100000) (a1 : 0 ≤ lv) (a2 : lv ≤ 9) (h3 : (s.size : Int) ≤ 65536) : Ck32 47 lv 16 s 0 := by
  intro w
  go_enter Try.func47, Try.ntmps47
  go_wp2
  go_ret
  exact ⟨rfl, (Below.refl _ _).alloc (Nat.le_refl _) _⟩
theorem ck47_l17 (lv : Int) (s : ByteArray) (hs : s.size ≤ 100000) (a1 : 0 ≤ lv) (a2 : lv ≤ 9) (h3 : (s.size : Int) ≤ 131072) : Ck32 47 lv 17 s 0 := by
  intro w
  go_enter Try.func47, Try.ntmps47
  go_wp2
  go_ret
  exact ⟨rfl, (Below.refl _ _).alloc (Nat.le_refl _) _⟩
theorem ck47_l18 (lv : Int) (s : ByteArray) (hs : s.size ≤ 100000) (a1 : 0 ≤ lv) (a2 : lv ≤ 9) (h3 : (s.size : Int) ≤ 262144) : Ck32 47 lv 18 s 0 := by
  intro w
  go_enter Try.func47, Try.ntmps47
  go_wp2
  go_ret
  exact ⟨rfl, (Below.refl _ _).alloc (Nat.le_refl _) _⟩
theorem ck47_l19 (lv : Int) (s : ByteArray) (hs : s.size ≤ 100000) (a1 : 0 ≤ lv) (a2 : lv ≤ 9) (h3 : (s.size : Int) ≤ 524288) : Ck32 47 lv 19 s 0 := by
  intro w
  go_enter Try.func47, Try.ntmps47
  go_wp2
  go_ret
  exact ⟨rfl, (Below.refl _ _).alloc (Nat.le_refl _) _⟩
theorem ck47_l20 (lv : Int) (s : ByteArray) (hs : s.size ≤ 100000) (a1 : 0 ≤ lv) (a2 : lv ≤ 9) (h3 : (s.size : Int) ≤ 1048576) : Ck32 47 lv 20 s 0 := by
  intro w
  go_enter Try.func47, Try.ntmps47
  go_wp2
  go_ret
  exact ⟨rfl, (Below.refl _ _).alloc (Nat.le_refl _) _⟩
theorem ck47_l21 (lv : Int) (s : ByteArray) (hs : s.size ≤ 100000) (a1 : 0 ≤ lv) (a2 : lv ≤ 9) (h3 : (s.size : Int) ≤ 2097152) : Ck32 47 lv 21 s 0 := by
  intro w
  go_enter Try.func47, Try.ntmps47
  go_wp2
  go_ret
  exact ⟨rfl, (Below.refl _ _).alloc (Nat.le_refl _) _⟩
theorem ck47_l22 (lv : Int) (s : ByteArray) (hs : s.size ≤ 100000) (a1 : 0 ≤ lv) (a2 : lv ≤ 9) (h3 : (s.size : Int) ≤ 4194304) : Ck32 47 lv 22 s 0 := by
  intro w
  go_enter Try.func47, Try.ntmps47
  go_wp2
  go_ret
  exact ⟨rfl, (Below.refl _ _).alloc (Nat.le_refl _) _⟩
theorem ck47_l23 (lv : Int) (s : ByteArray) (hs : s.size ≤ 100000) (a1 : 0 ≤ lv) (a2 : lv ≤ 9) (h3 : (s.size : Int) ≤ 8388608) : Ck32 47 lv 23 s 0 := by
  intro w
  go_enter Try.func47, Try.ntmps47
  go_wp2
  go_ret
  exact ⟨rfl, (Below.refl _ _).alloc (Nat.le_refl _) _⟩
theorem ck47_l24 (lv : Int) (s : ByteArray) (hs : s.size ≤ 100000) (a1 : 0 ≤ lv) (a2 : lv ≤ 9) (h3 : (s.size : Int) ≤ 16777216) : Ck32 47 lv 24 s 0 := by
  intro w
  go_enter Try.func47, Try.ntmps47
  go_wp2
  go_ret
  exact ⟨rfl, (Below.refl _ _).alloc (Nat.le_refl _) _⟩
theorem ck47_l25 (lv : Int) (s : ByteArray) (hs : s.size ≤ 100000) (a1 : 0 ≤ lv) (a2 : lv ≤ 9) (h3 : (s.size : Int) ≤ 33554432) : Ck32 47 lv 25 s 0 := by
  intro w
  go_enter Try.func47, Try.ntmps47
  go_wp2
  go_ret
  exact ⟨rfl, (Below.refl _ _).alloc (Nat.le_refl _) _⟩
theorem ck47_l26 (lv : Int) (s : ByteArray) (hs : s.size ≤ 100000) (a1 : 0 ≤ lv) (a2 : lv ≤ 9) (h3 : (s.size : Int) ≤ 67108864) : Ck32 47 lv 26 s 0 := by
  intro w
  go_enter Try.func47, Try.ntmps47
  go_wp2
  go_ret
  exact ⟨rfl, (Below.refl _ _).alloc (Nat.le_refl _) _⟩
theorem ck47_any (lv lg : Int) (s : ByteArray) (hs : s.size ≤ 100000) : Ck32 47 lv lg s (chk32 lv lg s.size) := by
  by_cases h1 : lv < 0 ∨ 9 < lv
  · rw [show chk32 lv lg s.size = 2 by unfold chk32; rw [if_pos h1]]
    intro w
    rcases h1 with h1 | h1
    · go_enter Try.func47, Try.ntmps47
      go_wp2
      go_ret
      exact ⟨rfl, (Below.refl _ _).alloc (Nat.le_refl _) _⟩
    · have h1' : ¬ lv < 0 := by omega
      go_enter Try.func47, Try.ntmps47
      go_wp2
      go_ret
      exact ⟨rfl, (Below.refl _ _).alloc (Nat.le_refl _) _⟩
  · have a1 : 0 ≤ lv := by omega
    have a2 : lv ≤ 9 := by omega
    by_cases h2 : lg < 15 ∨ 26 < lg
    · rw [show chk32 lv lg s.size = 12 by unfold chk32; rw [if_neg h1, if_pos h2]]
      clear h1
      intro w
      rcases h2 with h2 | h2
      · go_enter Try.func47, Try.ntmps47
        go_wp2
        go_ret
        exact ⟨rfl, (Below.refl _ _).alloc (Nat.le_refl _) _⟩
      · have h2' : ¬ lg < 15 := by omega
        go_enter Try.func47, Try.ntmps47
        go_wp2
        go_ret
        exact ⟨rfl, (Below.refl _ _).alloc (Nat.le_refl _) _⟩
    · rw [show chk32 lv lg s.size = if 2 ^ lg.toNat < s.size then 13 else 0 by unfold chk32; rw [if_neg h1, if_neg h2]]
      clear h1
      obtain rfl | rfl | rfl | rfl | rfl | rfl | rfl | rfl | rfl | rfl | rfl | rfl : lg = 15 ∨ lg = 16 ∨ lg = 17 ∨ lg = 18 ∨ lg = 19 ∨ lg = 20 ∨ lg = 21 ∨ lg = 22 ∨ lg = 23 ∨ lg = 24 ∨ lg = 25 ∨ lg = 26 := by omega
      · by_cases h3 : 2 ^ ((15 : Int).toNat) < s.size
        · rw [if_pos h3]; exact ck47_g15 lv s hs a1 a2 (by have e : 2 ^ ((15 : Int).toNat) = 32768 := by decide
                                                           rw [e] at h3; omega)
        · rw [if_neg h3]; exact ck47_l15 lv s hs a1 a2 (by have e : 2 ^ ((15 : Int).toNat) = 32768 := by decide
                                                           rw [e] at h3; omega)
      · by_cases h3 : 2 ^ ((16 : Int).toNat) < s.size
        · rw [if_pos h3]; exact ck47_g16 lv s hs a1 a2 (by have e : 2 ^ ((16 : Int).toNat) = 65536 := by decide
                                                           rw [e] at h3; omega)
        · rw [if_neg h3]; exact ck47_l16 lv s hs a1 a2 (by have e : 2 ^ ((16 : Int).toNat) = 65536 := by decide
                                                           rw [e] at h3; omega)
      · have e : 2 ^ ((17 : Int).toNat) = 131072 := by decide
        rw [if_neg (by rw [e]; omega)]; exact ck47_l17 lv s hs a1 a2 (by omega)
      · have e : 2 ^ ((18 : Int).toNat) = 262144 := by decide
        rw [if_neg (by rw [e]; omega)]; exact ck47_l18 lv s hs a1 a2 (by omega)
      · have e : 2 ^ ((19 : Int).toNat) = 524288 := by decide
        rw [if_neg (by rw [e]; omega)]; exact ck47_l19 lv s hs a1 a2 (by omega)
      · have e : 2 ^ ((20 : Int).toNat) = 1048576 := by decide
        rw [if_neg (by rw [e]; omega)]; exact ck47_l20 lv s hs a1 a2 (by omega)
      · have e : 2 ^ ((21 : Int).toNat) = 2097152 := by decide
        rw [if_neg (by rw [e]; omega)]; exact ck47_l21 lv s hs a1 a2 (by omega)
      · have e : 2 ^ ((22 : Int).toNat) = 4194304 := by decide
        rw [if_neg (by rw [e]; omega)]; exact ck47_l22 lv s hs a1 a2 (by omega)
      · have e : 2 ^ ((23 : Int).toNat) = 8388608 := by decide
        rw [if_neg (by rw [e]; omega)]; exact ck47_l23 lv s hs a1 a2 (by omega)
      · have e : 2 ^ ((24 : Int).toNat) = 16777216 := by decide
        rw [if_neg (by rw [e]; omega)]; exact ck47_l24 lv s hs a1 a2 (by omega)
      · have e : 2 ^ ((25 : Int).toNat) = 33554432 := by decide
        rw [if_neg (by rw [e]; omega)]; exact ck47_l25 lv s hs a1 a2 (by omega)
      · have e : 2 ^ ((26 : Int).toNat) = 67108864 := by decide
        rw [if_neg (by rw [e]; omega)]; exact ck47_l26 lv s hs a1 a2 (by omega)
end Go.Proofs.Ytmpmioffngonjaa
