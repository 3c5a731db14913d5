import Derived.Test.YtipcdkemokkdfaaGreatK05
import Derived.Laws.BitsLemmas
import Derived.WalkLawsBesides
import Derived.Test.YtipcdkemokkdfaaGreatK01
import Derived.Deep.Light
/- Layer 15, carried over: Dist. -/
namespace Go.Proofs.YtipcdkemokkdfaaGreat.Slo

open Go.ChangeShapes Go.WideShapes Go.ChangeAt Go.RowKit
set_option linter.unusedVariables false
set_option maxRecDepth 100000

theorem slotOf_small (x sole many : Nat) (h : x < sole) (hx : x ≤ 1000000000) (w : World) :
    Calls Tryz.prog 71 #[.int .i64 x, .int .i64 sole, .int .i64 many] w fun e w' => e = .returned (.tuple #[.int .i64 x, .int .i64 0, .int .i64 0]) ∧ w = w' := by
  go_enter Tryz.func71, Tryz.ntmps71
  go_wp2
  go_ret3
  exact ⟨rfl, rfl⟩

theorem div_cast (x k : Nat) : ((x / 2 ^ k : Nat) : Int) = (x : Int) / 2 ^ k := by simp
theorem ret3_i {a b c a' b' c' : Int} (h1 : a = a') (h2 : b = b') (h3 : c = c') : Ending.returned (.tuple #[.int .i64 a, .int .i64 b, .int .i64 c]) = .returned (.tuple #[.int .i64 a', .int .i64 b', .int .i64 c']) := by rw [h1, h2, h3]
theorem mask_bits (x k : Nat) (hx : x ≤ 1000000000) (hk : k ≤ 31) : Go.bits .and .i64 (x : Int) ((2 : Int) ^ k - 1) = ((x % 2 ^ k : Nat) : Int) := by
  have hp : 0 < 2 ^ k := Nat.pow_pos (by decide)
  have hp2 : 2 ^ k ≤ 2 ^ 31 := Nat.pow_le_pow_right (by decide) hk
  have e : (2 : Int) ^ k - 1 = ((2 ^ k - 1 : Nat) : Int) := by
    rw [Int.ofNat_sub hp]; simp
  rw [e]
  have h := (bits_nat .i64 62 (by decide) (fun n h0 h1 => IntWalk.i64_in n (by omega)) x (2 ^ k - 1) (by omega) (by omega)).1
  rw [h, Nat.and_two_pow_sub_one_eq_mod]
theorem pow_cast (k : Nat) : ((2 ^ k : Nat) : Int) = (2 : Int) ^ k := by simp
set_option maxHeartbeats 400000 in
theorem slotOf_great4 (x sole k : Nat) (h : sole ≤ x) (hx : x ≤ 1000000000) (hk : Lib.bitLen (x / 4) = k + 1) (hk1 : k ≤ 31) (w : World) :
    Calls Tryz.prog 71 #[.int .i64 x, .int .i64 sole, .int .i64 4] w fun e w' => e = .returned (.tuple #[.int .i64 (4 * k + x / 2 ^ k : Nat), .int .i64 k, .int .i64 (x % 2 ^ k : Nat)]) ∧ Below w.heap.size w w' := by
  have c1 := fun w => Tryz.bits_Len ((x : Int) / 4) w (by omega) (by omega)
  rw [show ((x : Int) / 4).toNat = x / 4 from by omega, hk] at c1
  have C1 := Lib.hid c1; clear c1
  have HK := Lib.hid hk; clear hk
  have hnx : ¬ x < sole := by omega
  have e0 : (0 : Int) ≤ (x : Int) / 2 ^ k := by rw [← div_cast x k]; exact Int.natCast_nonneg _
  have e1 : (x : Int) / 2 ^ k ≤ 1000000000 := by rw [← div_cast x k]; exact Int.ofNat_le.2 (Nat.le_trans (Nat.div_le_self _ _) hx)
  have e2 : (1 : Int) ≤ 2 ^ k := by rw [← pow_cast k]; have : 0 < 2 ^ k := Nat.pow_pos (by decide); omega
  have e3 : (2 : Int) ^ k ≤ 2147483648 := by rw [← pow_cast k]; have : 2 ^ k ≤ 2 ^ 31 := Nat.pow_le_pow_right (by decide) hk1; omega
  go_enter Tryz.func71, Tryz.ntmps71
  go_wp2_with fail
  refine (C1.out _).mono ?_; rintro e w' ⟨rfl, rfl⟩
  go_wp2_with fail
  go_quiet (fail)
  go_wp2
  go_ret3
  exact ⟨ret3_i (by rw [Int.natCast_add, Int.natCast_mul, div_cast]; rfl) rfl (mask_bits x k hx hk1), below_drewN (Below.refl _ _) _⟩
set_option maxHeartbeats 400000 in
theorem slotOf_great2 (x sole k : Nat) (h : sole ≤ x) (hx : x ≤ 1000000000) (hk : Lib.bitLen (x / 2) = k + 1) (hk1 : k ≤ 31) (w : World) :
    Calls Tryz.prog 71 #[.int .i64 x, .int .i64 sole, .int .i64 2] w fun e w' => e = .returned (.tuple #[.int .i64 (2 * k + x / 2 ^ k : Nat), .int .i64 k, .int .i64 (x % 2 ^ k : Nat)]) ∧ Below w.heap.size w w' := by
  have c1 := fun w => Tryz.bits_Len ((x : Int) / 2) w (by omega) (by omega)
  rw [show ((x : Int) / 2).toNat = x / 2 from by omega, hk] at c1
  have C1 := Lib.hid c1; clear c1
  have HK := Lib.hid hk; clear hk
  have hnx : ¬ x < sole := by omega
  have e0 : (0 : Int) ≤ (x : Int) / 2 ^ k := by rw [← div_cast x k]; exact Int.natCast_nonneg _
  have e1 : (x : Int) / 2 ^ k ≤ 1000000000 := by rw [← div_cast x k]; exact Int.ofNat_le.2 (Nat.le_trans (Nat.div_le_self _ _) hx)
  have e2 : (1 : Int) ≤ 2 ^ k := by rw [← pow_cast k]; have : 0 < 2 ^ k := Nat.pow_pos (by decide); omega
  have e3 : (2 : Int) ^ k ≤ 2147483648 := by rw [← pow_cast k]; have : 2 ^ k ≤ 2 ^ 31 := Nat.pow_le_pow_right (by decide) hk1; omega
  go_enter Tryz.func71, Tryz.ntmps71
  go_wp2_with fail
  refine (C1.out _).mono ?_; rintro e w' ⟨rfl, rfl⟩
  go_wp2_with fail
  go_quiet (fail)
  go_wp2
  go_ret3
  exact ⟨ret3_i (by rw [Int.natCast_add, Int.natCast_mul, div_cast]; rfl) rfl (mask_bits x k hx hk1), below_drewN (Below.refl _ _) _⟩

def exL (s : Nat) : Nat := if s < 8 ∨ s = 28 then 0 else (s - 8) / 4 + 1
/-- The first number of a slot. -/
def tbL : Nat → Nat
  | 0 => 2
  | s + 1 => tbL s + 2 ^ exL s
theorem tbL_bd : ∀ s : Nat, s ≤ 52 → tbL s ≤ 200000000 ∧ exL s ≤ 30 := by decide
def exD (s : Nat) : Nat := if s < 4 then 0 else (s - 4) / 2 + 1
/-- The first number of a slot. -/
def tbD : Nat → Nat
  | 0 => 1
  | s + 1 => tbD s + 2 ^ exD s
theorem tbD_bd : ∀ s : Nat, s ≤ 52 → tbD s ≤ 200000000 ∧ exD s ≤ 30 := by decide
open Go.ChangeShapes Go.WideShapes Go.ChangeAt Go.RowKit
set_option linter.unusedVariables false
set_option maxRecDepth 100000

def kL (n : Nat) : Nat := Lib.bitLen ((n - 2) / 4) - 1
def slotL (n : Nat) : Nat := if n = 258 then 28 else if n - 2 < 8 then n - 2 else 4 * kL n + (n - 2) / 2 ^ kL n
def kD (d : Nat) : Nat := Lib.bitLen ((d - 1) / 2) - 1
def slotD (d : Nat) : Nat := if d - 1 < 4 then d - 1 else 2 * kD d + (d - 1) / 2 ^ kD d
theorem tabD : ∀ k : Fin 26, 1 ≤ k.val → tbD (2 * k.val + 2) = 1 + 2 * 2 ^ k.val ∧ tbD (2 * k.val + 3) = 1 + 3 * 2 ^ k.val ∧ exD (2 * k.val + 2) = k.val ∧ exD (2 * k.val + 3) = k.val := by decide +kernel
theorem monoD : ∀ t : Fin 52, ∀ s : Fin 52, s.val ≤ t.val → tbD s.val ≤ tbD t.val := by decide +kernel
theorem smallD : ∀ d : Fin 5, 1 ≤ d.val → exD (d.val - 1) = 0 ∧ tbD (d.val - 1) = d.val ∧ (∀ t : Fin 52, d.val - 1 < t.val → d.val < tbD t.val) := by decide +kernel

theorem slotD_facts (d : Nat) (h0 : 1 ≤ d) (h1 : d ≤ 67108864) : slotD d ≤ 51 ∧ tbD (slotD d) ≤ d ∧ (∀ t : Nat, slotD d < t → t ≤ 51 → d < tbD t) ∧
    (¬ d - 1 < 4 → Lib.bitLen ((d - 1) / 2) = kD d + 1 ∧ kD d ≤ 31 ∧ exD (slotD d) = kD d ∧ (d - 1) % 2 ^ kD d = d - tbD (slotD d)) ∧
    (d - 1 < 4 → exD (slotD d) = 0 ∧ tbD (slotD d) = d) := by
  by_cases hs : d - 1 < 4
  · have e : slotD d = d - 1 := if_pos hs
    have h := smallD ⟨d, by omega⟩ h0
    simp only at h
    rw [e]
    exact ⟨by omega, by omega, fun t ht hl => h.2.2 ⟨t, by omega⟩ ht, fun h => absurd hs h, fun _ => ⟨h.1, h.2.1⟩⟩
  · obtain ⟨k, hk, hk1, hlo, hhi⟩ := Tok.bitLen_facts ((d - 1) / 2) (by omega) (by omega)
    have ek : kD d = k := by unfold kD; rw [hk]; omega
    have e : slotD d = 2 * k + (d - 1) / 2 ^ k := by unfold slotD; rw [if_neg hs, ek]
    have hpos : 0 < 2 ^ k := Nat.pow_pos (by decide)
    have hk0 : 1 ≤ k := by
      rcases Nat.eq_zero_or_pos k with rfl | h
      · simp at hhi; omega
      · exact h
    have hk24 : k ≤ 24 := by
      rcases Nat.lt_or_ge 24 k with h | h
      · have : 2 ^ 25 ≤ 2 ^ k := Nat.pow_le_pow_right (by decide) h
        omega
      · exact h
    rw [Nat.pow_succ] at hhi
    have hq2 : 2 ≤ (d - 1) / 2 ^ k := (Nat.le_div_iff_mul_le hpos).2 (by omega)
    have hq4 : (d - 1) / 2 ^ k < 4 := Nat.div_lt_of_lt_mul (by omega)
    have hdm := Nat.div_add_mod (d - 1) (2 ^ k)
    have hml := Nat.mod_lt (d - 1) hpos
    have ht := tabD ⟨k, by omega⟩ hk0
    simp only at ht
    have hnext : ∀ t, 2 * k + (d - 1) / 2 ^ k < t → t ≤ 51 → d < tbD t := by
      intro t h2 h3
      have hm := monoD ⟨t, by omega⟩ ⟨2 * k + (d - 1) / 2 ^ k + 1, by omega⟩ h2
      simp only at hm
      rcases (show (d - 1) / 2 ^ k = 2 ∨ (d - 1) / 2 ^ k = 3 by omega) with hq | hq
      · rw [hq] at hm hdm
        rw [show 2 * k + 2 + 1 = 2 * k + 3 by omega, ht.2.1] at hm
        omega
      · rw [hq] at hm hdm h2
        have ht' := tabD ⟨k + 1, by omega⟩ (by simp)
        simp only at ht'
        rw [show 2 * k + 3 + 1 = 2 * (k + 1) + 2 by omega, ht'.1, Nat.pow_succ] at hm
        omega
    have hval : tbD (2 * k + (d - 1) / 2 ^ k) = 1 + (d - 1) / 2 ^ k * 2 ^ k ∧ exD (2 * k + (d - 1) / 2 ^ k) = k := by
      rcases (show (d - 1) / 2 ^ k = 2 ∨ (d - 1) / 2 ^ k = 3 by omega) with hq | hq
      · rw [hq]; exact ⟨ht.1, ht.2.2.1⟩
      · rw [hq]; exact ⟨ht.2.1, ht.2.2.2⟩
    rw [e, ek]
    have hmc : 2 ^ k * ((d - 1) / 2 ^ k) = (d - 1) / 2 ^ k * 2 ^ k := Nat.mul_comm _ _
    exact ⟨by omega, by rw [hval.1]; omega, hnext, fun _ => ⟨hk, by omega, hval.2, by rw [hval.1]; omega⟩, fun h => absurd h hs⟩

theorem ret4_i {a b c d a' b' c' d' : Int} (h1 : a = a') (h2 : b = b') (h3 : c = c') (h4 : d = d') : Ending.returned (.tuple #[.int .i64 a, .int .i64 b, .int .i64 c, .int .i64 d]) = .returned (.tuple #[.int .i64 a', .int .i64 b', .int .i64 c', .int .i64 d']) := by rw [h1, h2, h3, h4]


open Go.ChangeShapes Go.WideShapes Go.ChangeAt Go.RowKit
set_option linter.unusedVariables false
set_option maxRecDepth 100000

theorem ret2_i {a b a' b' : Int} (h1 : a = a') (h2 : b = b') : Ending.returned (.tuple #[.int .i64 a, .int .i64 b]) = .returned (.tuple #[.int .i64 a', .int .i64 b']) := by rw [h1, h2]

set_option maxHeartbeats 800000 in
theorem Dist_in (n : Nat) (h1 : 1 ≤ n) (h : n ≤ 67108864) (w : World) :
    Calls Tryz.prog 50 #[.int .i64 n] w fun e w' => e = .returned (.tuple #[.int .i64 (slotD n), .int .i64 (exD (slotD n)), .int .i64 (n - tbD (slotD n) : Nat), .int .i64 0]) ∧ Below w.heap.size w w' := by
  have hf := slotD_facts n h1 h
  by_cases h8 : n - 1 < 4
  · have e1 : slotD n = n - 1 := if_pos h8
    obtain ⟨x, rfl⟩ : ∃ x, n = x + 1 := ⟨n - 1, by omega⟩
    have hx := hf.2.2.2.2 h8
    rw [hx.1, hx.2, e1]
    have C := Lib.hid (slotOf_small x 4 2 (by omega) (by omega))
    clear hf hx e1
    go_enter Tryz.func50, Tryz.ntmps50
    go_wp2_with fail
    refine (C.out _).mono ?_; rintro e w' ⟨rfl, rfl⟩
    go_wp2
    exact bodyPost_ret (v := .tuple #[.int .i64 x, .int .i64 0, .int .i64 0, .int .i64 0]) (by simp [results, Tryz.results22, go_sem]) rfl ⟨ret4_i (by omega) rfl (by omega) rfl, Below.refl _ _⟩
  · have hx := hf.2.2.2.1 h8
    have e1 : slotD n = 2 * kD n + (n - 1) / 2 ^ kD n := if_neg h8
    obtain ⟨x, rfl⟩ : ∃ x, n = x + 1 := ⟨n - 1, by omega⟩
    rw [hx.2.2.1, ← hx.2.2.2, e1]
    have C := Lib.hid (slotOf_great2 x 4 (kD (x + 1)) (by omega) (by omega) hx.1 hx.2.1)
    obtain ⟨K, hK⟩ : ∃ K, kD (x + 1) = K := ⟨_, rfl⟩
    rw [hK] at C ⊢
    obtain ⟨A, hA⟩ : ∃ A, 2 * K + x / 2 ^ K = A := ⟨_, rfl⟩
    obtain ⟨B, hB⟩ : ∃ B, x % 2 ^ K = B := ⟨_, rfl⟩
    have eA : 2 * K + (x + 1 - 1) / 2 ^ K = A := by rw [← hA]; simp
    have eB : (x + 1 - 1) % 2 ^ K = B := by rw [← hB]; simp
    rw [hA, hB] at C
    rw [eA, eB]
    clear hf hx e1 hK hA hB eA eB
    go_enter Tryz.func50, Tryz.ntmps50
    go_wp2_with fail
    refine (C.out _).mono ?_; rintro e w1 ⟨rfl, hb1⟩
    go_wp2
    exact bodyPost_ret (v := .tuple #[.int .i64 A, .int .i64 K, .int .i64 B, .int .i64 0]) (by simp [results, Tryz.results22, go_sem]) rfl ⟨rfl, hb1⟩

/-- How many numbers a slot has. -/
def wideL (s : Nat) : Nat := 2 ^ exL s
/-- How many numbers a slot has. -/
def wideD (s : Nat) : Nat := 2 ^ exD s

end Go.Proofs.YtipcdkemokkdfaaGreat.Slo

/- Layer 24: prices. -/
namespace Go.Proofs.YtipcdkemokkdfaaGreat
open Go.ChangeShapes Go.WideShapes Go.ChangeAt Go.RowKit
set_option linter.unusedVariables false
set_option linter.unusedSimpArgs false
set_option maxRecDepth 100000
end Go.Proofs.YtipcdkemokkdfaaGreat

/- Layer 24: lists filled by a place's price. -/
namespace Go.Proofs.YtipcdkemokkdfaaGreat
open Go.ChangeShapes Go.WideShapes Go.ChangeAt Go.RowKit
set_option linter.unusedVariables false
set_option linter.unusedSimpArgs false
set_option maxRecDepth 100000
theorem set_getD0 (o : List Int) (t i : Nat) (v : Int) (ht : t < o.length) : (o.set t v).getD i 0 = if t = i then v else o.getD i 0 := by
  simp only [List.getD_eq_getElem?_getD, List.getElem?_set]
  by_cases e : t = i
  · subst e; simp [ht]
  · simp [e]
theorem list_eqD (a b : List Int) (h : a.length = b.length) (k : ∀ i, i < a.length → a.getD i 0 = b.getD i 0) : a = b := by
  refine List.ext_getElem h (fun i h1 h2 => ?_)
  have := k i h1
  simpa [List.getD_eq_getElem?_getD, h1, h2] using this
end Go.Proofs.YtipcdkemokkdfaaGreat

/- Layer 24: how often symbols occur (mathematics); tokens in a row. -/
namespace Go.Proofs.YtipcdkemokkdfaaGreat
open Go.ChangeShapes Go.WideShapes Go.ChangeAt Go.RowKit
set_option linter.unusedVariables false
set_option linter.unusedSimpArgs false
set_option maxRecDepth 100000
/-- A token. -/
structure Tk where
  k : Int
  b : Int
  l : Int
  d : Int
  r : Int
def Tk.ok (t : Tk) : Prop := Tok.OkTok t.k t.b t.l t.d t.r
instance (t : Tk) : Decidable t.ok := by unfold Tk.ok; infer_instance
def tkV (t : Tk) : Value := .agg #[.int .i64 t.k, .int .i64 t.b, .int .i64 t.l, .int .i64 t.d, .int .i64 t.r]
def tkAt (w : World) (x : Addr) (i : Nat) (t : Tk) : Prop :=
  w.cell? (x.add (i * 5)) = some (.int .i64 t.k) ∧ w.cell? ⟨(x.add (i * 5)).block, (x.add (i * 5)).off + 1, none⟩ = some (.int .i64 t.b) ∧ w.cell? ⟨(x.add (i * 5)).block, (x.add (i * 5)).off + 2, none⟩ = some (.int .i64 t.l) ∧
  w.cell? ⟨(x.add (i * 5)).block, (x.add (i * 5)).off + 3, none⟩ = some (.int .i64 t.d) ∧ w.cell? ⟨(x.add (i * 5)).block, (x.add (i * 5)).off + 4, none⟩ = some (.int .i64 t.r)
theorem tkAt.kept {w w' : World} {x : Addr} {i : Nat} {t : Tk} (h : tkAt w x i t) (hb : Below w.heap.size w w') : tkAt w' x i t := by
  obtain ⟨h0, h1, h2, h3, h4⟩ := h
  exact ⟨(hb.cell (cell_block h0)).trans h0, (hb.cell (cell_block h1)).trans h1, (hb.cell (cell_block h2)).trans h2, (hb.cell (cell_block h3)).trans h3, (hb.cell (cell_block h4)).trans h4⟩
def IsTk (w : World) (a : Option Addr) (l : List Tk) : Prop := l = [] ∨ ∃ x, a = some x ∧ ∀ i t, l[i]? = some t → tkAt w x i t
theorem IsTk.at {w : World} {a : Option Addr} {l : List Tk} (h : IsTk w a l) (k : Nat) (hk : k < l.length) : ∃ x : Addr, a = some x ∧ x.block < w.heap.size ∧ tkAt w x k l[k] := by
  rcases h with rfl | ⟨x, rfl, hc⟩
  · simp at hk
  · have h1 := hc k l[k] (by simp [hk])
    exact ⟨x, rfl, by have := cell_block h1.1; rwa [add_block] at this, h1⟩
theorem IsTk.kept {w w' : World} {a : Option Addr} {l : List Tk} (h : IsTk w a l) (hb : Below w.heap.size w w') : IsTk w' a l := by
  rcases h with rfl | ⟨x, rfl, hc⟩
  · exact .inl rfl
  · exact .inr ⟨x, rfl, fun i t ht => (hc i t ht).kept hb⟩
def symN (t : Tk) : Nat := (Tok.symTok t.k t.b t.l t.d t.r).toNat
theorem sym_ok (t : Tk) (h : t.ok) : Tok.symTok t.k t.b t.l t.d t.r = (symN t : Int) ∧ symN t ≤ 400 ∧ Tok.chk t.k t.b t.l t.d t.r = 0 ∧ (t.k = 1 → 1 ≤ t.d ∧ t.d ≤ 67108864) := by
  have hb : 0 ≤ Tok.symTok t.k t.b t.l t.d t.r ∧ Tok.symTok t.k t.b t.l t.d t.r ≤ 400 := by
    unfold Tok.symTok
    unfold Tk.ok at h
    rw [if_pos h]
    unfold Tok.OkTok at h
    rcases h with h | h | h
    · rw [if_pos h.1]; omega
    · have := Tok.slotL_le t.l.toNat (by omega) (by omega)
      rw [if_neg (by omega), if_pos h.1]; omega
    · have := Tok.slotL_le t.l.toNat (by omega) (by omega)
      rw [if_neg (by omega), if_neg (by omega)]; omega
  unfold symN
  refine ⟨by omega, by omega, ?_, fun hk => ?_⟩
  · unfold Tok.chk; exact if_pos h
  · unfold Tk.ok Tok.OkTok at h
    rcases h with h | h | h <;> omega
theorem sym_no (t : Tk) (h : ¬ t.ok) : Tok.chk t.k t.b t.l t.d t.r = 10 := by unfold Tok.chk; exact if_neg h
def bump (o : List Int) (i : Nat) : List Int := o.set i (o.getD i 0 + 1)
theorem bump_len (o : List Int) (i : Nat) : (bump o i).length = o.length := by simp [bump]
def tally (p : List Int × List Int) (t : Tk) : List Int × List Int := (bump p.1 (symN t), if t.k = 1 then bump p.2 (Slo.slotD t.d.toNat) else p.2)
/-- How often each symbol, and each distance slot, occurs. -/
def tl (l : List Tk) : List Int × List Int := l.foldl tally (List.replicate 401 0, List.replicate 52 0)
theorem tl_snoc (l : List Tk) (t : Tk) : tl (l ++ [t]) = tally (tl l) t := by simp [tl, List.foldl_append]
theorem snoc_ind {P : List Tk → Prop} (h0 : P []) (h1 : ∀ l t, P l → P (l ++ [t])) (l : List Tk) : P l := by
  rw [← List.reverse_reverse l]
  induction l.reverse with
  | nil => exact h0
  | cons a t ih => rw [List.reverse_cons]; exact h1 _ _ ih
theorem tl_len (l : List Tk) : (tl l).1.length = 401 ∧ (tl l).2.length = 52 := by
  refine snoc_ind (P := fun l => (tl l).1.length = 401 ∧ (tl l).2.length = 52) (by simp [tl]) (fun l t ih => ?_) l
  show (tl (l ++ [t])).1.length = 401 ∧ (tl (l ++ [t])).2.length = 52
  rw [tl_snoc]
  unfold tally
  refine ⟨by rw [bump_len]; exact ih.1, ?_⟩
  simp only
  split
  · rw [bump_len]; exact ih.2
  · exact ih.2
theorem bump_bd (o : List Int) (i n : Nat) (h : ∀ j, 0 ≤ o.getD j 0 ∧ o.getD j 0 ≤ n) : ∀ j, 0 ≤ (bump o i).getD j 0 ∧ (bump o i).getD j 0 ≤ (n + 1 : Nat) := by
  intro j
  unfold bump
  have h1 := h j
  have h2 := h i
  by_cases hi : i < o.length
  · rw [set_getD0 _ _ _ _ hi]
    split <;> omega
  · rw [List.set_eq_of_length_le (by omega)]; omega
theorem tl_bd (l : List Tk) : (∀ j, 0 ≤ (tl l).1.getD j 0 ∧ (tl l).1.getD j 0 ≤ l.length) ∧ (∀ j, 0 ≤ (tl l).2.getD j 0 ∧ (tl l).2.getD j 0 ≤ l.length) := by
  have hz : ∀ n j : Nat, (List.replicate n (0 : Int)).getD j 0 = 0 := fun n j => by
    simp only [List.getD_eq_getElem?_getD, List.getElem?_replicate]
    split <;> rfl
  refine snoc_ind (P := fun l => (∀ j, 0 ≤ (tl l).1.getD j 0 ∧ (tl l).1.getD j 0 ≤ l.length) ∧ (∀ j, 0 ≤ (tl l).2.getD j 0 ∧ (tl l).2.getD j 0 ≤ l.length)) ?_ (fun l t ih => ?_) l
  · refine ⟨fun j => ?_, fun j => ?_⟩
    · show 0 ≤ (List.replicate 401 (0 : Int)).getD j 0 ∧ (List.replicate 401 (0 : Int)).getD j 0 ≤ ((0 : Nat) : Int)
      rw [hz]; omega
    · show 0 ≤ (List.replicate 52 (0 : Int)).getD j 0 ∧ (List.replicate 52 (0 : Int)).getD j 0 ≤ ((0 : Nat) : Int)
      rw [hz]; omega
  · show (∀ j, 0 ≤ (tl (l ++ [t])).1.getD j 0 ∧ (tl (l ++ [t])).1.getD j 0 ≤ ((l ++ [t]).length : Nat)) ∧ (∀ j, 0 ≤ (tl (l ++ [t])).2.getD j 0 ∧ (tl (l ++ [t])).2.getD j 0 ≤ ((l ++ [t]).length : Nat))
    rw [tl_snoc, List.length_append]
    unfold tally
    refine ⟨bump_bd _ _ _ ih.1, ?_⟩
    simp only
    split
    · exact bump_bd _ _ _ ih.2
    · intro j
      have := ih.2 j
      simp only [List.length_singleton]
      omega
theorem tl_succ (l : List Tk) (k : Nat) (h : k < l.length) : tl (l.take (k + 1)) = tally (tl (l.take k)) l[k] := by
  rw [List.take_succ_eq_append_getElem h, tl_snoc]
end Go.Proofs.YtipcdkemokkdfaaGreat

/- Contracts of layer 16's Check, Size, Of, the program's and the document's. -/
namespace Go.Proofs.YtipcdkemokkdfaaGreat
open Go.ChangeShapes Go.WideShapes Go.ChangeAt Go.RowKit
open Tok (OkTok chk chk_no chk_yes)
set_option linter.unusedVariables false
set_option maxRecDepth 100000

theorem length_any (n : Int) (w : World) : Calls Tryz.prog 58 #[.int .i64 n] w fun e w' => e = .returned (.bool (decide (2 ≤ n) && decide (n ≤ 258))) ∧ w = w' := by
  by_cases h : 2 ≤ n ∧ n ≤ 258
  · obtain ⟨h1, h2⟩ := h
    have e : (decide (2 ≤ n) && decide (n ≤ 258)) = true := by simp [h1, h2]
    rw [e]; clear e
    go_enter Tryz.func58, Tryz.ntmps58
    go_wp2
    go_ret
    exact ⟨rfl, rfl⟩
  · have e : (decide (2 ≤ n) && decide (n ≤ 258)) = false := by rw [Bool.and_eq_false_iff, decide_eq_false_iff_not, decide_eq_false_iff_not]; omega
    rw [e]; clear e
    by_cases h1 : 2 ≤ n
    · have h2 : ¬ n ≤ 258 := by omega
      go_enter Tryz.func58, Tryz.ntmps58
      go_wp2
      go_ret
      exact ⟨rfl, rfl⟩
    · go_enter Tryz.func58, Tryz.ntmps58
      go_wp2
      go_ret
      exact ⟨rfl, rfl⟩

set_option maxHeartbeats 1600000 in
theorem check_any (k b l d r : Int) (w : World) :
    Calls Tryz.prog 33 #[.agg #[.int .i64 k, .int .i64 b, .int .i64 l, .int .i64 d, .int .i64 r]] w fun e w' => e = .returned (.int .i64 (chk k b l d r)) ∧ Below w.heap.size w w' := by
  by_cases k0 : k = 0
  · subst k0
    go_enter Tryz.func33, Tryz.ntmps33
    go_wp2
    all_goals (go_ret; refine ⟨ret_i ?_, (Below.refl _ _).alloc (Nat.le_refl _) _⟩; go_light; first | exact chk_no (by unfold OkTok; (try simp at *); omega) | exact chk_yes (by unfold OkTok; (try simp at *); omega))
  · skip
    by_cases k1 : k = 1
    · subst k1
      have C := Lib.hid (length_any l)
      by_cases hl : 2 ≤ l ∧ l ≤ 258
      · have e : (decide (2 ≤ l) && decide (l ≤ 258)) = true := by simp [hl.1, hl.2]
        rw [e] at C; clear e
        go_enter Tryz.func33, Tryz.ntmps33
        go_wp2_with fail
        refine (C.out _).mono ?_; rintro e w' ⟨rfl, rfl⟩
        go_wp2
        all_goals (go_ret; refine ⟨ret_i ?_, (Below.refl _ _).alloc (Nat.le_refl _) _⟩; go_light; first | exact chk_no (by unfold OkTok; (try simp at *); omega) | exact chk_yes (by unfold OkTok; (try simp at *); omega))
      · have e : (decide (2 ≤ l) && decide (l ≤ 258)) = false := by rw [Bool.and_eq_false_iff, decide_eq_false_iff_not, decide_eq_false_iff_not]; omega
        rw [e] at C; clear e
        go_enter Tryz.func33, Tryz.ntmps33
        go_wp2_with fail
        refine (C.out _).mono ?_; rintro e w' ⟨rfl, rfl⟩
        go_wp2
        all_goals (go_ret; refine ⟨ret_i ?_, (Below.refl _ _).alloc (Nat.le_refl _) _⟩; go_light; first | exact chk_no (by unfold OkTok; (try simp at *); omega) | exact chk_yes (by unfold OkTok; (try simp at *); omega))
    · skip
      by_cases k2 : k = 2
      · subst k2
        have C := Lib.hid (length_any l)
        by_cases hl : 2 ≤ l ∧ l ≤ 258
        · have e : (decide (2 ≤ l) && decide (l ≤ 258)) = true := by simp [hl.1, hl.2]
          rw [e] at C; clear e
          go_enter Tryz.func33, Tryz.ntmps33
          go_wp2_with fail
          refine (C.out _).mono ?_; rintro e w' ⟨rfl, rfl⟩
          go_wp2
          all_goals (go_ret; refine ⟨ret_i ?_, (Below.refl _ _).alloc (Nat.le_refl _) _⟩; go_light; first | exact chk_no (by unfold OkTok; (try simp at *); omega) | exact chk_yes (by unfold OkTok; (try simp at *); omega))
        · have e : (decide (2 ≤ l) && decide (l ≤ 258)) = false := by rw [Bool.and_eq_false_iff, decide_eq_false_iff_not, decide_eq_false_iff_not]; omega
          rw [e] at C; clear e
          go_enter Tryz.func33, Tryz.ntmps33
          go_wp2_with fail
          refine (C.out _).mono ?_; rintro e w' ⟨rfl, rfl⟩
          go_wp2
          all_goals (go_ret; refine ⟨ret_i ?_, (Below.refl _ _).alloc (Nat.le_refl _) _⟩; go_light; first | exact chk_no (by unfold OkTok; (try simp at *); omega) | exact chk_yes (by unfold OkTok; (try simp at *); omega))
      · skip
        have q0 : (k == 0) = false := by rw [beq_eq_false_iff_ne]; exact k0
        have q1 : (k == 1) = false := by rw [beq_eq_false_iff_ne]; exact k1
        have q2 : (k == 2) = false := by rw [beq_eq_false_iff_ne]; exact k2
        have e : chk k b l d r = 10 := (chk_no (by unfold OkTok; omega)).symm
        rw [e]; clear e
        go_enter Tryz.func33, Tryz.ntmps33
        go_wp2
        all_goals (go_ret; exact ⟨rfl, (Below.refl _ _).alloc (Nat.le_refl _) _⟩)

end Go.Proofs.YtipcdkemokkdfaaGreat
