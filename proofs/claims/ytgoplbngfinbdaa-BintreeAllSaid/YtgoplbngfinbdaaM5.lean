/- Layer 41: shared and before. -/
import Derived.Test.YtgoplbngfinbdaaM4
namespace Go.Proofs.Ytgoplbngfinbdaa
open Go.ChangeShapes Go.WideShapes Go.ChangeAt Go.RowKit
set_option linter.unusedVariables false
set_option linter.unusedSimpArgs false
set_option maxRecDepth 100000
def f32 (x : Int) : List Value := [.int .i32 x]
theorem flat32 : Flat f32 1 := fun x => ⟨rfl, by intro u hu; simp [f32] at hu; subst hu; rfl⟩
theorem info_32 : (Try.prog.info? 21).map (fun i => (i.zero, i.size, i.bytes)) = some (some (.int .i32 0), 1, 4) := by kernel_rfl
abbrev Own32 (B : Nat) (w : World) (v : Value) (l : List Int) : Prop := OwnS f32 21 1 B w v l
theorem cell32 {B g cap n : Nat} {w : World} {l : List Int} (h : Own32 B w (.slice (some ⟨g, 0, none⟩) n cap) l) (i : Nat) (hi : i < l.length) : w.cell? ⟨g, i, none⟩ = some (.int .i32 (l.getD i 0)) := by
  have := h.cell flat32 i 0 l[i] (by simp [hi]) (by decide)
  rw [Nat.mul_one, Nat.add_zero] at this
  rw [this]
  simp [f32, List.getD_eq_getElem?_getD, hi]
/-- A finder, where it stands and what it knows. -/
structure IsF (N : Nat) (w : World) (B g g1 g2 : Nat) (L : List UInt8) (W D at_ m : Nat) (la ah : List Int) : Prop where
  box : w.heap[g]? = some (.cells #[.string (sM L), .int .i64 W, .int .i64 D, .int .i64 at_, .slice (some ⟨g1, 0, none⟩) N N, .slice (some ⟨g2, 0, none⟩) m m] 113 (0, 0))
  ra : Own32 B w (.slice (some ⟨g1, 0, none⟩) N N) la
  rb : Own32 B w (.slice (some ⟨g2, 0, none⟩) m m) ah
  ml : ah.length = m
  nl : la.length = N
  n1 : g1 ≠ g
  n2 : g2 ≠ g
  n12 : g1 ≠ g2
theorem IsF.kept {N : Nat} {w w' : World} {B g g1 g2 : Nat} {L : List UInt8} {W D at_ m : Nat} {la ah : List Int} (h : IsF N w B g g1 g2 L W D at_ m la ah) (hb : Below w.heap.size w w') : IsF N w' B g g1 g2 L W D at_ m la ah :=
  ⟨(hb.block _ (block_lt h.box)).trans h.box, h.ra.kept hb, h.rb.kept hb, h.ml, h.nl, h.n1, h.n2, h.n12⟩
set_option maxHeartbeats 1600000 in
theorem cShared (L : List UInt8) (k i most : Nat) (w : World) (hL : L.length ≤ 1000000) (hk : k ≤ i) (hi : i + most ≤ L.length) (N : Nat) (hN : min (comAt L i k) most = N) :
    Calls Try.prog 90 #[.string (sM L), .int .i64 k, .int .i64 i, .int .i64 most] w fun e w' => e = .returned (.int .i64 N) ∧ Below w.heap.size w w' := by
  have hS : (sM L).size = L.length := sM_size L
  have HI := Lib.hid (fun n (h : n ≤ N) => (show n < N ↔ n < most ∧ L.getD (k + n) 0 = L.getD (i + n) 0 by
    have h1 := comAt_iff L i k n (by omega)
    constructor
    · intro h2
      have h3 := h1.1 (by omega)
      exact ⟨by omega, h3.2.2.symm⟩
    · rintro ⟨h2, h3⟩
      have h4 := h1.2 ⟨by omega, by omega, h3.symm⟩
      omega))
  have hNm : N ≤ most := by omega
  clear hN
  go_enter Try.func90, Try.ntmps90
  go_wp2_with fail
  go_loopw [9] (fun u wr => ∃ n : Nat, n ≤ N ∧ u = .int .i64 n ∧ Below w.heap.size w wr) (fun u _ => N - (intOf u).toNat)
  case atStart => exact ⟨0, Nat.zero_le _, rfl, Below.refl _ _⟩
  case round =>
    obtain ⟨n, hn, rfl, hb⟩ := hrel
    have hiff := HI.out n hn
    have HB := Lib.hid hb
    clear hb
    have w1 : IntKind.i64.wrap ((i : Int) + n) = (i : Int) + n := IntWalk.i64_in _ (by omega)
    have w2 : IntKind.i64.wrap ((k : Int) + n) = (k : Int) + n := IntWalk.i64_in _ (by omega)
    by_cases hm : n < most
    · have d1 : decide ((n : Int) < most) = true := decide_eq_true (by omega)
      have d0 : decide (n < most) = true := decide_eq_true hm
      have hb1 : (k : Int) + n < (L.length : Int) := by omega
      have hb2 : (i : Int) + n < (L.length : Int) := by omega
      have x1 := ixM L ((k : Int) + n) (k + n) (by omega) (by omega)
      have x2 := ixM L ((i : Int) + n) (i + n) (by omega) (by omega)
      by_cases h3 : L.getD (k + n) 0 = L.getD (i + n) 0
      · have hlt := hiff.2 ⟨hm, h3⟩
        rw [h3] at x1
        obtain ⟨Z, hZ⟩ : ∃ Z, L.getD (i + n) 0 = Z := ⟨_, rfl⟩
        rw [hZ] at x1 x2
        clear h3 hZ hiff hm
        go_wp2_with fail
        go_quiet (fail)
        go_wp2_with fail
        go_roundw
        case rel => exact ⟨n + 1, by omega, by go_num, below_dn HB.out _⟩
        case measure => simp [intOf]; omega
      · have hNe : ¬ n < N := fun h => h3 (hiff.1 h).2
        obtain rfl : n = N := by omega
        obtain ⟨Z, hZ⟩ : ∃ Z, L.getD (i + n) 0 = Z := ⟨_, rfl⟩
        obtain ⟨Y, hY⟩ : ∃ Y, L.getD (k + n) 0 = Y := ⟨_, rfl⟩
        rw [hZ, hY] at h3
        rw [hZ] at x2
        rw [hY] at x1
        have hYZ : ((Y.toNat : Int) == (Z.toNat : Int)) = false := by rw [beq_eq_false_iff_ne]; intro h; exact h3 (UInt8.toNat_inj.1 (by omega))
        clear h3 hZ hY hiff hm hNe
        go_wp2_with fail
        go_quiet (fail)
        go_wp2_with fail
        go_ret
        exact ⟨rfl, below_dn HB.out _⟩
    · have d1 : decide ((n : Int) < most) = false := decide_eq_false (by omega)
      have d0 : decide (n < most) = false := decide_eq_false hm
      obtain rfl : n = N := by omega
      clear hiff
      go_wp2_with fail
      go_quiet (fail)
      go_wp2_with fail
      go_ret
      exact ⟨rfl, below_dn HB.out _⟩
theorem cBefore (N : Nat) (w : World) (B g g1 g2 : Nat) (L : List UInt8) (W D at_ m : Nat) (la ah : List Int) (h : IsF N w B g g1 g2 L W D at_ m la ah) (p : Nat) (hp : p ≤ 1000000) (hm : 0 < m) (hm2 : m ≤ 1000000) (X : Nat) (hX : ah.getD (p % m) 0 = (X : Int)) (hX2 : X ≤ 1000000) :
    Calls Try.prog 89 #[.pointer (some ⟨g, 0, none⟩), .int .i64 p] w fun e w' => e = .returned (.int .i64 ((X : Int) - 1)) ∧ ∃ k, w' = w.drewN k := by
  have hq : p % m < m := Nat.mod_lt _ hm
  have c5 := cell_lit h.box 5 _ rfl
  have cx := cell32 h.rb (p % m) (by rw [h.ml]; exact hq)
  rw [hX] at cx
  have hlt := block_lt h.box
  have hr1 : (p : Int).tmod m = ((p % m : Nat) : Int) := by rw [Int.tmod_eq_emod_of_nonneg (by omega)]; rfl
  have hr2 : (p : Int) % m = ((p % m : Nat) : Int) := rfl
  obtain ⟨q, hqq⟩ : ∃ q, p % m = q := ⟨_, rfl⟩
  rw [hqq] at cx hr1 hr2 hq
  have hmi : ¬ (m : Int) = 0 := by omega
  clear hX h hqq
  go_enter Try.func89, Try.ntmps89
  go_wp2_with fail
  go_quiet (fail)
  go_wp2_with fail
  go_ret
  exact ⟨rfl, _, rfl⟩
end Go.Proofs.Ytgoplbngfinbdaa
