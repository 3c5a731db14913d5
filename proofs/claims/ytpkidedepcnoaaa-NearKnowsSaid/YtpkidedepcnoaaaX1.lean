/- Layer 20: jumps to several labels; from, Of. -/
import Derived.Test.YtpkidedepcnoaaaU13
import Derived.ScopeJumps
import Derived.WalkMore
namespace Go.Proofs.Ytpkidedepcnoaaa
open Go.ChangeShapes Go.WideShapes Go.ChangeAt Go.RowKit
set_option linter.unusedVariables false
set_option linter.unusedSimpArgs false
set_option maxRecDepth 100000
/-- As Q; by a goto to a label: what J says of that label. -/
def jumpAll (J : Nat → Act → World → Prop) (Q : Exit → Act → World → Prop) : Exit → Act → World → Prop
  | .goto l, a, w => J l a w
  | e, a, w => Q e a w
theorem wp_scope_all {P : Program} {a : Act} {w : World} {Q : Exit → Act → World → Prop} {c : Code} (J : Nat → Act → World → Prop) (μ : Nat → Act → World → Nat)
    (first : c.wp P (jumpAll J Q) a w)
    (pass : ∀ l a w, J l a w → ∃ rest, findLabel c l = some rest ∧ rest.wp P (jumpAll (fun l' a' w' => J l' a' w' ∧ μ l' a' w' < μ l a w) Q) a w) : (Code.scope c).wp P Q a w := by
  intro b k cs
  have key : ∀ n l a w, μ l a w = n → J l a w → ∃ rest, findLabel c l = some rest ∧ ∃ e a' w', Q e a' w' ∧ Arrives P (lone (b.at a (.code rest :: .inScope c :: k)) cs w) b k cs e a' w' := by
    intro n
    induction n using Nat.strongRecOn with
    | _ n ih =>
      intro l a w hn hJ
      obtain ⟨rest, hf, hp⟩ := pass l a w hJ
      refine ⟨rest, hf, ?_⟩
      obtain ⟨e, a₁, w₁, hq, harr⟩ := hp b (.inScope c :: k) cs
      cases e with
      | normal => exact ⟨.normal, a₁, w₁, hq, Steps.trans harr (.one step_inScope)⟩
      | exit id => exact ⟨.exit id, a₁, w₁, hq, fun k' hk => harr k' (by simp [exitTo, hk])⟩
      | goto l' =>
        obtain ⟨hJ', hlt⟩ := hq
        obtain ⟨rest', hf', e₂, a₂, w₂, hq₂, harr₂⟩ := ih _ (by omega) l' a₁ w₁ rfl hJ'
        have hg : gotoIn l' (.inScope c :: k) = some (.code rest' :: .inScope c :: k) := by simp [gotoIn, hf']
        exact ⟨e₂, a₂, w₂, hq₂, .of_steps (harr _ hg) harr₂⟩
      | ret => exact ⟨_, a₁, w₁, hq, harr⟩
      | panic ch => exact ⟨_, a₁, w₁, hq, harr⟩
      | outgrown => exact ⟨_, a₁, w₁, hq, harr⟩
  obtain ⟨e, a₁, w₁, hq, harr⟩ := first b (.inScope c :: k) cs
  cases e with
  | normal => exact ⟨.normal, a₁, w₁, hq, .head step_scope (Steps.trans harr (.one step_inScope))⟩
  | exit id => exact ⟨.exit id, a₁, w₁, hq, fun k' hk => .head step_scope (harr k' (by simp [exitTo, hk]))⟩
  | goto l' =>
    obtain ⟨rest', hf', e₂, a₂, w₂, hq₂, harr₂⟩ := key _ l' a₁ w₁ rfl hq
    have hg : gotoIn l' (.inScope c :: k) = some (.code rest' :: .inScope c :: k) := by simp [gotoIn, hf']
    exact ⟨e₂, a₂, w₂, hq₂, .of_steps (.head step_scope (harr _ hg)) harr₂⟩
  | ret => exact ⟨_, a₁, w₁, hq, .of_steps (.one step_scope) harr⟩
  | panic ch => exact ⟨_, a₁, w₁, hq, .of_steps (.one step_scope) harr⟩
  | outgrown => exact ⟨_, a₁, w₁, hq, .of_steps (.one step_scope) harr⟩
/-- Where the jumps of from find it. -/
def FrJ (L : List UInt8) (i k C : Nat) (w : World) (l : Nat) (a : Act) (wr : World) : Prop :=
  ∃ (n mo : Nat) (u4 u5 u6 u7 u8 u10 u11 u12 u13 u14 u15 u16 u17 u18 u19 u20 u21 u22 u23 u24 u25 u26 u27 u28 u29 u30 u31 u32 u33 u34 : Value),
    a = { tmps := #[.string (sM L), .int .i64 i, .int .i64 k, .int .i64 n, u4, u5, u6, u7, u8, .int .i64 mo, u10, u11, u12, u13, u14, u15, u16, u17, u18, u19, u20, u21, u22, u23, u24, u25, u26, u27, u28, u29, u30, u31, u32, u33, u34], defers := [] } ∧
    mo = L.length - max i k ∧ Below w.heap.size w wr ∧ ((l = 1 ∧ n ≤ C) ∨ (l = 0 ∧ n = C))
theorem FrJ.mk {L : List UInt8} {i k C : Nat} {w : World} {l : Nat} {wr : World} (n mo : Nat) (x y z : Int) (hx : x = i) (hy : y = k) (hz : z = n) (q : Int) (hq : q = mo) (u4 u5 u6 u7 u8 u10 u11 u12 u13 u14 u15 u16 u17 u18 u19 u20 u21 u22 u23 u24 u25 u26 u27 u28 u29 u30 u31 u32 u33 u34 : Value)
    (hm : mo = L.length - max i k) (hb : Below w.heap.size w wr) (h : (l = 1 ∧ n ≤ C) ∨ (l = 0 ∧ n = C)) :
    FrJ L i k C w l { tmps := #[.string (sM L), .int .i64 x, .int .i64 y, .int .i64 z, u4, u5, u6, u7, u8, .int .i64 q, u10, u11, u12, u13, u14, u15, u16, u17, u18, u19, u20, u21, u22, u23, u24, u25, u26, u27, u28, u29, u30, u31, u32, u33, u34], defers := [] } wr := by
  subst hx hy hz hq
  exact ⟨n, mo, u4, u5, u6, u7, u8, u10, u11, u12, u13, u14, u15, u16, u17, u18, u19, u20, u21, u22, u23, u24, u25, u26, u27, u28, u29, u30, u31, u32, u33, u34, rfl, hm, hb, h⟩
set_option maxHeartbeats 3200000 in
theorem cFrom (L : List UInt8) (i k n0 : Nat) (w : World) (hL : L.length ≤ 1000000) (hi : i ≤ L.length) (hk : k ≤ L.length) (C : Nat) (hC : comAt L i k = C) (hn : n0 ≤ C) :
    Calls Try.prog 38 #[.string (sM L), .int .i64 i, .int .i64 k, .int .i64 n0] w fun e w' => e = .returned (.int .i64 C) ∧ Below w.heap.size w w' := by
  have hS : (sM L).size = L.length := sM_size L
  have HI := Lib.hid (fun n (h : n ≤ C) => (show n < C ↔ i + n < L.length ∧ k + n < L.length ∧ L.getD (i + n) 0 = L.getD (k + n) 0 by subst hC; exact comAt_iff L i k n h))
  obtain ⟨mo, hmo⟩ : ∃ mo, L.length - max i k = mo := ⟨_, rfl⟩
  have hCm : C ≤ mo := by have := comAt_le L i k; omega
  have hC6 : C ≤ 1000000 := by omega
  have hif : (if (i : Int) < k then (k : Int) else (i : Int)) = ((max i k : Nat) : Int) := by split <;> omega
  have hif2 : (if i < k then (k : Int) else (i : Int)) = ((max i k : Nat) : Int) := by split <;> omega
  have hmx : (L.length : Int) - ((max i k : Nat) : Int) = (mo : Int) := by omega
  obtain ⟨mx, hmxx⟩ : ∃ m, max i k = m := ⟨_, rfl⟩
  have HMO := Lib.hid hmo
  rw [hmxx] at hif hif2 hmx
  have HCM := Lib.hid hCm
  have HMX := Lib.hid hmxx
  clear hC hmo hmxx
  go_enter Try.func38, Try.ntmps38
  go_wp2
  refine wp_scope_all (FrJ L i k C w) (fun l a' _ => if l = 0 then 0 else 1 + (C - (intOf (a'.tmps.getD 3 undef)).toNat)) ?_ ?_
  · have hb := Below.refl w.heap.size w
    have hnC := hn
    obtain ⟨n, hn0⟩ : ∃ n, n0 = n := ⟨_, rfl⟩
    rw [hn0] at hnC ⊢
    clear hn0 hn
    have hCm := HCM.out
    have hmm : mo = L.length - max i k := by have h1 := HMO.out; have h2 := HMX.out; omega
    have HMM := Lib.hid hmm
    have HBb := Lib.hid hb
    clear hb hmm
    by_cases hlt : n < C
    · obtain ⟨h1, h2, h3⟩ := (HI.out n hnC).1 hlt
      have x1 := ixM L ((i : Int) + n) (i + n) (by omega) h1
      have x2 := ixM L ((k : Int) + n) (k + n) (by omega) h2
      rw [h3] at x1
      obtain ⟨Z, hZ⟩ : ∃ Z, L.getD (k + n) 0 = Z := ⟨_, rfl⟩
      rw [hZ] at x1 x2
      have w1 : IntKind.i64.wrap ((i : Int) + n) = (i : Int) + n := IntWalk.i64_in _ (by omega)
      have w2 : IntKind.i64.wrap ((k : Int) + n) = (k : Int) + n := IntWalk.i64_in _ (by omega)
      have e1 : ((n : Int) == (mo : Int)) = false := by rw [beq_eq_false_iff_ne]; omega
      have hm2 : ¬ n = mo := by omega
      clear h1 h2 h3 hZ
      go_wp2; go_step3; go_wp2_with fail
      go_quiet (fail)
      go_wp2
      go_step3
      simp only [Exit.then]
      first
        | exact FrJ.mk (n + 1) mo _ _ _ rfl rfl (by first | omega | (unfold wrap64; omega)) _ rfl _ _ _ _ _ _ _ _ _ _ _ _ _ _ _ _ _ _ _ _ _ _ _ _ _ _ _ _ _ _ HMM.out (below_dn HBb.out _) (.inl ⟨rfl, by omega⟩)
        | exact ⟨FrJ.mk (n + 1) mo _ _ _ rfl rfl (by first | omega | (unfold wrap64; omega)) _ rfl _ _ _ _ _ _ _ _ _ _ _ _ _ _ _ _ _ _ _ _ _ _ _ _ _ _ _ _ _ _ HMM.out (below_dn HBb.out _) (.inl ⟨rfl, by omega⟩), by simp [intOf, wrap64] <;> omega⟩
    · obtain rfl : n = C := by omega
      by_cases hm : n = mo
      · have e1 : ((n : Int) == (mo : Int)) = true := by rw [beq_iff_eq]; omega
        go_wp2; go_step3; go_wp2_with fail
        go_quiet (fail)
        go_wp2
        go_step3
        simp only [Exit.then]
        first
          | exact FrJ.mk n mo _ _ _ rfl rfl rfl _ rfl _ _ _ _ _ _ _ _ _ _ _ _ _ _ _ _ _ _ _ _ _ _ _ _ _ _ _ _ _ _ HMM.out (below_dn HBb.out _) (.inr ⟨rfl, rfl⟩)
          | exact ⟨FrJ.mk n mo _ _ _ rfl rfl rfl _ rfl _ _ _ _ _ _ _ _ _ _ _ _ _ _ _ _ _ _ _ _ _ _ _ _ _ _ _ _ _ _ HMM.out (below_dn HBb.out _) (.inr ⟨rfl, rfl⟩), by simp <;> omega⟩
      · have e1 : ((n : Int) == (mo : Int)) = false := by rw [beq_eq_false_iff_ne]; omega
        have hmm := HMM.out
        have h1 : i + n < L.length := by omega
        have h2 : k + n < L.length := by omega
        have x1 := ixM L ((i : Int) + n) (i + n) (by omega) h1
        have x2 := ixM L ((k : Int) + n) (k + n) (by omega) h2
        have h3 : ¬ L.getD (i + n) 0 = L.getD (k + n) 0 := fun h => absurd ((HI.out n hnC).2 ⟨h1, h2, h⟩) (Nat.lt_irrefl _)
        obtain ⟨Z, hZ⟩ : ∃ Z, L.getD (k + n) 0 = Z := ⟨_, rfl⟩
        obtain ⟨Y, hY⟩ : ∃ Y, L.getD (i + n) 0 = Y := ⟨_, rfl⟩
        rw [hZ, hY] at h3
        rw [hZ] at x2
        rw [hY] at x1
        have hYZ : ((Y.toNat : Int) == (Z.toNat : Int)) = false := by rw [beq_eq_false_iff_ne]; intro h; exact h3 (UInt8.toNat_inj.1 (by omega))
        have w1 : IntKind.i64.wrap ((i : Int) + n) = (i : Int) + n := IntWalk.i64_in _ (by omega)
        have w2 : IntKind.i64.wrap ((k : Int) + n) = (k : Int) + n := IntWalk.i64_in _ (by omega)
        have hm2 : ¬ n = mo := hm
        clear h1 h2 h3 hZ hY hlt hmm
        go_wp2; go_step3; go_wp2_with fail
        go_quiet (fail)
        go_wp2
        go_step3
        simp only [Exit.then]
        first
          | exact FrJ.mk n mo _ _ _ rfl rfl rfl _ rfl _ _ _ _ _ _ _ _ _ _ _ _ _ _ _ _ _ _ _ _ _ _ _ _ _ _ _ _ _ _ HMM.out (below_dn HBb.out _) (.inr ⟨rfl, rfl⟩)
          | exact ⟨FrJ.mk n mo _ _ _ rfl rfl rfl _ rfl _ _ _ _ _ _ _ _ _ _ _ _ _ _ _ _ _ _ _ _ _ _ _ _ _ _ _ _ _ _ HMM.out (below_dn HBb.out _) (.inr ⟨rfl, rfl⟩), by simp <;> omega⟩
  · rintro l a' w' ⟨n, mo', u4, u5, u6, u7, u8, u10, u11, u12, u13, u14, u15, u16, u17, u18, u19, u20, u21, u22, u23, u24, u25, u26, u27, u28, u29, u30, u31, u32, u33, u34, rfl, hm', hb, ⟨rfl, hnC⟩ | ⟨rfl, rfl⟩⟩
    · refine ⟨_, rfl, ?_⟩
      obtain rfl : mo = mo' := by have := HMO.out; have := HMX.out; omega
      clear hm' hif hif2 hmx hn
      have hCm := HCM.out
      have hmm : mo = L.length - max i k := by have h1 := HMO.out; have h2 := HMX.out; omega
      have HMM := Lib.hid hmm
      have HBb := Lib.hid hb
      clear hb hmm
      by_cases hlt : n < C
      · obtain ⟨h1, h2, h3⟩ := (HI.out n hnC).1 hlt
        have x1 := ixM L ((i : Int) + n) (i + n) (by omega) h1
        have x2 := ixM L ((k : Int) + n) (k + n) (by omega) h2
        rw [h3] at x1
        obtain ⟨Z, hZ⟩ : ∃ Z, L.getD (k + n) 0 = Z := ⟨_, rfl⟩
        rw [hZ] at x1 x2
        have w1 : IntKind.i64.wrap ((i : Int) + n) = (i : Int) + n := IntWalk.i64_in _ (by omega)
        have w2 : IntKind.i64.wrap ((k : Int) + n) = (k : Int) + n := IntWalk.i64_in _ (by omega)
        have e1 : ((n : Int) == (mo : Int)) = false := by rw [beq_eq_false_iff_ne]; omega
        have hm2 : ¬ n = mo := by omega
        clear h1 h2 h3 hZ
        go_wp2_with fail
        go_quiet (fail)
        go_wp2
        go_step3
        simp only [Exit.then]
        first
          | exact FrJ.mk (n + 1) mo _ _ _ rfl rfl (by first | omega | (unfold wrap64; omega)) _ rfl _ _ _ _ _ _ _ _ _ _ _ _ _ _ _ _ _ _ _ _ _ _ _ _ _ _ _ _ _ _ HMM.out (below_dn HBb.out _) (.inl ⟨rfl, by omega⟩)
          | exact ⟨FrJ.mk (n + 1) mo _ _ _ rfl rfl (by first | omega | (unfold wrap64; omega)) _ rfl _ _ _ _ _ _ _ _ _ _ _ _ _ _ _ _ _ _ _ _ _ _ _ _ _ _ _ _ _ _ HMM.out (below_dn HBb.out _) (.inl ⟨rfl, by omega⟩), by simp [intOf, wrap64] <;> omega⟩
      · obtain rfl : n = C := by omega
        by_cases hm : n = mo
        · have e1 : ((n : Int) == (mo : Int)) = true := by rw [beq_iff_eq]; omega
          go_wp2_with fail
          go_quiet (fail)
          go_wp2
          go_step3
          simp only [Exit.then]
          first
            | exact FrJ.mk n mo _ _ _ rfl rfl rfl _ rfl _ _ _ _ _ _ _ _ _ _ _ _ _ _ _ _ _ _ _ _ _ _ _ _ _ _ _ _ _ _ HMM.out (below_dn HBb.out _) (.inr ⟨rfl, rfl⟩)
            | exact ⟨FrJ.mk n mo _ _ _ rfl rfl rfl _ rfl _ _ _ _ _ _ _ _ _ _ _ _ _ _ _ _ _ _ _ _ _ _ _ _ _ _ _ _ _ _ HMM.out (below_dn HBb.out _) (.inr ⟨rfl, rfl⟩), by simp <;> omega⟩
        · have e1 : ((n : Int) == (mo : Int)) = false := by rw [beq_eq_false_iff_ne]; omega
          have hmm := HMM.out
          have h1 : i + n < L.length := by omega
          have h2 : k + n < L.length := by omega
          have x1 := ixM L ((i : Int) + n) (i + n) (by omega) h1
          have x2 := ixM L ((k : Int) + n) (k + n) (by omega) h2
          have h3 : ¬ L.getD (i + n) 0 = L.getD (k + n) 0 := fun h => absurd ((HI.out n hnC).2 ⟨h1, h2, h⟩) (Nat.lt_irrefl _)
          obtain ⟨Z, hZ⟩ : ∃ Z, L.getD (k + n) 0 = Z := ⟨_, rfl⟩
          obtain ⟨Y, hY⟩ : ∃ Y, L.getD (i + n) 0 = Y := ⟨_, rfl⟩
          rw [hZ, hY] at h3
          rw [hZ] at x2
          rw [hY] at x1
          have hYZ : ((Y.toNat : Int) == (Z.toNat : Int)) = false := by rw [beq_eq_false_iff_ne]; intro h; exact h3 (UInt8.toNat_inj.1 (by omega))
          have w1 : IntKind.i64.wrap ((i : Int) + n) = (i : Int) + n := IntWalk.i64_in _ (by omega)
          have w2 : IntKind.i64.wrap ((k : Int) + n) = (k : Int) + n := IntWalk.i64_in _ (by omega)
          have hm2 : ¬ n = mo := hm
          clear h1 h2 h3 hZ hY hlt hmm
          go_wp2_with fail
          go_quiet (fail)
          go_wp2
          go_step3
          simp only [Exit.then]
          first
            | exact FrJ.mk n mo _ _ _ rfl rfl rfl _ rfl _ _ _ _ _ _ _ _ _ _ _ _ _ _ _ _ _ _ _ _ _ _ _ _ _ _ _ _ _ _ HMM.out (below_dn HBb.out _) (.inr ⟨rfl, rfl⟩)
            | exact ⟨FrJ.mk n mo _ _ _ rfl rfl rfl _ rfl _ _ _ _ _ _ _ _ _ _ _ _ _ _ _ _ _ _ _ _ _ _ _ _ _ _ _ _ _ _ HMM.out (below_dn HBb.out _) (.inr ⟨rfl, rfl⟩), by simp <;> omega⟩
    · refine ⟨_, rfl, ?_⟩
      clear hif hif2 hmx
      go_wp2
      simp only [jumpAll]
      go_ret
      exact ⟨rfl, hb⟩
end Go.Proofs.Ytpkidedepcnoaaa
