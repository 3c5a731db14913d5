/- Layer 21, the document's: At. -/
import Derived.Test.YtpkidedepcnoaaaM1
import Derived.Laws.StructEq
namespace Go.Proofs.Ytpkidedepcnoaaa
open Go.ChangeShapes Go.WideShapes Go.ChangeAt Go.RowKit
set_option linter.unusedVariables false
set_option linter.unusedSimpArgs false
set_option maxRecDepth 100000
abbrev Mt := Int × Int
def fM (r : Mt) : List Value := [.int .i64 r.1, .int .i64 r.2]
theorem flatM : Flat fM 2 := fun x => ⟨rfl, by intro u hu; simp [fM] at hu; rcases hu with rfl | rfl <;> rfl⟩
abbrev OwnMt (B : Nat) (w : World) (v : Value) (l : List Mt) : Prop := OwnS fM 43 2 B w v l
theorem info_mt : (Try.prog.info? 43).map (fun i => (i.zero, i.size, i.bytes)) = some (some (.agg #[.int .i64 0, .int .i64 0]), 2, 16) := by kernel_rfl
theorem app_mt {X : World} {ops : Array Oper} {rest : List Oper} {o : Oper} {a : Act} {Q : Exit → Act → World → Prop} (hgd : o.guard = none) (s xo : Operand)
    (ho : o.op = .call { callee := .builtin .append, args := #[s, xo], argTypes := #[38, 38] })
    (B T : Nat) (v : Value) (l : List Mt) (x : Mt) (hs : a.eval s = v) (hown : OwnMt B X v l) (g c1 : Nat) (hg : X.heap.size = g) (hx : a.eval xo = .slice (some ⟨g, 0, none⟩) 1 c1) (hl : l.length ≤ 1099511627776) (hB : B ≤ X.heap.size)
    (h : ∀ v' w', OwnMt B w' v' (l ++ [x]) → Below B X w' → X.grownBy w' v.ownBlock → wpList Try.prog ops Q rest (a.put o.dst v') w') : wpList Try.prog ops Q (o :: rest) a (X.alloc (.cells #[.int .i64 x.1, .int .i64 x.2] T)) :=
  app_one (f := fM) info_mt rfl (by decide) (by decide) Try.underlying38 flatM hgd s xo ho B T v l x hs hown g c1 hg hx hl hB h
theorem min3 (C most N : Nat) (h : min (min (C : Int) most) 258 = (N : Int)) (a b c d : TypeId) (W : World) : (Builtin.min_ #[a, b, c] d #[.int .i64 (C : Int), .int .i64 (most : Int), .int .i64 258]).run Try.prog W = .ok (.int .i64 (N : Int)) W := by
  have e : (Builtin.min_ #[a, b, c] d #[.int .i64 (C : Int), .int .i64 (most : Int), .int .i64 258]).run Try.prog W = .ok (.int .i64 (if (258 : Int) < (if (most : Int) < C then (most : Int) else C) then 258 else (if (most : Int) < C then (most : Int) else C))) W := by
    simp [Builtin.min_, Builtin.min2]
  rw [e]
  congr 2
  split <;> split <;> omega
/-- How much the end at a place shares with that so far back, at most so much. -/
def nAt (L : List UInt8) (i most d : Nat) : Nat := min (min (comAt L i (i - d)) most) 258
/-- The longest so far, and what is told, behind so many distances. -/
def atS (L : List UInt8) (i most : Nat) : Nat → Nat × List Mt
  | 0 => (1, [])
  | D + 1 => if (atS L i most D).1 < nAt L i most (D + 1) then (nAt L i most (D + 1), (atS L i most D).2 ++ [(((nAt L i most (D + 1) : Nat) : Int), ((D + 1 : Nat) : Int))]) else atS L i most D
theorem atS_bd (L : List UInt8) (i most : Nat) : ∀ D, (atS L i most D).1 ≤ 258 ∧ (atS L i most D).2.length ≤ D
  | 0 => by simp [atS]
  | D + 1 => by
    have h := atS_bd L i most D
    rw [atS]
    split
    · refine ⟨?_, ?_⟩
      · show nAt L i most (D + 1) ≤ 258; unfold nAt; omega
      · show ((atS L i most D).2 ++ _).length ≤ _; rw [List.length_append]; simp; omega
    · exact ⟨h.1, by omega⟩
set_option maxHeartbeats 1600000 in
theorem dAtIn (L : List UInt8) (i W most : Nat) (w : World) (hL : L.length ≤ 100000) (hi : i < L.length) (hW : 1 ≤ W) (hW2 : (W : Int) ≤ 67108864) (hm : 2 ≤ most) (hm2 : most ≤ 1000) (M : Nat) (hM : min i W = M) (R : Nat × List Mt) (hR : atS L i most M = R) :
    Calls Try.prog 27 #[.string (sM L), .int .i64 i, .int .i64 W, .int .i64 most] w fun e w' => ∃ v, e = .returned v ∧ OwnMt w.heap.size w' v R.2 ∧ Below w.heap.size w w' := by
  have hN : (sM L).size = L.length := sM_size L
  have CO := Lib.hid (fun k W (hk : k ≤ L.length) => dOfIn L i k W (by omega) (by omega) hk _ rfl)
  have HR := Lib.hid hR
  have hM1 : M ≤ i ∧ (M : Int) ≤ W ∧ (M < i → (M : Int) < W → False) := by omega
  obtain ⟨hMi, hMW, hMx⟩ := hM1
  have q0 : decide ((i : Int) < 0) = false := decide_eq_false (by omega)
  have q1 : decide ((L.length : Int) ≤ i) = false := decide_eq_false (by omega)
  have q4 : decide (L.length ≤ i) = false := decide_eq_false (by omega)
  have q2 : decide ((W : Int) < 1) = false := decide_eq_false (by omega)
  have q3 : decide ((most : Int) < 2) = false := decide_eq_false (by omega)
  have HMX := Lib.hid hMx
  clear hR hM hMx
  go_enter Try.func27, Try.ntmps27
  go_wp2_with fail
  go_loopw [9, 10, 11] (fun o b d wr => ∃ k : Nat, k ≤ M ∧ d = .int .i64 ((k : Int) + 1) ∧ b = .int .i64 ((atS L i most k).1 : Nat) ∧ OwnMt w.heap.size wr o (atS L i most k).2 ∧ Below w.heap.size w wr) (fun _ _ d _ => M + 1 - (intOf d).toNat)
  case atStart => exact ⟨0, Nat.zero_le _, rfl, rfl, OwnS.nil, Below.refl _ _⟩
  case round =>
    clear q0 q1 q2 q3 q4
    obtain ⟨k, hk, rfl, rfl, ho, hb⟩ := hrel
    obtain ⟨va, vc, rfl⟩ := ho.slice
    have HO := Lib.hid ho
    have HB := Lib.hid hb
    have hbd := atS_bd L i most k
    clear ho hb
    by_cases hlt : k < M
    · have d1 : decide ((k : Int) + 1 ≤ i) = true := decide_eq_true (by omega)
      have d2 : decide ((k : Int) + 1 ≤ W) = true := decide_eq_true (by omega)
      obtain ⟨P, hP⟩ : ∃ P, i - (k + 1) = P := ⟨_, rfl⟩
      have hsub2 : (i : Int) - ((k : Int) + 1) = (P : Int) := by omega
      have hle : P ≤ L.length := by omega
      obtain ⟨C, hC⟩ : ∃ C, comAt L i P = C := ⟨_, rfl⟩
      obtain ⟨N, hNn⟩ : ∃ N, nAt L i most (k + 1) = N := ⟨_, rfl⟩
      have hst : atS L i most (k + 1) = if (atS L i most k).1 < nAt L i most (k + 1) then (nAt L i most (k + 1), (atS L i most k).2 ++ [(((nAt L i most (k + 1) : Nat) : Int), ((k + 1 : Nat) : Int))]) else atS L i most k := rfl
      have hnn : nAt L i most (k + 1) = min (min (comAt L i (i - (k + 1))) most) 258 := rfl
      rw [hP, hC, hNn] at hnn
      rw [hNn] at hst
      have C1 := Lib.hid (fun W => dOfIn L i P W (by omega) (by omega) hle C hC)
      have hmn : min (min (C : Int) most) 258 = (N : Int) := by omega
      have HMN := Lib.hid hmn
      have hN2 : N ≤ 258 := by omega
      obtain ⟨⟨T, O⟩, hTO⟩ : ∃ r, atS L i most k = r := ⟨_, rfl⟩
      rw [hTO] at HO hbd hst ⊢
      have HST := Lib.hid hst
      clear hP hC hNn hnn hst hTO hmn
      go_wp2_with fail
      refine (C1.out _).mono ?_; rintro e w2 ⟨rfl, hb2⟩
      have HO2 := Lib.hid (HO.out.kept hb2)
      have HB2 := Lib.hid (HB.out.trans (hb2.mono HB.out.size))
      have hmn := min3 C most N HMN.out 3 3 3 3
      clear hb2 HO HB C1
      by_cases hT : T < N
      · have hTi : decide ((T : Int) < N) = true := decide_eq_true (by omega)
        have hTl : (T : Int) < N := by omega
        have HS1 := Lib.hid (show atS L i most (k + 1) = (N, O ++ [((N : Int), (k : Int) + 1)]) by rw [HST.out, if_pos hT]; simp)
        have HLn := Lib.hid (show O.length ≤ 1099511627776 by have : O.length ≤ k := hbd.2; omega)
        have HBs := Lib.hid (show w.heap.size ≤ w2.heap.size from HB2.out.size)
        clear HST hT hbd
        go_wp2_with (at_builtin; refine app_mt rfl _ _ rfl w.heap.size _ (.slice va O.length vc) O ((N : Int), (k : Int) + 1) rfl HO2.out w2.heap.size 1 rfl rfl HLn.out HBs.out ?_; intro v5 w5 ho5 hb5 hg5)
        have HO5 := Lib.hid ho5
        have HB5 := Lib.hid (HB2.out.trans hb5)
        clear ho5 hb5 hg5 HO2 HB2
        go_wp2_with fail
        go_roundw
        case rel => exact ⟨k + 1, by omega, by go_num, by rw [HS1.out], by rw [HS1.out]; exact HO5.out, HB5.out⟩
        case measure => simp [intOf]; omega
      · have hTi : decide ((T : Int) < N) = false := decide_eq_false (by omega)
        have hTl : ¬ (T : Int) < N := by omega
        have HS1 := Lib.hid (show atS L i most (k + 1) = (T, O) by rw [HST.out, if_neg hT])
        clear HST hT hbd
        go_wp2_with fail
        go_roundw
        case rel => exact ⟨k + 1, by omega, by go_num, by rw [HS1.out], by rw [HS1.out]; exact HO2.out, HB2.out⟩
        case measure => simp [intOf]; omega
    · obtain rfl : k = M := by omega
      rw [HR.out] at HO ⊢
      by_cases h1 : k < i
      · have d1 : decide ((k : Int) + 1 ≤ i) = true := decide_eq_true (by omega)
        have d2 : decide ((k : Int) + 1 ≤ W) = false := decide_eq_false (by intro h; exact HMX.out h1 (by omega))
        go_wp2_with fail
        go_ret
        exact ⟨_, rfl, HO.out, HB.out⟩
      · have d1 : decide ((k : Int) + 1 ≤ i) = false := decide_eq_false (by omega)
        go_wp2_with fail
        go_ret
        exact ⟨_, rfl, HO.out, HB.out⟩
end Go.Proofs.Ytpkidedepcnoaaa
