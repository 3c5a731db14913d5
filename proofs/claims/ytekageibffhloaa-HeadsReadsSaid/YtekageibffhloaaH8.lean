/- Layer 31: contracts by values; awake. -/
import Derived.Test.YtekageibffhloaaH3
import Derived.Test.YtekageibffhloaaH4
import Derived.Test.YtekageibffhloaaH7
namespace Go.Proofs.Ytekageibffhloaa
open Go.ChangeShapes Go.WideShapes Go.ChangeAt Go.RowKit
set_option linter.unusedVariables false
set_option maxRecDepth 100000
theorem hPutT (L : Int) (D : Bool) (I : Nat) (hI : I < 4294967296) (S : List UInt8) (E : Int) (hr : putS L D I = (S, E)) (w : World) :
    Calls Try.prog 35 #[.agg #[.int .i64 L, .bool D, .int .u32 I]] w fun e w' => e = .returned (.tuple #[.string (sB S), .int .i64 E]) ∧ Below w.heap.size w w' := by
  unfold putS at hr
  by_cases h : L < 15 ∨ 26 < L
  · rw [if_pos h] at hr; obtain ⟨rfl, rfl⟩ := hr; exact hPutWin L D I h w
  · rw [if_neg h] at hr
    obtain ⟨n, rfl⟩ : ∃ n : Nat, L = n := ⟨L.toNat, by omega⟩
    cases D with
    | true => rw [if_pos rfl] at hr; obtain ⟨rfl, rfl⟩ := hr; exact hPutDict n I (by omega) hI w
    | false =>
      rw [if_neg (by decide)] at hr
      by_cases hi : I = 0
      · subst hi; rw [if_pos rfl] at hr; obtain ⟨rfl, rfl⟩ := hr; exact hPutNo n (by omega) w
      · rw [if_neg hi] at hr; obtain ⟨rfl, rfl⟩ := hr; exact hPutArg n I (by omega) hi w
theorem dPutT (L : Int) (D : Bool) (I : Nat) (hI : I < 4294967296) (S : List UInt8) (E : Int) (hr : putS L D I = (S, E)) (w : World) :
    Calls Try.prog 36 #[.agg #[.int .i64 L, .bool D, .int .u32 I]] w fun e w' => e = .returned (.tuple #[.string (sB S), .int .i64 E]) ∧ Below w.heap.size w w' := by
  unfold putS at hr
  by_cases h : L < 15 ∨ 26 < L
  · rw [if_pos h] at hr; obtain ⟨rfl, rfl⟩ := hr; exact dPutWin L D I h w
  · rw [if_neg h] at hr
    obtain ⟨n, rfl⟩ : ∃ n : Nat, L = n := ⟨L.toNat, by omega⟩
    cases D with
    | true => rw [if_pos rfl] at hr; obtain ⟨rfl, rfl⟩ := hr; exact dPutDict n I (by omega) hI w
    | false =>
      rw [if_neg (by decide)] at hr
      by_cases hi : I = 0
      · subst hi; rw [if_pos rfl] at hr; obtain ⟨rfl, rfl⟩ := hr; exact dPutNo n (by omega) w
      · rw [if_neg hi] at hr; obtain ⟨rfl, rfl⟩ := hr; exact dPutArg n I (by omega) hi w
theorem mayB_zero {K R C : Int} (h : mayB K R C = true) (h0 : K = 0) : R = 0 ∧ C = 0 := by
  subst h0; unfold mayB at h; simpa using h
theorem hPutBT (K R C : Int) (S : List UInt8) (E : Int) (hr : putBS K R C = (S, E)) (w : World) :
    Calls Try.prog 37 #[.agg #[.int .i64 K, .int .i64 R, .int .i64 C]] w fun e w' => e = .returned (.tuple #[.string (sB S), .int .i64 E]) ∧ Below w.heap.size w w' := by
  unfold putBS at hr
  cases hm : mayB K R C with
  | false => rw [hm, if_pos rfl] at hr; obtain ⟨rfl, rfl⟩ := hr; exact hPutBOut K R C hm w
  | true =>
    rw [hm, if_neg (by decide)] at hr
    by_cases h0 : K = 0
    · rw [if_pos h0] at hr
      obtain ⟨rfl, rfl⟩ := hr
      obtain ⟨rfl, rfl⟩ := mayB_zero hm h0
      subst h0
      exact hPutBEnd w
    · rw [if_neg h0] at hr
      obtain ⟨rfl, rfl⟩ := hr
      obtain ⟨hk, hr1, hr2, hc1, hc2⟩ := mayB_some hm h0
      obtain ⟨k, rfl⟩ : ∃ k : Nat, K = k := ⟨K.toNat, by omega⟩
      obtain ⟨x, rfl⟩ : ∃ x : Nat, R = (x + 1 : Nat) := ⟨(R - 1).toNat, by omega⟩
      obtain ⟨y, rfl⟩ : ∃ y : Nat, C = (y + 1 : Nat) := ⟨(C - 1).toNat, by omega⟩
      have := hPutBIn k x y hm (by omega) w
      rw [show (((x + 1 : Nat) : Int) - 1).toNat = x by omega, show (((y + 1 : Nat) : Int) - 1).toNat = y by omega]
      exact this
theorem dPutBT (K R C : Int) (S : List UInt8) (E : Int) (hr : putBS K R C = (S, E)) (w : World) :
    Calls Try.prog 38 #[.agg #[.int .i64 K, .int .i64 R, .int .i64 C]] w fun e w' => e = .returned (.tuple #[.string (sB S), .int .i64 E]) ∧ Below w.heap.size w w' := by
  unfold putBS at hr
  cases hm : mayB K R C with
  | false => rw [hm, if_pos rfl] at hr; obtain ⟨rfl, rfl⟩ := hr; exact dPutBOut K R C hm w
  | true =>
    rw [hm, if_neg (by decide)] at hr
    by_cases h0 : K = 0
    · rw [if_pos h0] at hr
      obtain ⟨rfl, rfl⟩ := hr
      obtain ⟨rfl, rfl⟩ := mayB_zero hm h0
      subst h0
      exact dPutBEnd w
    · rw [if_neg h0] at hr
      obtain ⟨rfl, rfl⟩ := hr
      obtain ⟨hk, hr1, hr2, hc1, hc2⟩ := mayB_some hm h0
      obtain ⟨k, rfl⟩ : ∃ k : Nat, K = k := ⟨K.toNat, by omega⟩
      obtain ⟨x, rfl⟩ : ∃ x : Nat, R = (x + 1 : Nat) := ⟨(R - 1).toNat, by omega⟩
      obtain ⟨y, rfl⟩ : ∃ y : Nat, C = (y + 1 : Nat) := ⟨(C - 1).toNat, by omega⟩
      have := dPutBIn k x y hm (by omega) w
      rw [show (((x + 1 : Nat) : Int) - 1).toNat = x by omega, show (((y + 1 : Nat) : Int) - 1).toNat = y by omega]
      exact this
def restS (r : List UInt8) : (Int × Bool × Nat) × List UInt8 × Int :=
  match r with
  | [] => ((0, false, 0), [], 3)
  | a :: t => if 64 ≤ a.toNat ∨ a.toNat % 32 < 15 ∨ 26 < a.toNat % 32 then ((0, false, 0), [], 12) else if a.toNat < 32 then (((a.toNat : Int) % 32, false, 0), t, 0) else
    match t with
    | b :: c :: d :: f :: u => (((a.toNat : Int) % 32, true, b.toNat + c.toNat * 256 + d.toNat * 65536 + f.toNat * 16777216), u, 0)
    | _ => ((0, false, 0), [], 3)
def readS (l : List UInt8) : (Int × Bool × Nat) × List UInt8 × Int := if pre l ≠ 0 then ((0, false, 0), [], pre l) else restS (l.drop 4)
theorem pre_form (l : List UInt8) (h : pre l = 0) : l = 71 :: 76 :: 68 :: 49 :: l.drop 4 := by
  unfold pre at h
  by_cases h1 : l.take 4 = nameB
  · have := List.take_append_drop 4 l
    rw [h1] at this
    exact this.symm
  · rw [if_neg h1] at h
    split at h <;> cases h
theorem hRestT (r : List UInt8) (hl : r.length ≤ 996) (L : Int) (D : Bool) (I : Nat) (S : List UInt8) (E : Int) (hr : restS r = ((L, D, I), S, E)) (w : World) :
    Calls Try.prog 40 #[.string (sB (71 :: 76 :: 68 :: 49 :: r))] w fun e w' => e = .returned (.tuple #[hV L D I, .string (sB S), .int .i64 E]) ∧ Below w.heap.size w w' := by
  match r, hl, hr with
  | [], _, hr =>
    simp only [restS, Prod.mk.injEq] at hr
    obtain ⟨⟨rfl, rfl, rfl⟩, rfl, rfl⟩ := hr
    exact hReadEnd [] rfl w
  | a :: t, hl, hr =>
    have htl : t.length ≤ 996 := by simp at hl; omega
    unfold restS at hr
    simp only at hr
    by_cases h1 : 64 ≤ a.toNat ∨ a.toNat % 32 < 15 ∨ 26 < a.toNat % 32
    · rw [if_pos h1] at hr
      simp only [Prod.mk.injEq] at hr
      obtain ⟨⟨rfl, rfl, rfl⟩, rfl, rfl⟩ := hr
      exact hReadWin a _ rfl t _ rfl htl h1 w
    · rw [if_neg h1] at hr
      by_cases h2 : a.toNat < 32
      · rw [if_pos h2] at hr
        simp only [Prod.mk.injEq] at hr
        obtain ⟨⟨rfl, rfl, rfl⟩, rfl, rfl⟩ := hr
        exact hReadNo a _ rfl t _ rfl htl (by omega) w
      · rw [if_neg h2] at hr
        match t, htl, hr with
        | b :: c :: d :: f :: u, htl, hr =>
          simp only [Prod.mk.injEq] at hr
          obtain ⟨⟨rfl, rfl, rfl⟩, rfl, rfl⟩ := hr
          exact hReadYes a _ rfl b c d f _ _ _ _ rfl rfl rfl rfl u _ _ rfl rfl htl (by omega) w
        | [], _, hr =>
          simp only [Prod.mk.injEq] at hr
          obtain ⟨⟨rfl, rfl, rfl⟩, rfl, rfl⟩ := hr
          exact hReadShort a _ rfl _ _ rfl (by simp) (by omega) w
        | [b], _, hr =>
          simp only [Prod.mk.injEq] at hr
          obtain ⟨⟨rfl, rfl, rfl⟩, rfl, rfl⟩ := hr
          exact hReadShort a _ rfl _ _ rfl (by simp) (by omega) w
        | [b, c], _, hr =>
          simp only [Prod.mk.injEq] at hr
          obtain ⟨⟨rfl, rfl, rfl⟩, rfl, rfl⟩ := hr
          exact hReadShort a _ rfl _ _ rfl (by simp) (by omega) w
        | [b, c, d], _, hr =>
          simp only [Prod.mk.injEq] at hr
          obtain ⟨⟨rfl, rfl, rfl⟩, rfl, rfl⟩ := hr
          exact hReadShort a _ rfl _ _ rfl (by simp) (by omega) w
theorem hReadT (l : List UInt8) (hl : l.length ≤ 1000) (L : Int) (D : Bool) (I : Nat) (S : List UInt8) (E : Int) (hr : readS l = ((L, D, I), S, E)) (w : World) :
    Calls Try.prog 40 #[.string (sB l)] w fun e w' => e = .returned (.tuple #[hV L D I, .string (sB S), .int .i64 E]) ∧ Below w.heap.size w w' := by
  unfold readS at hr
  by_cases h : pre l = 0
  · rw [if_neg (by simpa using h)] at hr
    have hf := pre_form l h
    rw [hf]
    exact hRestT (l.drop 4) (by rw [List.length_drop]; omega) L D I S E hr w
  · rw [if_pos h] at hr
    simp only [Prod.mk.injEq] at hr
    obtain ⟨⟨rfl, rfl, rfl⟩, rfl, rfl⟩ := hr
    exact hReadPre l (by omega) _ rfl h w
def readBS (l : List UInt8) : (Int × Int × Int) × List UInt8 × Int :=
  match l with
  | [] => ((0, 0, 0), [], 3)
  | a :: t => if 2 < a.toNat then ((0, 0, 0), [], 16) else if a.toNat = 0 then ((0, 0, 0), t, 0) else
    match t with
    | b :: c :: d :: f :: u => if mayB a.toNat ((b.toNat : Int) + c.toNat * 256 + 1) ((d.toNat : Int) + f.toNat * 256 + 1) then (((a.toNat : Int), (b.toNat : Int) + c.toNat * 256 + 1, (d.toNat : Int) + f.toNat * 256 + 1), u, 0) else ((0, 0, 0), [], 16)
    | _ => ((0, 0, 0), [], 3)
theorem hReadBT (l : List UInt8) (hl : l.length ≤ 1000) (K R C : Int) (S : List UInt8) (E : Int) (hr : readBS l = ((K, R, C), S, E)) (w : World) :
    Calls Try.prog 42 #[.string (sB l)] w fun e w' => e = .returned (.tuple #[bV K R C, .string (sB S), .int .i64 E]) ∧ Below w.heap.size w w' := by
  match l, hl, hr with
  | [], _, hr =>
    simp only [readBS, Prod.mk.injEq] at hr
    obtain ⟨⟨rfl, rfl, rfl⟩, rfl, rfl⟩ := hr
    exact hReadBNil w
  | a :: t, hl, hr =>
    have htl : t.length ≤ 1000 := by simp at hl; omega
    unfold readBS at hr
    simp only at hr
    by_cases h1 : 2 < a.toNat
    · rw [if_pos h1] at hr
      simp only [Prod.mk.injEq] at hr
      obtain ⟨⟨rfl, rfl, rfl⟩, rfl, rfl⟩ := hr
      exact hReadBBad a _ rfl t htl h1 w
    · rw [if_neg h1] at hr
      by_cases h2 : a.toNat = 0
      · rw [if_pos h2] at hr
        simp only [Prod.mk.injEq] at hr
        obtain ⟨⟨rfl, rfl, rfl⟩, rfl, rfl⟩ := hr
        exact hReadBEnd a _ rfl t htl h2 w
      · rw [if_neg h2] at hr
        match t, htl, hr with
        | b :: c :: d :: f :: u, htl, hr =>
          simp only at hr
          have := fun M hM => hReadBIn a b c d f _ _ _ _ _ rfl rfl rfl rfl rfl u (by simp at htl; omega) (by omega) M hM w
          cases hM : mayB a.toNat ((b.toNat : Int) + c.toNat * 256 + 1) ((d.toNat : Int) + f.toNat * 256 + 1) with
          | true =>
            rw [hM, if_pos rfl] at hr
            simp only [Prod.mk.injEq] at hr
            obtain ⟨⟨rfl, rfl, rfl⟩, rfl, rfl⟩ := hr
            exact this true hM
          | false =>
            rw [hM, if_neg (by decide)] at hr
            simp only [Prod.mk.injEq] at hr
            obtain ⟨⟨rfl, rfl, rfl⟩, rfl, rfl⟩ := hr
            exact this false hM
        | [], _, hr =>
          simp only [Prod.mk.injEq] at hr
          obtain ⟨⟨rfl, rfl, rfl⟩, rfl, rfl⟩ := hr
          exact hReadBShort a _ rfl _ (by simp) (by omega) w
        | [b], _, hr =>
          simp only [Prod.mk.injEq] at hr
          obtain ⟨⟨rfl, rfl, rfl⟩, rfl, rfl⟩ := hr
          exact hReadBShort a _ rfl _ (by simp) (by omega) w
        | [b, c], _, hr =>
          simp only [Prod.mk.injEq] at hr
          obtain ⟨⟨rfl, rfl, rfl⟩, rfl, rfl⟩ := hr
          exact hReadBShort a _ rfl _ (by simp) (by omega) w
        | [b, c, d], _, hr =>
          simp only [Prod.mk.injEq] at hr
          obtain ⟨⟨rfl, rfl, rfl⟩, rfl, rfl⟩ := hr
          exact hReadBShort a _ rfl _ (by simp) (by omega) w
end Go.Proofs.Ytekageibffhloaa
