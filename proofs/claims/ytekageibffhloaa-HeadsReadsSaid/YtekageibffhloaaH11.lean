/- Layer 31, the document's, by values. -/
import Derived.Test.YtekageibffhloaaH9
import Derived.Test.YtekageibffhloaaH6
import Derived.Test.YtekageibffhloaaH10
namespace Go.Proofs.Ytekageibffhloaa
open Go.ChangeShapes Go.WideShapes Go.ChangeAt Go.RowKit
set_option linter.unusedVariables false
set_option maxRecDepth 100000
theorem dRestT (r : List UInt8) (hl : r.length ≤ 996) (L : Int) (D : Bool) (I : Nat) (S : List UInt8) (E : Int) (hr : restS r = ((L, D, I), S, E)) (w : World) :
    Calls Try.prog 41 #[.string (sB (71 :: 76 :: 68 :: 49 :: r))] w fun e w' => e = .returned (.tuple #[hV L D I, .string (sB S), .int .i64 E]) ∧ Below w.heap.size w w' := by
  match r, hl, hr with
  | [], _, hr =>
    simp only [restS, Prod.mk.injEq] at hr
    obtain ⟨⟨rfl, rfl, rfl⟩, rfl, rfl⟩ := hr
    exact dReadEnd [] rfl w
  | a :: t, hl, hr =>
    have htl : t.length ≤ 996 := by simp at hl; omega
    unfold restS at hr
    simp only at hr
    by_cases h1 : 64 ≤ a.toNat ∨ a.toNat % 32 < 15 ∨ 26 < a.toNat % 32
    · rw [if_pos h1] at hr
      simp only [Prod.mk.injEq] at hr
      obtain ⟨⟨rfl, rfl, rfl⟩, rfl, rfl⟩ := hr
      exact dReadWin a _ rfl t _ rfl htl h1 w
    · rw [if_neg h1] at hr
      by_cases h2 : a.toNat < 32
      · rw [if_pos h2] at hr
        simp only [Prod.mk.injEq] at hr
        obtain ⟨⟨rfl, rfl, rfl⟩, rfl, rfl⟩ := hr
        exact dReadNo a _ rfl t _ rfl htl (by omega) w
      · rw [if_neg h2] at hr
        match t, htl, hr with
        | b :: c :: d :: f :: u, htl, hr =>
          simp only [Prod.mk.injEq] at hr
          obtain ⟨⟨rfl, rfl, rfl⟩, rfl, rfl⟩ := hr
          exact dReadYes a _ rfl b c d f _ _ _ _ rfl rfl rfl rfl u _ _ rfl rfl htl (by omega) w
        | [], _, hr =>
          simp only [Prod.mk.injEq] at hr
          obtain ⟨⟨rfl, rfl, rfl⟩, rfl, rfl⟩ := hr
          exact dReadShort a _ rfl _ _ rfl (by simp) (by omega) w
        | [b], _, hr =>
          simp only [Prod.mk.injEq] at hr
          obtain ⟨⟨rfl, rfl, rfl⟩, rfl, rfl⟩ := hr
          exact dReadShort a _ rfl _ _ rfl (by simp) (by omega) w
        | [b, c], _, hr =>
          simp only [Prod.mk.injEq] at hr
          obtain ⟨⟨rfl, rfl, rfl⟩, rfl, rfl⟩ := hr
          exact dReadShort a _ rfl _ _ rfl (by simp) (by omega) w
        | [b, c, d], _, hr =>
          simp only [Prod.mk.injEq] at hr
          obtain ⟨⟨rfl, rfl, rfl⟩, rfl, rfl⟩ := hr
          exact dReadShort a _ rfl _ _ rfl (by simp) (by omega) w
theorem dReadT (l : List UInt8) (hl : l.length ≤ 1000) (L : Int) (D : Bool) (I : Nat) (S : List UInt8) (E : Int) (hr : readS l = ((L, D, I), S, E)) (w : World) :
    Calls Try.prog 41 #[.string (sB l)] w fun e w' => e = .returned (.tuple #[hV L D I, .string (sB S), .int .i64 E]) ∧ Below w.heap.size w w' := by
  unfold readS at hr
  by_cases h : pre l = 0
  · rw [if_neg (by simpa using h)] at hr
    have hf := pre_form l h
    rw [hf]
    exact dRestT (l.drop 4) (by rw [List.length_drop]; omega) L D I S E hr w
  · rw [if_pos h] at hr
    simp only [Prod.mk.injEq] at hr
    obtain ⟨⟨rfl, rfl, rfl⟩, rfl, rfl⟩ := hr
    exact dReadPre l (by omega) _ rfl h w
theorem dReadBT (l : List UInt8) (hl : l.length ≤ 1000) (K R C : Int) (S : List UInt8) (E : Int) (hr : readBS l = ((K, R, C), S, E)) (w : World) :
    Calls Try.prog 43 #[.string (sB l)] w fun e w' => e = .returned (.tuple #[bV K R C, .string (sB S), .int .i64 E]) ∧ Below w.heap.size w w' := by
  match l, hl, hr with
  | [], _, hr =>
    simp only [readBS, Prod.mk.injEq] at hr
    obtain ⟨⟨rfl, rfl, rfl⟩, rfl, rfl⟩ := hr
    exact dReadBNil w
  | a :: t, hl, hr =>
    have htl : t.length ≤ 1000 := by simp at hl; omega
    unfold readBS at hr
    simp only at hr
    by_cases h1 : 2 < a.toNat
    · rw [if_pos h1] at hr
      simp only [Prod.mk.injEq] at hr
      obtain ⟨⟨rfl, rfl, rfl⟩, rfl, rfl⟩ := hr
      exact dReadBBad a _ rfl t htl h1 w
    · rw [if_neg h1] at hr
      by_cases h2 : a.toNat = 0
      · rw [if_pos h2] at hr
        simp only [Prod.mk.injEq] at hr
        obtain ⟨⟨rfl, rfl, rfl⟩, rfl, rfl⟩ := hr
        exact dReadBEnd a _ rfl t htl h2 w
      · rw [if_neg h2] at hr
        match t, htl, hr with
        | b :: c :: d :: f :: u, htl, hr =>
          simp only at hr
          have := fun M hM => dReadBIn a b c d f _ _ _ _ _ rfl rfl rfl rfl rfl u (by simp at htl; omega) (by omega) M hM w
          cases hM : mayB a.toNat ((b.toNat : Int) + c.toNat * 256 + 1) ((d.toNat : Int) + f.toNat * 256 + 1) with
          | true =>
            rw [hM, if_pos rfl] at hr
            simp only [Prod.mk.injEq] at hr
            obtain ⟨⟨rfl, rfl, rfl⟩, rfl, rfl⟩ := hr
            exact this true hM
          | false =>
            rw [hM, if_neg (by decide)] at hr
            simp only [Prod.mk.injEq] at hr
            obtain ⟨⟨rfl, rfl, rfl⟩, rfl, rfl⟩ := hr
            exact this false hM
        | [], _, hr =>
          simp only [Prod.mk.injEq] at hr
          obtain ⟨⟨rfl, rfl, rfl⟩, rfl, rfl⟩ := hr
          exact dReadBShort a _ rfl _ (by simp) (by omega) w
        | [b], _, hr =>
          simp only [Prod.mk.injEq] at hr
          obtain ⟨⟨rfl, rfl, rfl⟩, rfl, rfl⟩ := hr
          exact dReadBShort a _ rfl _ (by simp) (by omega) w
        | [b, c], _, hr =>
          simp only [Prod.mk.injEq] at hr
          obtain ⟨⟨rfl, rfl, rfl⟩, rfl, rfl⟩ := hr
          exact dReadBShort a _ rfl _ (by simp) (by omega) w
        | [b, c, d], _, hr =>
          simp only [Prod.mk.injEq] at hr
          obtain ⟨⟨rfl, rfl, rfl⟩, rfl, rfl⟩ := hr
          exact dReadBShort a _ rfl _ (by simp) (by omega) w
end Go.Proofs.Ytekageibffhloaa
