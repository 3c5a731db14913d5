/- Layer 45: contracts by values; the document's Decode; awake. -/
import Derived.Test.YtkdkedgpchcfpaaG6
import Derived.Test.YtkdkedgpchcfpaaG10
import Derived.Test.YtkdkedgpchcfpaaG0
namespace Go.Proofs.Ytkdkedgpchcfpaa
open Go.ChangeShapes Go.WideShapes Go.ChangeAt Go.RowKit Go.Deep
set_option linter.unusedVariables false
set_option maxRecDepth 100000
open Range

def encS (bl : List Bool) (l : List Int) : List UInt8 × Int := if bl.length ≠ l.length then ([], 1) else if l.all okB = false then ([], 2) else (told (prs bl l), 0)
def decS (s : List UInt8) (l : List Int) : List Bool × Int := if l.all okB = false then ([], 2) else (undo (fresh s) (nats l), 0)
theorem gEncodeT {w : World} {v u : Value} {bl : List Bool} {l : List Int} (h1 : IsB w v bl) (h2 : IsL w u l) (hl : l.length ≤ 100000) (S : List UInt8) (E : Int) (hr : encS bl l = (S, E)) :
    Calls Try.prog 15 #[v, u] w fun e w' => e = .returned (.tuple #[.string (sB S), .int .i64 E]) ∧ Below w.heap.size w w' := by
  obtain ⟨a, ca, rfl, h1⟩ := h1
  obtain ⟨b, cb, rfl, h2⟩ := h2
  unfold encS at hr
  by_cases hlen : bl.length = l.length
  · rw [if_neg (by omega)] at hr
    rw [hlen]
    cases hall : l.all okB with
    | false =>
      rw [hall, if_pos rfl] at hr
      obtain ⟨rfl, rfl⟩ := hr
      exact gEncodeRange a b ca cb l w h2 hall
    | true =>
      rw [hall, if_neg (by decide)] at hr
      obtain ⟨rfl, rfl⟩ := hr
      by_cases h0 : 0 < l.length
      · exact gEncode a b ca cb bl l w h1 h2 hlen hl h0 hall
      · have hn : l = [] := List.eq_nil_of_length_eq_zero (by omega)
        subst hn
        have hb : bl = [] := List.eq_nil_of_length_eq_zero hlen
        subst hb
        exact gEncodeNil a b ca cb w
  · rw [if_pos hlen] at hr
    obtain ⟨rfl, rfl⟩ := hr
    exact gEncodeArg a b _ _ ca cb w hlen
theorem dEncodeT {w : World} {v u : Value} {bl : List Bool} {l : List Int} (h1 : IsB w v bl) (h2 : IsL w u l) (hl : l.length ≤ 100000) (S : List UInt8) (E : Int) (hr : encS bl l = (S, E)) :
    Calls Try.prog 16 #[v, u] w fun e w' => e = .returned (.tuple #[.string (sB S), .int .i64 E]) ∧ Below w.heap.size w w' := by
  obtain ⟨a, ca, rfl, h1⟩ := h1
  obtain ⟨b, cb, rfl, h2⟩ := h2
  unfold encS at hr
  by_cases hlen : bl.length = l.length
  · rw [if_neg (by omega)] at hr
    rw [hlen]
    cases hall : l.all okB with
    | false =>
      rw [hall, if_pos rfl] at hr
      obtain ⟨rfl, rfl⟩ := hr
      refine (dEncodeRange a b ca cb l w h2 hall).mono ?_
      rintro e w' ⟨h, rfl⟩
      exact ⟨h, Below.refl _ _⟩
    | true =>
      rw [hall, if_neg (by decide)] at hr
      obtain ⟨rfl, rfl⟩ := hr
      exact dEncode a b ca cb bl l w h1 h2 hlen hl hall
  · rw [if_pos hlen] at hr
    obtain ⟨rfl, rfl⟩ := hr
    refine (dEncodeArg a b _ _ ca cb w hlen).mono ?_
    rintro e w' ⟨h, rfl⟩
    exact ⟨h, Below.refl _ _⟩
theorem gDecodeT {w : World} {u : Value} (s : ByteArray) {l : List Int} (hs : s.size ≤ 1000000) (h2 : IsL w u l) (hl : l.length ≤ 1000000) (L : List Bool) (E : Int) (hr : decS s.data.toList l = (L, E)) :
    Calls Try.prog 17 #[.string s, u] w fun e w' => ∃ v, e = .returned (.tuple #[v, .int .i64 E]) ∧ IsB w' v L ∧ Below w.heap.size w w' := by
  obtain ⟨b, cb, rfl, h2⟩ := h2
  unfold decS at hr
  cases hall : l.all okB with
  | false =>
    rw [hall, if_pos rfl] at hr
    obtain ⟨rfl, rfl⟩ := hr
    refine (gDecodeOut s b cb l w h2 hall).mono ?_
    rintro e w' ⟨rfl, rfl⟩
    exact ⟨_, rfl, IsB.nil _, Below.refl _ _⟩
  | true =>
    rw [hall, if_neg (by decide)] at hr
    obtain ⟨rfl, rfl⟩ := hr
    refine (gDecode s hs b cb l hl w h2 hall).mono ?_
    rintro e w' ⟨v, rfl, h3, h4⟩
    exact ⟨v, rfl, h3.isB, h4⟩
theorem lit2 (w : World) (bs : List Bool) (is : List Int) (t1 t2 c1 c2 : Nat) (hl : is.length ≤ 70368744177664) :
    IsB ((w.alloc (.cells (bs.map Value.bool).toArray t1)).alloc (.cells (is.map (Value.int .i64 ·)).toArray t2)) (.slice (some ⟨w.heap.size, 0, none⟩) bs.length c1) bs ∧
    IsL ((w.alloc (.cells (bs.map Value.bool).toArray t1)).alloc (.cells (is.map (Value.int .i64 ·)).toArray t2)) (.slice (some ⟨w.heap.size + 1, 0, none⟩) is.length c2) is := by
  refine ⟨(IsB.lit w bs t1 c1).alloc _, ⟨_, _, rfl, ?_⟩⟩
  have := IsInts.new (w.alloc (.cells (bs.map Value.bool).toArray t1)) is t2 (0, 0) hl
  simpa using this
theorem lit1 (w : World) (is : List Int) (t2 c2 : Nat) (hl : is.length ≤ 70368744177664) : IsL (w.alloc (.cells (is.map (Value.int .i64 ·)).toArray t2)) (.slice (some ⟨w.heap.size, 0, none⟩) is.length c2) is :=
  ⟨_, _, rfl, IsInts.new w is t2 (0, 0) hl⟩
theorem step1 {w a b : World} {o : Obj} (h : Below w.heap.size w a) (h2 : Below (a.alloc o).heap.size (a.alloc o) b) : Below w.heap.size w b :=
  (h.alloc h.size o).trans (h2.mono (by have := h.size; simp; omega))
theorem step2 {w a b : World} {o q : Obj} (h : Below w.heap.size w a) (h2 : Below ((a.alloc o).alloc q).heap.size ((a.alloc o).alloc q) b) : Below w.heap.size w b :=
  step1 (h.alloc h.size o) h2
set_option maxHeartbeats 3200000 in
theorem awake45 (w : World) : Calls Try.prog 14 #[] w fun e w' => e = .returned (.bool true) ∧ Below w.heap.size w w' := by
  obtain ⟨⟨T3, E3⟩, hT3⟩ : ∃ r, encS [true, true, false] [1024, 1, 2047] = r := ⟨_, rfl⟩
  have hE3 : E3 = 0 := by
    have h1 : (encS [true, true, false] [1024, 1, 2047]).2 = 0 := by decide +kernel
    rw [hT3] at h1; exact h1
  subst hE3
  have hD3 : decS T3 [1024, 1, 2047] = ([true, true, false], 0) := by
    have h1 : decS (encS [true, true, false] [1024, 1, 2047]).1 [1024, 1, 2047] = ([true, true, false], 0) := by decide +kernel
    rw [hT3] at h1; exact h1
  have hl3 : T3.length ≤ 100 := by
    have h1 : (encS [true, true, false] [1024, 1, 2047]).1.length ≤ 100 := by decide +kernel
    rw [hT3] at h1; exact h1
  have HT3 := Lib.hid hT3; have HD3 := Lib.hid hD3
  clear hT3 hD3
  go_enter Try.func14, Try.ntmps14
  go_wp2_with fail
  obtain ⟨x1, x2⟩ := lit2 w [false] [1024] 4 3 1 1 (by decide)
  refine (gEncodeT x1 x2 (by decide) [0, 0, 0, 0] 0 (by decide +kernel)).mono ?_; rintro e w1 ⟨rfl, hb1⟩
  have hb := step2 (Below.refl w.heap.size w) hb1
  clear x1 x2 hb1
  go_wp2_with fail
  have x2 := lit1 w1 [1024, 2047] 3 2 (by decide)
  refine (gDecodeT (sB [0, 0, 0, 0]) (by decide) x2 (by decide) [false, false] 0 (by decide +kernel)).mono ?_; rintro e w2 ⟨v2, rfl, i2, hb2⟩
  have hb := step1 hb hb2
  have I2 := Lib.hid i2
  clear x2 i2 hb2
  go_wp2_with fail
  refine (gEncodeT (IsB.lit w2 [false] 4 1) (IsL.nil _) (by decide) [] 1 (by decide +kernel)).mono ?_; rintro e w3 ⟨rfl, hb3⟩
  have hb := step1 hb hb3
  have I3 := Lib.hid ((I2.out.alloc _).kept hb3)
  clear hb3 I2
  go_wp2_with fail
  obtain ⟨x1, x2⟩ := lit2 w3 [false] [2048] 4 3 1 1 (by decide)
  refine (gEncodeT x1 x2 (by decide) [] 2 (by decide +kernel)).mono ?_; rintro e w4 ⟨rfl, hb4⟩
  have hb := step2 hb hb4
  have I4 := Lib.hid (((I3.out.alloc _).alloc _).kept hb4)
  clear hb4 I3 x1 x2
  go_wp2_with fail
  obtain ⟨x1, x2⟩ := lit2 w4 [true, true, false] [1024, 1, 2047] 4 3 3 3 (by decide)
  refine (gEncodeT x1 x2 (by decide) T3 0 HT3.out).mono ?_; rintro e w5 ⟨rfl, hb5⟩
  have hb := step2 hb hb5
  have I5 := Lib.hid (((I4.out.alloc _).alloc _).kept hb5)
  clear hb5 I4 x1 x2
  go_wp2_with fail
  have x2 := lit1 w5 [1024, 1, 2047] 3 3 (by decide)
  refine (gDecodeT (sB T3) (by rw [sB_size]; omega) x2 (by decide) [true, true, false] 0 (by rw [sB_list]; exact HD3.out)).mono ?_; rintro e w6 ⟨v6, rfl, i6, hb6⟩
  have hb := step1 hb hb6
  have I6 := Lib.hid ((I5.out.alloc _).kept hb6)
  have J6 := Lib.hid i6
  clear hb6 I5 x2 i6
  rw [show sB [0, 0, 0, 0] = ⟨#[0, 0, 0, 0]⟩ from rfl]
  go_wp2_with fail
  refine (dBoolsT (I6.out.alloc _) (IsB.lit w6 [false, false] 4 2) (by decide) (by decide) true (by decide)).mono ?_; rintro e w7 ⟨rfl, hb7⟩
  have hb := step1 hb hb7
  have J7 := Lib.hid ((J6.out.alloc _).kept hb7)
  clear hb7 I6 J6
  go_wp2_with fail
  refine (dBoolsT (J7.out.alloc _) (IsB.lit w7 [true, true, false] 4 3) (by decide) (by decide) true (by decide)).mono ?_; rintro e w8 ⟨rfl, hb8⟩
  have hb := step1 hb hb8
  clear hb8 J7
  go_wp2_with fail
  go_ret
  exact ⟨rfl, hb⟩
end Go.Proofs.Ytkdkedgpchcfpaa
