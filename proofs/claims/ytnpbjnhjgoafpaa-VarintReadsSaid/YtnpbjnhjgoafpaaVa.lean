/- Contracts of layer 3's functions Put and Size, the program's and the document's. -/
import Derived.Test.YtnpbjnhjgoafpaaRows
import Derived.WalkKit
import Derived.ProofKit
import Derived.OpenShut
import Derived.Lib.Hide
import Derived.Lib.Slices
import Derived.Lib.UnsafeStr
import Derived.Laws.IdiomStrings
import Derived.OwnWalk
import Derived.BigCall
namespace Go.Proofs.Ytnpbjnhjgoafpaa
open Go.ChangeShapes Go.WideShapes Go.ChangeAt Go.RowKit
set_option linter.unusedVariables false

theorem ret_i {k : IntKind} {a b : Int} (h : a = b) : Ending.returned (.int k a) = .returned (.int k b) := by rw [h]

/-- The bytes of n: sevens of bits, the lowest first, each but the last one with the sign 128. -/
def vbF : Nat → Nat → List UInt8
  | 0, n => [UInt8.ofNat n]
  | f + 1, n => if n < 128 then [UInt8.ofNat n] else UInt8.ofNat (n % 128 + 128) :: vbF f (n / 128)
def vb (n : Nat) : List UInt8 := vbF n n

theorem vbF_last (f n : Nat) (h : n < 128) : vbF f n = [UInt8.ofNat n] := by
  cases f with
  | zero => rfl
  | succ f => simp only [vbF, if_pos h]

theorem vbF_more (f n : Nat) (h : 128 ≤ n) (hf : n ≤ f) : ∃ g, n / 128 ≤ g ∧ vbF f n = UInt8.ofNat (n % 128 + 128) :: vbF g (n / 128) := by
  cases f with
  | zero => omega
  | succ f => exact ⟨f, by omega, by simp only [vbF, if_neg (by omega : ¬ n < 128)]⟩

theorem vbF_pos (f n : Nat) : 0 < (vbF f n).length := by
  cases f with
  | zero => simp [vbF]
  | succ f => simp only [vbF]; split <;> simp
theorem vb_pos (n : Nat) : 0 < (vb n).length := vbF_pos n n

theorem vbF_len (f n : Nat) : (vbF f n).length ≤ f + 1 := by
  induction f generalizing n with
  | zero => simp [vbF]
  | succ f ih =>
    simp only [vbF]
    split
    · simp
    · have := ih (n / 128); simp; omega

set_option maxRecDepth 100000 in
theorem size_in (n : Nat) (h : n ≤ 4294967295) (w : World) :
    Calls Try.prog 36 #[.int .i64 n] w fun e w' => e = .returned (.int .i64 (vb n).length) ∧ w = w' := by
  have hl : (vb n).length ≤ n + 1 := vbF_len n n
  go_enter Try.func36, Try.ntmps36
  go_wp2
  go_loop [0, 3] (fun m k => ∃ a c f : Nat, a ≤ 4294967295 ∧ a ≤ f ∧ m = .int .i64 a ∧ k = .int .i64 c ∧ c + (vbF f a).length = (vb n).length + 1) (fun m _ => (intOf m).toNat)
  case atStart => exact ⟨n, 1, n, h, Nat.le_refl _, rfl, rfl, by unfold vb; omega⟩
  case round =>
    obtain ⟨a, c, f, ha, hf, rfl, rfl, hr⟩ := hrel
    by_cases hlt : a < 128
    · have e : c = (vb n).length := by rw [vbF_last f a hlt] at hr; simpa using hr
      have E := Lib.hid e; clear e hr
      go_wp2
      go_ret
      exact ⟨ret_i (by rw [E.out]), rfl⟩
    · obtain ⟨g, hg, e⟩ := vbF_more f a (by omega) hf
      rw [e, List.length_cons] at hr
      have hc : c ≤ n + 2 := by omega
      have H2 := Lib.hid hr; clear hr e
      go_wp2
      go_round
      case rel => exact ⟨a / 128, c + 1, g, by omega, hg, by go_num, by go_num, by have := H2.out; omega⟩
      case measure => simp [intOf]; omega

theorem size_out (n : Int) (h : n < 0 ∨ 4294967295 < n) (w : World) :
    Calls Try.prog 36 #[.int .i64 n] w fun e w' => e = .returned (.int .i64 0) ∧ w = w' := by
  rcases h with h | h
  · go_enter Try.func36, Try.ntmps36
    go_wp2
    go_ret
    exact ⟨rfl, rfl⟩
  · have h' : ¬ n < 0 := by omega
    go_enter Try.func36, Try.ntmps36
    go_wp2
    go_ret
    exact ⟨rfl, rfl⟩

theorem infoByte : (Try.prog.info? 5).map (fun i => (i.zero, i.size, i.bytes)) = some (some (.int .u8 0), 1, 1) := by kernel_rfl

theorem put_out (n : Int) (h : n < 0 ∨ 4294967295 < n) (w : World) :
    Calls Try.prog 34 #[.int .i64 n] w fun e w' => e = .returned (.tuple #[.string ⟨#[]⟩, .int .i64 2]) ∧ w = w' := by
  go_enter Try.func34, Try.ntmps34
  go_wp2_with fail
  refine (size_out n h _).mono ?_; rintro e w' ⟨rfl, rfl⟩
  go_wp2_with fail
  go_ret2
  exact ⟨rfl, rfl⟩

theorem refPut_out (n : Int) (h : n < 0 ∨ 4294967295 < n) (w : World) :
    Calls Try.prog 35 #[.int .i64 n] w fun e w' => e = .returned (.tuple #[.string ⟨#[]⟩, .int .i64 2]) ∧ w = w' := by
  rcases h with h | h
  · go_enter Try.func35, Try.ntmps35
    go_wp2
    go_ret2
    exact ⟨rfl, rfl⟩
  · have h' : ¬ n < 0 := by omega
    go_enter Try.func35, Try.ntmps35
    go_wp2
    go_ret2
    exact ⟨rfl, rfl⟩

theorem byteCells_snoc (l : List UInt8) (n : Nat) (h : n < 256) : Lib.byteCells l ++ [Value.int .u8 (n : Int)] = Lib.byteCells (l ++ [UInt8.ofNat n]) := by
  simp [Lib.byteCells, Nat.mod_eq_of_lt h]

set_option maxRecDepth 100000 in
set_option maxHeartbeats 1600000 in
theorem put_in (n : Nat) (h : n ≤ 4294967295) (w : World) :
    Calls Try.prog 34 #[.int .i64 n] w fun e w' => e = .returned (.tuple #[.string ⟨(vb n).toArray⟩, .int .i64 0]) ∧ Below w.heap.size w w' := by
  obtain ⟨i0, hi, hz0, hz1, hz2⟩ := info_parts infoByte
  have hl : (vb n).length ≤ n + 1 := vbF_len n n
  have hpos := vb_pos n
  have hne : (((vb n).length : Int) == 0) = false := by rw [beq_eq_false_iff_ne]; omega
  go_enter Try.func34, Try.ntmps34
  go_wp2_with fail
  refine (size_in n h _).mono ?_; rintro e w' ⟨rfl, rfl⟩
  go_wp2_with fail
  go_loopw [0, 4] (fun m v wr => ∃ (a f : Nat) (l : List UInt8), a ≤ 4294967295 ∧ a ≤ f ∧ m = .int .i64 a ∧ l ++ vbF f a = vb n ∧ wr.ownsRow w.heap.size 5 1 v l.length (Lib.byteCells l) ∧ Below w.heap.size w wr) (fun m _ _ => (intOf m).toNat)
  case atStart => exact ⟨n, n, [], h, Nat.le_refl _, rfl, rfl, World.ownsRow_nil _ _ _ _, Below.refl _ _⟩
  case round =>
    obtain ⟨a, f, l, ha, hf, rfl, hr, hown, hb⟩ := hrel
    by_cases hlt : a < 128
    · have e := vbF_last f a hlt
      rw [e] at hr
      have hlen : l.length ≤ n + 1 := by have := congrArg List.length hr; simp at this; omega
      have HR := Lib.hid hr; clear hr e
      go_wp2_with (at_builtin; refine wpList_append_own _ rfl _ _ 54 rfl w.heap.size 5 i0 (.int .u8 0) 1 1 Try.underlying54 hi hz0 hz1 hz2 rfl (by decide) _ _ _ rfl (hown.alloc _) ⟨wr.heap.size, 0, none⟩ 1 1 [Value.int .u8 (a : Int)] rfl rfl ?d1 ?d2 ?d3 ?d4 ?d5 ?_)
      case d1 =>
        intro j u hj
        match j, hj with
        | 0, hj => simp at hj; subst hj; simp [Addr.add]
      case d2 => intro u hu; simp at hu; subst hu; rfl
      case d3 => unfold maxLen; omega
      case d4 => omega
      case d5 => have := hb.size; simp; omega
      intro v1 w1 hown1 hgrow1 _
      rw [byteCells_snoc l a (by omega), HR.out] at hown1
      have hlen2 : l.length + 1 = (vb n).length := by have := congrArg List.length HR.out; simpa using this
      rw [hlen2] at hown1
      have hb1 : Below w.heap.size w w1 := (hb.alloc (by have := hb.size; omega) _).grown hgrow1 (by have := hb.size; simp; omega) (fun k hk => (hown.lt k hk).1)
      clear hgrow1 hown hb
      rcases hown1.2 with ⟨-, h0⟩ | ⟨gg, cap, cur, rfl, -, -, -, -, -, -⟩
      · omega
      · have hcv := run_convert_bytes_back (P := Try.prog) w1 54 9 5 ⟨gg, 0, none⟩ cap (vb n) Try.underlying54 Try.underlying5 Try.underlying9 (fun j hj => hown1.cells (g := gg) rfl j _ (by simp [Lib.byteCells, hj]))
        clear hlen2 HR
        go_wp2
        go_ret2
        exact ⟨rfl, hb1⟩
    · obtain ⟨g, hg, e⟩ := vbF_more f a (by omega) hf
      rw [e] at hr
      have hlen : l.length ≤ n + 1 := by have := congrArg List.length hr; simp at this; omega
      have HR := Lib.hid hr; clear hr e
      go_wp2_with (at_builtin; refine wpList_append_own _ rfl _ _ 54 rfl w.heap.size 5 i0 (.int .u8 0) 1 1 Try.underlying54 hi hz0 hz1 hz2 rfl (by decide) _ _ _ rfl (hown.alloc _) ⟨wr.heap.size, 0, none⟩ 1 1 [Value.int .u8 ((a : Int) % 128 + 128)] rfl rfl ?c1 ?c2 ?c3 ?c4 ?c5 ?_)
      case c1 =>
        intro j u hj
        match j, hj with
        | 0, hj => simp at hj; subst hj; simp [Addr.add]
      case c2 => intro u hu; simp at hu; subst hu; rfl
      case c3 => unfold maxLen; omega
      case c4 => omega
      case c5 => have := hb.size; simp; omega
      intro v1 w1 hown1 hgrow1 _
      have hb1 : Below w.heap.size w w1 := (hb.alloc (by have := hb.size; omega) _).grown hgrow1 (by have := hb.size; simp; omega) (fun k hk => (hown.lt k hk).1)
      clear hgrow1 hown hb
      go_wp2
      go_roundw
      case rel => exact ⟨a / 128, g, l ++ [UInt8.ofNat (a % 128 + 128)], by omega, hg, by go_num, by rw [List.append_assoc]; exact HR.out, by
        rw [← byteCells_snoc l (a % 128 + 128) (by omega), List.length_append]; exact hown1, hb1⟩
      case measure => simp [intOf]; omega
set_option maxRecDepth 100000 in
set_option maxHeartbeats 1600000 in
theorem refPut_in (n : Nat) (h : n ≤ 4294967295) (w : World) :
    Calls Try.prog 35 #[.int .i64 n] w fun e w' => e = .returned (.tuple #[.string ⟨(vb n).toArray⟩, .int .i64 0]) ∧ Below w.heap.size w w' := by
  obtain ⟨i0, hi, hz0, hz1, hz2⟩ := info_parts infoByte
  have hl : (vb n).length ≤ n + 1 := vbF_len n n
  have hpos := vb_pos n
  go_enter Try.func35, Try.ntmps35
  go_wp2_with fail
  go_loopw [0, 4] (fun m v wr => ∃ (a f : Nat) (l : List UInt8), a ≤ 4294967295 ∧ a ≤ f ∧ m = .int .i64 a ∧ l ++ vbF f a = vb n ∧ wr.ownsRow w.heap.size 5 1 v l.length (Lib.byteCells l) ∧ Below w.heap.size w wr) (fun m _ _ => (intOf m).toNat)
  case atStart => exact ⟨n, n, [], h, Nat.le_refl _, rfl, rfl, World.ownsRow_nil _ _ _ _, Below.refl _ _⟩
  case round =>
    obtain ⟨a, f, l, ha, hf, rfl, hr, hown, hb⟩ := hrel
    by_cases hlt : a < 128
    · have e := vbF_last f a hlt
      rw [e] at hr
      have hlen : l.length ≤ n + 1 := by have := congrArg List.length hr; simp at this; omega
      have HR := Lib.hid hr; clear hr e
      go_wp2_with (at_builtin; refine wpList_append_own _ rfl _ _ 54 rfl w.heap.size 5 i0 (.int .u8 0) 1 1 Try.underlying54 hi hz0 hz1 hz2 rfl (by decide) _ _ _ rfl (hown.alloc _) ⟨wr.heap.size, 0, none⟩ 1 1 [Value.int .u8 (a : Int)] rfl rfl ?d1 ?d2 ?d3 ?d4 ?d5 ?_)
      case d1 =>
        intro j u hj
        match j, hj with
        | 0, hj => simp at hj; subst hj; simp [Addr.add]
      case d2 => intro u hu; simp at hu; subst hu; rfl
      case d3 => unfold maxLen; omega
      case d4 => omega
      case d5 => have := hb.size; simp; omega
      intro v1 w1 hown1 hgrow1 _
      rw [byteCells_snoc l a (by omega), HR.out] at hown1
      have hlen2 : l.length + 1 = (vb n).length := by have := congrArg List.length HR.out; simpa using this
      rw [hlen2] at hown1
      have hb1 : Below w.heap.size w w1 := (hb.alloc (by have := hb.size; omega) _).grown hgrow1 (by have := hb.size; simp; omega) (fun k hk => (hown.lt k hk).1)
      clear hgrow1 hown hb
      rcases hown1.2 with ⟨-, h0⟩ | ⟨gg, cap, cur, rfl, -, -, -, -, -, -⟩
      · omega
      · have hcv := run_convert_bytes_back (P := Try.prog) w1 54 9 5 ⟨gg, 0, none⟩ cap (vb n) Try.underlying54 Try.underlying5 Try.underlying9 (fun j hj => hown1.cells (g := gg) rfl j _ (by simp [Lib.byteCells, hj]))
        clear hlen2 HR
        go_wp2
        go_ret2
        exact ⟨rfl, hb1⟩
    · obtain ⟨g, hg, e⟩ := vbF_more f a (by omega) hf
      rw [e] at hr
      have hlen : l.length ≤ n + 1 := by have := congrArg List.length hr; simp at this; omega
      have HR := Lib.hid hr; clear hr e
      go_wp2_with (at_builtin; refine wpList_append_own _ rfl _ _ 54 rfl w.heap.size 5 i0 (.int .u8 0) 1 1 Try.underlying54 hi hz0 hz1 hz2 rfl (by decide) _ _ _ rfl (hown.alloc _) ⟨wr.heap.size, 0, none⟩ 1 1 [Value.int .u8 ((a : Int) % 128 + 128)] rfl rfl ?c1 ?c2 ?c3 ?c4 ?c5 ?_)
      case c1 =>
        intro j u hj
        match j, hj with
        | 0, hj => simp at hj; subst hj; simp [Addr.add]; omega
      case c2 => intro u hu; simp at hu; subst hu; rfl
      case c3 => unfold maxLen; omega
      case c4 => omega
      case c5 => have := hb.size; simp; omega
      intro v1 w1 hown1 hgrow1 _
      have hb1 : Below w.heap.size w w1 := (hb.alloc (by have := hb.size; omega) _).grown hgrow1 (by have := hb.size; simp; omega) (fun k hk => (hown.lt k hk).1)
      clear hgrow1 hown hb
      go_wp2
      go_roundw
      case rel => exact ⟨a / 128, g, l ++ [UInt8.ofNat (a % 128 + 128)], by omega, hg, by go_num, by rw [List.append_assoc]; exact HR.out, by
        rw [← byteCells_snoc l (a % 128 + 128) (by omega), List.length_append]; exact hown1, hb1⟩
      case measure => simp [intOf]; omega
end Go.Proofs.Ytnpbjnhjgoafpaa
