import Derived.Test.YtedmnlfbmmlcbaaJ01
import Derived.BigCall
import Derived.Laws.IdiomStrings
import Derived.Lib.Hide
import Derived.Lib.Slices
import Derived.Lib.UnsafeStr
import Derived.OpenShut
import Derived.OwnWalk
import Derived.ProofKit
import Derived.WalkKit
import Derived.BigQuiet
import Derived.Deep.QuietTactic
import Derived.Lib.IndexBytes
import Derived.Lib.Strings
import Derived.Scope
import Derived.ScopeJumps
import Derived.WalkMore
import Derived.Test.YtedmnlfbmmlcbaaJ02
/- Layer 3, carried over: Put. -/
namespace Go.Proofs.Ytedmnlfbmmlcbaa.Vi

open Go.ChangeShapes Go.WideShapes Go.ChangeAt Go.RowKit
set_option linter.unusedVariables false

theorem ret_i {k : IntKind} {a b : Int} (h : a = b) : Ending.returned (.int k a) = .returned (.int k b) := by rw [h]

/-- The bytes of n: sevens of bits, the lowest first, each but the last one with the sign 128. -/
def vbF : Nat → Nat → List UInt8
  | 0, n => [UInt8.ofNat n]
  | f + 1, n => if n < 128 then [UInt8.ofNat n] else UInt8.ofNat (n % 128 + 128) :: vbF f (n / 128)
def vb (n : Nat) : List UInt8 := vbF n n

theorem vbF_last (f n : Nat) (h : n < 128) : vbF f n = [UInt8.ofNat n] := by
  cases f with
  | zero => rfl
  | succ f => simp only [vbF, if_pos h]

theorem vbF_more (f n : Nat) (h : 128 ≤ n) (hf : n ≤ f) : ∃ g, n / 128 ≤ g ∧ vbF f n = UInt8.ofNat (n % 128 + 128) :: vbF g (n / 128) := by
  cases f with
  | zero => omega
  | succ f => exact ⟨f, by omega, by simp only [vbF, if_neg (by omega : ¬ n < 128)]⟩

theorem vbF_pos (f n : Nat) : 0 < (vbF f n).length := by
  cases f with
  | zero => simp [vbF]
  | succ f => simp only [vbF]; split <;> simp
theorem vb_pos (n : Nat) : 0 < (vb n).length := vbF_pos n n

theorem vbF_len (f n : Nat) : (vbF f n).length ≤ f + 1 := by
  induction f generalizing n with
  | zero => simp [vbF]
  | succ f ih =>
    simp only [vbF]
    split
    · simp
    · have := ih (n / 128); simp; omega

set_option maxRecDepth 100000 in
theorem size_in (n : Nat) (h : n ≤ 4294967295) (w : World) :
    Calls Try.prog 29 #[.int .i64 n] w fun e w' => e = .returned (.int .i64 (vb n).length) ∧ w = w' := by
  have hl : (vb n).length ≤ n + 1 := vbF_len n n
  go_enter Try.func29, Try.ntmps29
  go_wp2
  go_loop [0, 3] (fun m k => ∃ a c f : Nat, a ≤ 4294967295 ∧ a ≤ f ∧ m = .int .i64 a ∧ k = .int .i64 c ∧ c + (vbF f a).length = (vb n).length + 1) (fun m _ => (intOf m).toNat)
  case atStart => exact ⟨n, 1, n, h, Nat.le_refl _, rfl, rfl, by unfold vb; omega⟩
  case round =>
    obtain ⟨a, c, f, ha, hf, rfl, rfl, hr⟩ := hrel
    by_cases hlt : a < 128
    · have e : c = (vb n).length := by rw [vbF_last f a hlt] at hr; simpa using hr
      have E := Lib.hid e; clear e hr
      go_wp2
      go_ret
      exact ⟨ret_i (by rw [E.out]), rfl⟩
    · obtain ⟨g, hg, e⟩ := vbF_more f a (by omega) hf
      rw [e, List.length_cons] at hr
      have hc : c ≤ n + 2 := by omega
      have H2 := Lib.hid hr; clear hr e
      go_wp2
      go_round
      case rel => exact ⟨a / 128, c + 1, g, by omega, hg, by go_num, by go_num, by have := H2.out; omega⟩
      case measure => simp [intOf]; omega

theorem size_out (n : Int) (h : n < 0 ∨ 4294967295 < n) (w : World) :
    Calls Try.prog 29 #[.int .i64 n] w fun e w' => e = .returned (.int .i64 0) ∧ w = w' := by
  rcases h with h | h
  · go_enter Try.func29, Try.ntmps29
    go_wp2
    go_ret
    exact ⟨rfl, rfl⟩
  · have h' : ¬ n < 0 := by omega
    go_enter Try.func29, Try.ntmps29
    go_wp2
    go_ret
    exact ⟨rfl, rfl⟩

theorem infoByte : (Try.prog.info? 5).map (fun i => (i.zero, i.size, i.bytes)) = some (some (.int .u8 0), 1, 1) := by kernel_rfl

theorem put_out (n : Int) (h : n < 0 ∨ 4294967295 < n) (w : World) :
    Calls Try.prog 12 #[.int .i64 n] w fun e w' => e = .returned (.tuple #[.string ⟨#[]⟩, .int .i64 2]) ∧ w = w' := by
  go_enter Try.func12, Try.ntmps12
  go_wp2_with fail
  refine (size_out n h _).mono ?_; rintro e w' ⟨rfl, rfl⟩
  go_wp2_with fail
  go_ret2
  exact ⟨rfl, rfl⟩

theorem refPut_out (n : Int) (h : n < 0 ∨ 4294967295 < n) (w : World) :
    Calls Try.prog 17 #[.int .i64 n] w fun e w' => e = .returned (.tuple #[.string ⟨#[]⟩, .int .i64 2]) ∧ w = w' := by
  rcases h with h | h
  · go_enter Try.func17, Try.ntmps17
    go_wp2
    go_ret2
    exact ⟨rfl, rfl⟩
  · have h' : ¬ n < 0 := by omega
    go_enter Try.func17, Try.ntmps17
    go_wp2
    go_ret2
    exact ⟨rfl, rfl⟩

theorem byteCells_snoc (l : List UInt8) (n : Nat) (h : n < 256) : Lib.byteCells l ++ [Value.int .u8 (n : Int)] = Lib.byteCells (l ++ [UInt8.ofNat n]) := by
  simp [Lib.byteCells, Nat.mod_eq_of_lt h]

set_option maxRecDepth 100000 in
set_option maxHeartbeats 1600000 in
theorem put_in (n : Nat) (h : n ≤ 4294967295) (w : World) :
    Calls Try.prog 12 #[.int .i64 n] w fun e w' => e = .returned (.tuple #[.string ⟨(vb n).toArray⟩, .int .i64 0]) ∧ Below w.heap.size w w' := by
  obtain ⟨i0, hi, hz0, hz1, hz2⟩ := info_parts infoByte
  have hl : (vb n).length ≤ n + 1 := vbF_len n n
  have hpos := vb_pos n
  have hne : (((vb n).length : Int) == 0) = false := by rw [beq_eq_false_iff_ne]; omega
  go_enter Try.func12, Try.ntmps12
  go_wp2_with fail
  refine (size_in n h _).mono ?_; rintro e w' ⟨rfl, rfl⟩
  go_wp2_with fail
  go_loopw [0, 4] (fun m v wr => ∃ (a f : Nat) (l : List UInt8), a ≤ 4294967295 ∧ a ≤ f ∧ m = .int .i64 a ∧ l ++ vbF f a = vb n ∧ wr.ownsRow w.heap.size 5 1 v l.length (Lib.byteCells l) ∧ Below w.heap.size w wr) (fun m _ _ => (intOf m).toNat)
  case atStart => exact ⟨n, n, [], h, Nat.le_refl _, rfl, rfl, World.ownsRow_nil _ _ _ _, Below.refl _ _⟩
  case round =>
    obtain ⟨a, f, l, ha, hf, rfl, hr, hown, hb⟩ := hrel
    by_cases hlt : a < 128
    · have e := vbF_last f a hlt
      rw [e] at hr
      have hlen : l.length ≤ n + 1 := by have := congrArg List.length hr; simp at this; omega
      have HR := Lib.hid hr; clear hr e
      go_wp2_with (at_builtin; refine wpList_append_own _ rfl _ _ 52 rfl w.heap.size 5 i0 (.int .u8 0) 1 1 Try.underlying52 hi hz0 hz1 hz2 rfl (by decide) _ _ _ rfl (hown.alloc _) ⟨wr.heap.size, 0, none⟩ 1 1 [Value.int .u8 (a : Int)] rfl rfl ?d1 ?d2 ?d3 ?d4 ?d5 ?_)
      case d1 =>
        intro j u hj
        match j, hj with
        | 0, hj => simp at hj; subst hj; simp [Addr.add]
      case d2 => intro u hu; simp at hu; subst hu; rfl
      case d3 => unfold maxLen; omega
      case d4 => omega
      case d5 => have := hb.size; simp; omega
      intro v1 w1 hown1 hgrow1 _
      rw [byteCells_snoc l a (by omega), HR.out] at hown1
      have hlen2 : l.length + 1 = (vb n).length := by have := congrArg List.length HR.out; simpa using this
      rw [hlen2] at hown1
      have hb1 : Below w.heap.size w w1 := (hb.alloc (by have := hb.size; omega) _).grown hgrow1 (by have := hb.size; simp; omega) (fun k hk => (hown.lt k hk).1)
      clear hgrow1 hown hb
      rcases hown1.2 with ⟨-, h0⟩ | ⟨gg, cap, cur, rfl, -, -, -, -, -, -⟩
      · omega
      · have hcv := run_convert_bytes_back (P := Try.prog) w1 52 9 5 ⟨gg, 0, none⟩ cap (vb n) Try.underlying52 Try.underlying5 Try.underlying9 (fun j hj => hown1.cells (g := gg) rfl j _ (by simp [Lib.byteCells, hj]))
        clear hlen2 HR
        go_wp2
        go_ret2
        exact ⟨rfl, hb1⟩
    · obtain ⟨g, hg, e⟩ := vbF_more f a (by omega) hf
      rw [e] at hr
      have hlen : l.length ≤ n + 1 := by have := congrArg List.length hr; simp at this; omega
      have HR := Lib.hid hr; clear hr e
      go_wp2_with (at_builtin; refine wpList_append_own _ rfl _ _ 52 rfl w.heap.size 5 i0 (.int .u8 0) 1 1 Try.underlying52 hi hz0 hz1 hz2 rfl (by decide) _ _ _ rfl (hown.alloc _) ⟨wr.heap.size, 0, none⟩ 1 1 [Value.int .u8 ((a : Int) % 128 + 128)] rfl rfl ?c1 ?c2 ?c3 ?c4 ?c5 ?_)
      case c1 =>
        intro j u hj
        match j, hj with
        | 0, hj => simp at hj; subst hj; simp [Addr.add]
      case c2 => intro u hu; simp at hu; subst hu; rfl
      case c3 => unfold maxLen; omega
      case c4 => omega
      case c5 => have := hb.size; simp; omega
      intro v1 w1 hown1 hgrow1 _
      have hb1 : Below w.heap.size w w1 := (hb.alloc (by have := hb.size; omega) _).grown hgrow1 (by have := hb.size; simp; omega) (fun k hk => (hown.lt k hk).1)
      clear hgrow1 hown hb
      go_wp2
      go_roundw
      case rel => exact ⟨a / 128, g, l ++ [UInt8.ofNat (a % 128 + 128)], by omega, hg, by go_num, by rw [List.append_assoc]; exact HR.out, by
        rw [← byteCells_snoc l (a % 128 + 128) (by omega), List.length_append]; exact hown1, hb1⟩
      case measure => simp [intOf]; omega
set_option maxRecDepth 100000 in
set_option maxHeartbeats 1600000 in
theorem refPut_in (n : Nat) (h : n ≤ 4294967295) (w : World) :
    Calls Try.prog 17 #[.int .i64 n] w fun e w' => e = .returned (.tuple #[.string ⟨(vb n).toArray⟩, .int .i64 0]) ∧ Below w.heap.size w w' := by
  obtain ⟨i0, hi, hz0, hz1, hz2⟩ := info_parts infoByte
  have hl : (vb n).length ≤ n + 1 := vbF_len n n
  have hpos := vb_pos n
  go_enter Try.func17, Try.ntmps17
  go_wp2_with fail
  go_loopw [0, 4] (fun m v wr => ∃ (a f : Nat) (l : List UInt8), a ≤ 4294967295 ∧ a ≤ f ∧ m = .int .i64 a ∧ l ++ vbF f a = vb n ∧ wr.ownsRow w.heap.size 5 1 v l.length (Lib.byteCells l) ∧ Below w.heap.size w wr) (fun m _ _ => (intOf m).toNat)
  case atStart => exact ⟨n, n, [], h, Nat.le_refl _, rfl, rfl, World.ownsRow_nil _ _ _ _, Below.refl _ _⟩
  case round =>
    obtain ⟨a, f, l, ha, hf, rfl, hr, hown, hb⟩ := hrel
    by_cases hlt : a < 128
    · have e := vbF_last f a hlt
      rw [e] at hr
      have hlen : l.length ≤ n + 1 := by have := congrArg List.length hr; simp at this; omega
      have HR := Lib.hid hr; clear hr e
      go_wp2_with (at_builtin; refine wpList_append_own _ rfl _ _ 52 rfl w.heap.size 5 i0 (.int .u8 0) 1 1 Try.underlying52 hi hz0 hz1 hz2 rfl (by decide) _ _ _ rfl (hown.alloc _) ⟨wr.heap.size, 0, none⟩ 1 1 [Value.int .u8 (a : Int)] rfl rfl ?d1 ?d2 ?d3 ?d4 ?d5 ?_)
      case d1 =>
        intro j u hj
        match j, hj with
        | 0, hj => simp at hj; subst hj; simp [Addr.add]
      case d2 => intro u hu; simp at hu; subst hu; rfl
      case d3 => unfold maxLen; omega
      case d4 => omega
      case d5 => have := hb.size; simp; omega
      intro v1 w1 hown1 hgrow1 _
      rw [byteCells_snoc l a (by omega), HR.out] at hown1
      have hlen2 : l.length + 1 = (vb n).length := by have := congrArg List.length HR.out; simpa using this
      rw [hlen2] at hown1
      have hb1 : Below w.heap.size w w1 := (hb.alloc (by have := hb.size; omega) _).grown hgrow1 (by have := hb.size; simp; omega) (fun k hk => (hown.lt k hk).1)
      clear hgrow1 hown hb
      rcases hown1.2 with ⟨-, h0⟩ | ⟨gg, cap, cur, rfl, -, -, -, -, -, -⟩
      · omega
      · have hcv := run_convert_bytes_back (P := Try.prog) w1 52 9 5 ⟨gg, 0, none⟩ cap (vb n) Try.underlying52 Try.underlying5 Try.underlying9 (fun j hj => hown1.cells (g := gg) rfl j _ (by simp [Lib.byteCells, hj]))
        clear hlen2 HR
        go_wp2
        go_ret2
        exact ⟨rfl, hb1⟩
    · obtain ⟨g, hg, e⟩ := vbF_more f a (by omega) hf
      rw [e] at hr
      have hlen : l.length ≤ n + 1 := by have := congrArg List.length hr; simp at this; omega
      have HR := Lib.hid hr; clear hr e
      go_wp2_with (at_builtin; refine wpList_append_own _ rfl _ _ 52 rfl w.heap.size 5 i0 (.int .u8 0) 1 1 Try.underlying52 hi hz0 hz1 hz2 rfl (by decide) _ _ _ rfl (hown.alloc _) ⟨wr.heap.size, 0, none⟩ 1 1 [Value.int .u8 ((a : Int) % 128 + 128)] rfl rfl ?c1 ?c2 ?c3 ?c4 ?c5 ?_)
      case c1 =>
        intro j u hj
        match j, hj with
        | 0, hj => simp at hj; subst hj; simp [Addr.add]; omega
      case c2 => intro u hu; simp at hu; subst hu; rfl
      case c3 => unfold maxLen; omega
      case c4 => omega
      case c5 => have := hb.size; simp; omega
      intro v1 w1 hown1 hgrow1 _
      have hb1 : Below w.heap.size w w1 := (hb.alloc (by have := hb.size; omega) _).grown hgrow1 (by have := hb.size; simp; omega) (fun k hk => (hown.lt k hk).1)
      clear hgrow1 hown hb
      go_wp2
      go_roundw
      case rel => exact ⟨a / 128, g, l ++ [UInt8.ofNat (a % 128 + 128)], by omega, hg, by go_num, by rw [List.append_assoc]; exact HR.out, by
        rw [← byteCells_snoc l (a % 128 + 128) (by omega), List.length_append]; exact hown1, hb1⟩
      case measure => simp [intOf]; omega

end Go.Proofs.Ytedmnlfbmmlcbaa.Vi

/- Layer 3, carried over: Read. -/
namespace Go.Proofs.Ytedmnlfbmmlcbaa.Vi

open Go.ChangeShapes Go.WideShapes Go.ChangeAt Go.RowKit
set_option linter.unusedVariables false
set_option maxRecDepth 100000

theorem vbF_eq (n : Nat) : ∀ f, n ≤ f → vbF f n = vb n := by
  induction n using Nat.strongRecOn with
  | ind n ih =>
    intro f hf
    by_cases h : n < 128
    · rw [vbF_last f n h, vb, vbF_last n n h]
    · obtain ⟨g, hg, e⟩ := vbF_more f n (by omega) hf
      obtain ⟨g', hg', e'⟩ := vbF_more n n (by omega) (Nat.le_refl _)
      rw [e, vb, e', ih (n / 128) (by omega) g hg, ih (n / 128) (by omega) g' hg']

theorem vb_lt (n : Nat) (h : n < 128) : vb n = [UInt8.ofNat n] := vbF_last n n h
theorem vb_ge (n : Nat) (h : 128 ≤ n) : vb n = UInt8.ofNat (n % 128 + 128) :: vb (n / 128) := by
  obtain ⟨g, hg, e⟩ := vbF_more n n h (Nat.le_refl _)
  rw [vb, e, vbF_eq _ g hg]

/-- What bytes stand for, the signs left out. -/
def val : List UInt8 → Nat
  | [] => 0
  | b :: l => b.toNat % 128 + 128 * val l

/-- All but the last one bear the sign, the last one doesn't. -/
def signed : List UInt8 → Prop
  | [] => False
  | [b] => b.toNat < 128
  | b :: l => 128 ≤ b.toNat ∧ signed l

theorem vb_of_length (l : List UInt8) (hs : signed l) (hl : (vb (val l)).length = l.length) : vb (val l) = l := by
  induction l with
  | nil => exact absurd hs id
  | cons b l ih =>
    cases l with
    | nil =>
      simp only [signed] at hs
      have e : val [b] = b.toNat := by simp [val]; omega
      rw [e, vb_lt _ hs]; simp
    | cons c l =>
      simp only [signed] at hs
      have hb : b.toNat < 256 := b.toNat_lt
      have hge : 128 ≤ val (b :: c :: l) := by
        by_cases h : val (b :: c :: l) < 128
        · rw [vb_lt _ h] at hl; simp at hl
        · omega
      have e : val (b :: c :: l) = b.toNat % 128 + 128 * val (c :: l) := rfl
      rw [vb_ge _ hge] at hl ⊢
      have e1 : val (b :: c :: l) / 128 = val (c :: l) := by omega
      have e2 : val (b :: c :: l) % 128 + 128 = b.toNat := by omega
      rw [e1] at hl ⊢
      rw [e2, ih hs.2 (by simpa using hl)]; simp

theorem vb_signed (n : Nat) : signed (vb n) ∧ val (vb n) = n := by
  induction n using Nat.strongRecOn with
  | ind n ih =>
    by_cases h : n < 128
    · rw [vb_lt n h]; simp [signed, val, Nat.mod_eq_of_lt (show n < 256 by omega)]; omega
    · rw [vb_ge n (by omega)]
      have hi := ih (n / 128) (by omega)
      have hp := vb_pos (n / 128)
      have e : (UInt8.ofNat (n % 128 + 128)).toNat = n % 128 + 128 := by simp; omega
      refine ⟨?_, ?_⟩
      · cases hv : vb (n / 128) with
        | nil => rw [hv] at hp; simp at hp
        | cons c l => rw [hv] at hi; simp only [signed]; exact ⟨by rw [e]; omega, hi.1⟩
      · simp only [val]; rw [e, hi.2]; omega

theorem vb_len5 (n : Nat) (h : n ≤ 4294967295) : (vb n).length ≤ 5 := by
  by_cases h1 : n < 128
  · rw [vb_lt n h1]; simp
  rw [vb_ge n (by omega)]
  by_cases h2 : n / 128 < 128
  · rw [vb_lt _ h2]; simp
  rw [vb_ge _ (by omega)]
  by_cases h3 : n / 128 / 128 < 128
  · rw [vb_lt _ h3]; simp
  rw [vb_ge _ (by omega)]
  by_cases h4 : n / 128 / 128 / 128 < 128
  · rw [vb_lt _ h4]; simp
  rw [vb_ge _ (by omega), vb_lt _ (by omega)]; simp

/-- What Read tells: the error, the number, how many bytes it has. -/
def rdF : Nat → Nat → Nat → Nat → List UInt8 → Nat × Nat × Nat
  | 0, _, _, _, _ => (4, 0, 0)
  | _ + 1, _, _, _, [] => (3, 0, 0)
  | f + 1, i, p, acc, b :: l =>
    if 128 ≤ b.toNat then rdF f (i + 1) (p * 128) (acc + b.toNat % 128 * p) l
    else if acc + b.toNat % 128 * p ≤ 4294967295 ∧ (vb (acc + b.toNat % 128 * p)).length = i + 1 then (0, acc + b.toNat % 128 * p, i + 1) else (4, 0, 0)
def rd (l : List UInt8) : Nat × Nat × Nat := rdF 5 0 1 0 l


theorem val_append (a l : List UInt8) : val (a ++ l) = val a + 128 ^ a.length * val l := by
  induction a with
  | nil => simp [val]
  | cons b a ih =>
    simp only [List.cons_append, val, List.length_cons, ih, Nat.pow_succ]
    rw [Nat.mul_add, Nat.mul_comm (128 ^ a.length) 128, Nat.mul_assoc]; omega

theorem signed_snoc (pre : List UInt8) (b : UInt8) (hp : ∀ c, c ∈ pre → 128 ≤ c.toNat) (hb : b.toNat < 128) : signed (pre ++ [b]) := by
  induction pre with
  | nil => exact hb
  | cons c pre ih =>
    have h := ih (fun x hx => hp x (List.mem_cons_of_mem _ hx))
    cases hq : pre ++ [b] with
    | nil => simp at hq
    | cons x y => rw [List.cons_append, hq]; rw [hq] at h; exact ⟨hp c List.mem_cons_self, h⟩

theorem rdF_ok (f : Nat) : ∀ (pre l : List UInt8) (n c : Nat), (∀ x, x ∈ pre → 128 ≤ x.toNat) → rdF f pre.length (128 ^ pre.length) (val pre) l = (0, n, c) →
    ∃ m, c = pre.length + m ∧ m ≤ l.length ∧ n ≤ 4294967295 ∧ vb n = pre ++ l.take m := by
  induction f with
  | zero => intro pre l n c _ h; simp [rdF] at h
  | succ f ih =>
    intro pre l n c hp h
    cases l with
    | nil => simp [rdF] at h
    | cons b l =>
      have ev : val (pre ++ [b]) = val pre + b.toNat % 128 * 128 ^ pre.length := by rw [val_append]; simp [val, Nat.mul_comm]
      by_cases hb : 128 ≤ b.toNat
      · simp only [rdF, if_pos hb] at h
        have e : rdF f (pre ++ [b]).length (128 ^ (pre ++ [b]).length) (val (pre ++ [b])) l = (0, n, c) := by
          rw [ev, List.length_append, List.length_singleton, Nat.pow_succ]; exact h
        obtain ⟨m, h1, h2, h3, h4⟩ := ih (pre ++ [b]) l n c (fun x hx => by
          rcases List.mem_append.1 hx with h | h
          · exact hp x h
          · rw [List.mem_singleton.1 h]; exact hb) e
        exact ⟨m + 1, by rw [h1]; simp; omega, by simp; omega, h3, by rw [h4]; simp⟩
      · simp only [rdF, if_neg hb] at h
        rw [← ev] at h
        split at h
        · rename_i hq
          simp only [Prod.mk.injEq] at h
          obtain ⟨-, rfl, rfl⟩ := h
          refine ⟨1, rfl, by simp, hq.1, ?_⟩
          have := vb_of_length (pre ++ [b]) (signed_snoc pre b hp (by omega)) (by rw [hq.2]; simp)
          simpa using this
        · simp at h

theorem rdF_vb (f : Nat) : ∀ (pre l t : List UInt8), signed l → l.length ≤ f → val (pre ++ l) ≤ 4294967295 → vb (val (pre ++ l)) = pre ++ l →
    rdF f pre.length (128 ^ pre.length) (val pre) (l ++ t) = (0, val (pre ++ l), pre.length + l.length) := by
  induction f with
  | zero => intro pre l t hs hl; cases l with | nil => exact absurd hs id | cons b l => simp at hl
  | succ f ih =>
    intro pre l t hs hl hv hc
    cases l with
    | nil => exact absurd hs id
    | cons b l =>
      have ev : val (pre ++ [b]) = val pre + b.toNat % 128 * 128 ^ pre.length := by rw [val_append]; simp [val, Nat.mul_comm]
      cases l with
      | nil =>
        simp only [signed] at hs
        simp only [List.cons_append, List.nil_append, rdF]
        rw [if_neg (by omega), ← ev, if_pos ⟨hv, by rw [hc]; simp⟩]
        simp
      | cons c l =>
        simp only [signed] at hs
        simp only [List.cons_append, rdF]
        rw [if_pos hs.1, ← ev]
        have h := ih (pre ++ [b]) (c :: l) t hs.2 (by simp at hl ⊢; omega) (by simpa using hv) (by simpa using hc)
        simp only [List.length_append, List.length_singleton, Nat.pow_succ, List.append_assoc, List.cons_append, List.nil_append] at h
        rw [h]; simp; omega

theorem rdF_short (l : List UInt8) : ∀ f i p acc, (∀ x, x ∈ l → 128 ≤ x.toNat) → l.length < f → rdF f i p acc l = (3, 0, 0) := by
  induction l with
  | nil => intro f i p acc _ h; cases f with | zero => simp at h | succ f => rfl
  | cons b l ih =>
    intro f i p acc hp h
    cases f with
    | zero => simp at h
    | succ f =>
      simp only [rdF, if_pos (hp b List.mem_cons_self)]
      exact ih f _ _ _ (fun x hx => hp x (List.mem_cons_of_mem _ hx)) (by simp at h; omega)

theorem signed_take (l : List UInt8) : ∀ i, signed l → i < l.length → ∀ x, x ∈ l.take i → 128 ≤ x.toNat := by
  induction l with
  | nil => intro i h; exact absurd h id
  | cons b l ih =>
    intro i hs hi x hx
    cases i with
    | zero => simp at hx
    | succ i =>
      cases l with
      | nil => simp at hi
      | cons c l =>
        simp only [signed] at hs
        rw [List.take_succ_cons, List.mem_cons] at hx
        rcases hx with h | h
        · rw [h]; exact hs.1
        · exact ih i hs.2 (by simpa using hi) x h

theorem rd_vb (n : Nat) (t : List UInt8) (h : n ≤ 4294967295) : rd (vb n ++ t) = (0, n, (vb n).length) := by
  have hv := vb_signed n
  have := rdF_vb 5 [] (vb n) t hv.1 (vb_len5 n h) (by simpa [hv.2] using h) (by simp [hv.2])
  simpa [hv.2, rd, val] using this
theorem rd_short (n i : Nat) (h : n ≤ 4294967295) (hi : i < (vb n).length) : rd ((vb n).take i) = (3, 0, 0) :=
  rdF_short _ 5 0 1 0 (signed_take _ i (vb_signed n).1 hi) (by have := vb_len5 n h; simp; omega)
theorem rd_ok (l : List UInt8) (n c : Nat) (h : rd l = (0, n, c)) : c ≤ l.length ∧ n ≤ 4294967295 ∧ vb n = l.take c := by
  obtain ⟨m, h1, h2, h3, h4⟩ := rdF_ok 5 [] l n c (by simp) (by simpa [val, rd] using h)
  simp at h1; subst h1
  exact ⟨h2, h3, by simpa using h4⟩


def RdRel (s : ByteArray) (w : World) (a' : Act) (w' : World) : Prop :=
  w' = w ∧ ∃ (k acc : Nat) (u7 u8 u9 u10 u11 u12 u13 u14 u15 u16 u17 u18 u19 u20 u21 u22 u23 u24 u25 u26 u27 u28 u29 u30 u31 u32 u33 u34 u35 u36 u37 : Value), a' = { tmps := #[.string s, undef, .int .i64 0, .string ⟨#[]⟩, .int .i64 0, .int .i64 acc, .int .i64 k, u7, u8, u9, u10, u11, u12, u13, u14, u15, u16, u17, u18, u19, u20, u21, u22, u23, u24, u25, u26, u27, u28, u29, u30, u31, u32, u33, u34, u35, u36, u37], defers := [] } ∧ (k ≤ 5 ∧ k ≤ s.size) ∧ acc < 128 ^ k ∧ rdF (5 - k) k (128 ^ k) acc (s.data.toList.drop k) = rd s.data.toList
def RdPost (s : ByteArray) (w : World) (e : Ending) (w' : World) : Prop :=
  (∃ n, w' = w.drewN n) ∧ e = .returned (.tuple #[.int .i64 (rd s.data.toList).2.1, .string (if (rd s.data.toList).1 = 0 then s.extract (rd s.data.toList).2.2 s.size else ⟨#[]⟩), .int .i64 (rd s.data.toList).1])

theorem drop_at (s : ByteArray) (k : Nat) (h : k < s.size) : s.data.toList.drop k = s[k] :: s.data.toList.drop (k + 1) := by
  rw [List.drop_eq_getElem_cons (by simpa using h)]; rfl
theorem drop_out (s : ByteArray) (k : Nat) (h : ¬ k < s.size) : s.data.toList.drop k = [] := List.drop_of_length_le (by simp; omega)

theorem rd_goto (f k p acc : Nat) (s : ByteArray) (h : k < s.size) (hb : 128 ≤ s[k].toNat) : rdF (f + 1) k p acc (s.data.toList.drop k) = rdF f (k + 1) (p * 128) (acc + s[k].toNat % 128 * p) (s.data.toList.drop (k + 1)) := by
  rw [drop_at s k h]; simp only [rdF, if_pos hb]
theorem rd_none (f k p acc : Nat) (s : ByteArray) (h : ¬ k < s.size) : rdF (f + 1) k p acc (s.data.toList.drop k) = (3, 0, 0) := by
  rw [drop_out s k h]; rfl
theorem rd_good (f k p acc : Nat) (s : ByteArray) (h : k < s.size) (hb : ¬ 128 ≤ s[k].toNat) (hq : acc + s[k].toNat % 128 * p ≤ 4294967295 ∧ (vb (acc + s[k].toNat % 128 * p)).length = k + 1) :
    rdF (f + 1) k p acc (s.data.toList.drop k) = (0, acc + s[k].toNat % 128 * p, k + 1) := by
  rw [drop_at s k h]; simp only [rdF, if_neg hb, if_pos hq]
theorem rd_bad (f k p acc : Nat) (s : ByteArray) (h : k < s.size) (hb : ¬ 128 ≤ s[k].toNat) (hq : ¬ (acc + s[k].toNat % 128 * p ≤ 4294967295 ∧ (vb (acc + s[k].toNat % 128 * p)).length = k + 1)) :
    rdF (f + 1) k p acc (s.data.toList.drop k) = (4, 0, 0) := by
  rw [drop_at s k h]; simp only [rdF, if_neg hb, if_neg hq]

theorem rdPost_mk (s : ByteArray) (w w' : World) (e n c : Nat) (v : ByteArray) (n' : Int) (hw : ∃ n, w' = w.drewN n) (h : rd s.data.toList = (e, n, c)) (hv : v = if e = 0 then s.extract c s.size else ⟨#[]⟩) (hn : n' = n) :
    RdPost s w (.returned (.tuple #[.int .i64 n', .string v, .int .i64 e])) w' := ⟨hw, by rw [h, hv, hn]⟩
theorem rdRel_mk (s : ByteArray) (w : World) (k acc : Nat) (n' k' : Int) (u7 u8 u9 u10 u11 u12 u13 u14 u15 u16 u17 u18 u19 u20 u21 u22 u23 u24 u25 u26 u27 u28 u29 u30 u31 u32 u33 u34 u35 u36 u37 : Value) (hn : n' = acc) (hk' : k' = k) (hk : k ≤ 5 ∧ k ≤ s.size) (ha : acc < 128 ^ k) (hr : rdF (5 - k) k (128 ^ k) acc (s.data.toList.drop k) = rd s.data.toList) :
    RdRel s w { tmps := #[.string s, undef, .int .i64 0, .string ⟨#[]⟩, .int .i64 0, .int .i64 n', .int .i64 k', u7, u8, u9, u10, u11, u12, u13, u14, u15, u16, u17, u18, u19, u20, u21, u22, u23, u24, u25, u26, u27, u28, u29, u30, u31, u32, u33, u34, u35, u36, u37], defers := [] } w :=
  ⟨rfl, k, acc, u7, u8, u9, u10, u11, u12, u13, u14, u15, u16, u17, u18, u19, u20, u21, u22, u23, u24, u25, u26, u27, u28, u29, u30, u31, u32, u33, u34, u35, u36, u37, by rw [hn, hk'], hk, ha, hr⟩
theorem rd_start (s : ByteArray) : rdF (4 + 1) 0 (128 ^ 0) 0 (s.data.toList.drop 0) = rd s.data.toList := rfl
theorem rdAct {a b : Int} {p q : Array Value} (h : a = b) : ({ tmps := p ++ #[.int .i64 a] ++ q, defers := [] } : Act) = { tmps := p ++ #[.int .i64 b] ++ q, defers := [] } := by rw [h]
theorem size_int (n : Int) (m c : Nat) (e : n = m) (h : m ≤ 4294967295) (hc : (vb m).length = c) (w : World) :
    Calls Try.prog 29 #[.int .i64 n] w fun e w' => e = .returned (.int .i64 c) ∧ w = w' := by
  subst e; rw [← hc]; exact size_in m h w

set_option maxHeartbeats 1600000 in
theorem read_any (s : ByteArray) (hs : s.size ≤ maxLen) (w : World) :
    Calls Try.prog 19 #[.string s] w (RdPost s w) := by
  unfold maxLen at hs
  have HR := Lib.hid (rd_start s)
  go_enter Try.func19, Try.ntmps19
  go_wp2
  refine wp_scope_jumps 0 (RdRel s w) (fun a' _ => 5 - (intOf (a'.tmps.getD 6 undef)).toNat) rfl ?_ ?_
  · by_cases h0 : 0 < s.size
    · have hb : s[0].toNat < 256 := s[0].toNat_lt
      have h0' : ((0 : Int) == (s.size : Int)) = false := by rw [beq_eq_false_iff_ne]; omega
      by_cases h1 : 128 ≤ s[0].toNat
      · go_wp2
        go_step3
        go_wp2
        go_step3
        simp only [Exit.then, Exit.jump]
        exact ⟨trivial, rdRel_mk s w 1 (0 + s[0].toNat % 128 * 128 ^ 0) _ _ _ _ _ _ _ _ _ _ _ _ _ _ _ _ _ _ _ _ _ _ _ _ _ _ _ _ _ _ _ _ _ (by simp; try omega) (by simp) (by omega) (by omega) ((rd_goto 4 0 (128 ^ 0) 0 s h0 h1).symm.trans HR.out)⟩
      · by_cases hq : (0 + s[0].toNat % 128 * 128 ^ 0) ≤ 4294967295 ∧ (vb (0 + s[0].toNat % 128 * 128 ^ 0)).length = 1
        · have HZ := Lib.hid (show rd s.data.toList = (0, (0 + s[0].toNat % 128 * 128 ^ 0), 1) from HR.out.symm.trans (rd_good 4 0 (128 ^ 0) 0 s h0 h1 hq))
          have HQ := Lib.hid hq; clear hq
          have h2 : (1 : Int) ≤ (s.size : Int) := by omega
          go_wp2
          go_step3
          go_wp2_with fail
          refine (size_int _ (0 + s[0].toNat % 128 * 128 ^ 0) 1 (by first | omega | (simp; omega)) HQ.out.1 HQ.out.2 _).mono ?_; rintro e w' ⟨rfl, rfl⟩
          go_wp2_with fail
          go_quiet (fail)
          go_wp2
          simp only [Exit.jump]
          go_ret3
          refine rdPost_mk s w _ 0 (0 + s[0].toNat % 128 * 128 ^ 0) 1 _ _ ⟨nq, rfl⟩ HZ.out rfl (by simp; try omega)
        · have HZ := Lib.hid (show rd s.data.toList = (4, 0, 0) from HR.out.symm.trans (rd_bad 4 0 (128 ^ 0) 0 s h0 h1 hq))
          by_cases hm : (0 + s[0].toNat % 128 * 128 ^ 0) ≤ 4294967295
          · obtain ⟨c, hc⟩ : ∃ c, (vb (0 + s[0].toNat % 128 * 128 ^ 0)).length = c := ⟨_, rfl⟩
            have hcb : ((c : Int) == 1) = false := by rw [beq_eq_false_iff_ne]; intro h; exact hq ⟨hm, by omega⟩
            have HC := Lib.hid hc; clear hc hq
            go_wp2
            go_step3
            go_wp2_with fail
            refine (size_int _ (0 + s[0].toNat % 128 * 128 ^ 0) c (by first | omega | (simp; omega)) hm HC.out _).mono ?_; rintro e w' ⟨rfl, rfl⟩
            go_wp2
            simp only [Exit.jump]
            go_ret3
            exact rdPost_mk s w w 4 0 0 _ _ ⟨0, rfl⟩ HZ.out rfl rfl
          · exact absurd (show (0 + s[0].toNat % 128 * 128 ^ 0) ≤ 4294967295 by omega) hm
    · have HZ := Lib.hid (show rd s.data.toList = (3, 0, 0) from HR.out.symm.trans (rd_none 4 0 (128 ^ 0) 0 s h0))
      have h0' : ((0 : Int) == (s.size : Int)) = true := by rw [beq_iff_eq]; omega
      go_wp2
      go_step3
      go_wp2
      simp only [Exit.jump]
      go_ret3
      exact rdPost_mk s w w 3 0 0 _ _ ⟨0, rfl⟩ HZ.out rfl rfl
  · clear HR
    rintro a' w' ⟨rfl, k, acc, u7, u8, u9, u10, u11, u12, u13, u14, u15, u16, u17, u18, u19, u20, u21, u22, u23, u24, u25, u26, u27, u28, u29, u30, u31, u32, u33, u34, u35, u36, u37, rfl, ⟨hk, hks⟩, ha, hr⟩
    have HR := Lib.hid hr; clear hr
    rcases (show k = 0 ∨ k = 1 ∨ k = 2 ∨ k = 3 ∨ k = 4 ∨ k = 5 by omega) with rfl | rfl | rfl | rfl | rfl | rfl
    · by_cases h0 : 0 < s.size
      · have hb : s[0].toNat < 256 := s[0].toNat_lt
        have h0' : ((0 : Int) == (s.size : Int)) = false := by rw [beq_eq_false_iff_ne]; omega
        by_cases h1 : 128 ≤ s[0].toNat
        · go_wp2
          go_step3
          simp only [Exit.then, Exit.jump]
          exact ⟨rfl, rdRel_mk s w' 1 (acc + s[0].toNat % 128 * 128 ^ 0) _ _ _ _ _ _ _ _ _ _ _ _ _ _ _ _ _ _ _ _ _ _ _ _ _ _ _ _ _ _ _ _ _ (by simp; try omega) (by simp) (by omega) (by omega) ((rd_goto 4 0 (128 ^ 0) acc s h0 h1).symm.trans HR.out), by simp [intOf]⟩
        · by_cases hq : (acc + s[0].toNat % 128 * 128 ^ 0) ≤ 4294967295 ∧ (vb (acc + s[0].toNat % 128 * 128 ^ 0)).length = 1
          · have HZ := Lib.hid (show rd s.data.toList = (0, (acc + s[0].toNat % 128 * 128 ^ 0), 1) from HR.out.symm.trans (rd_good 4 0 (128 ^ 0) acc s h0 h1 hq))
            have HQ := Lib.hid hq; clear hq
            have h2 : (1 : Int) ≤ (s.size : Int) := by omega
            go_wp2_with fail
            refine (size_int _ (acc + s[0].toNat % 128 * 128 ^ 0) 1 (by first | omega | (simp; omega)) HQ.out.1 HQ.out.2 _).mono ?_; rintro e w' ⟨rfl, rfl⟩
            go_wp2_with fail
            go_quiet (fail)
            go_wp2
            simp only [Exit.jump]
            go_ret3
            refine rdPost_mk s w' _ 0 (acc + s[0].toNat % 128 * 128 ^ 0) 1 _ _ ⟨nq, rfl⟩ HZ.out rfl (by simp; try omega)
          · have HZ := Lib.hid (show rd s.data.toList = (4, 0, 0) from HR.out.symm.trans (rd_bad 4 0 (128 ^ 0) acc s h0 h1 hq))
            by_cases hm : (acc + s[0].toNat % 128 * 128 ^ 0) ≤ 4294967295
            · obtain ⟨c, hc⟩ : ∃ c, (vb (acc + s[0].toNat % 128 * 128 ^ 0)).length = c := ⟨_, rfl⟩
              have hcb : ((c : Int) == 1) = false := by rw [beq_eq_false_iff_ne]; intro h; exact hq ⟨hm, by omega⟩
              have HC := Lib.hid hc; clear hc hq
              go_wp2_with fail
              refine (size_int _ (acc + s[0].toNat % 128 * 128 ^ 0) c (by first | omega | (simp; omega)) hm HC.out _).mono ?_; rintro e w' ⟨rfl, rfl⟩
              go_wp2
              simp only [Exit.jump]
              go_ret3
              exact rdPost_mk s w' w' 4 0 0 _ _ ⟨0, rfl⟩ HZ.out rfl rfl
            · exact absurd (show (acc + s[0].toNat % 128 * 128 ^ 0) ≤ 4294967295 by omega) hm
      · have HZ := Lib.hid (show rd s.data.toList = (3, 0, 0) from HR.out.symm.trans (rd_none 4 0 (128 ^ 0) acc s h0))
        have h0' : ((0 : Int) == (s.size : Int)) = true := by rw [beq_iff_eq]; omega
        go_wp2
        simp only [Exit.jump]
        go_ret3
        exact rdPost_mk s w' w' 3 0 0 _ _ ⟨0, rfl⟩ HZ.out rfl rfl
    · by_cases h0 : 1 < s.size
      · have hb : s[1].toNat < 256 := s[1].toNat_lt
        have h0' : ((1 : Int) == (s.size : Int)) = false := by rw [beq_eq_false_iff_ne]; omega
        by_cases h1 : 128 ≤ s[1].toNat
        · go_wp2
          go_step3
          simp only [Exit.then, Exit.jump]
          exact ⟨rfl, rdRel_mk s w' 2 (acc + s[1].toNat % 128 * 128 ^ 1) _ _ _ _ _ _ _ _ _ _ _ _ _ _ _ _ _ _ _ _ _ _ _ _ _ _ _ _ _ _ _ _ _ (by simp; try omega) (by simp) (by omega) (by omega) ((rd_goto 3 1 (128 ^ 1) acc s h0 h1).symm.trans HR.out), by simp [intOf]⟩
        · by_cases hq : (acc + s[1].toNat % 128 * 128 ^ 1) ≤ 4294967295 ∧ (vb (acc + s[1].toNat % 128 * 128 ^ 1)).length = 2
          · have HZ := Lib.hid (show rd s.data.toList = (0, (acc + s[1].toNat % 128 * 128 ^ 1), 2) from HR.out.symm.trans (rd_good 3 1 (128 ^ 1) acc s h0 h1 hq))
            have HQ := Lib.hid hq; clear hq
            have h2 : (2 : Int) ≤ (s.size : Int) := by omega
            go_wp2_with fail
            refine (size_int _ (acc + s[1].toNat % 128 * 128 ^ 1) 2 (by first | omega | (simp; omega)) HQ.out.1 HQ.out.2 _).mono ?_; rintro e w' ⟨rfl, rfl⟩
            go_wp2_with fail
            go_quiet (fail)
            go_wp2
            simp only [Exit.jump]
            go_ret3
            refine rdPost_mk s w' _ 0 (acc + s[1].toNat % 128 * 128 ^ 1) 2 _ _ ⟨nq, rfl⟩ HZ.out rfl (by simp; try omega)
          · have HZ := Lib.hid (show rd s.data.toList = (4, 0, 0) from HR.out.symm.trans (rd_bad 3 1 (128 ^ 1) acc s h0 h1 hq))
            by_cases hm : (acc + s[1].toNat % 128 * 128 ^ 1) ≤ 4294967295
            · obtain ⟨c, hc⟩ : ∃ c, (vb (acc + s[1].toNat % 128 * 128 ^ 1)).length = c := ⟨_, rfl⟩
              have hcb : ((c : Int) == 2) = false := by rw [beq_eq_false_iff_ne]; intro h; exact hq ⟨hm, by omega⟩
              have HC := Lib.hid hc; clear hc hq
              go_wp2_with fail
              refine (size_int _ (acc + s[1].toNat % 128 * 128 ^ 1) c (by first | omega | (simp; omega)) hm HC.out _).mono ?_; rintro e w' ⟨rfl, rfl⟩
              go_wp2
              simp only [Exit.jump]
              go_ret3
              exact rdPost_mk s w' w' 4 0 0 _ _ ⟨0, rfl⟩ HZ.out rfl rfl
            · exact absurd (show (acc + s[1].toNat % 128 * 128 ^ 1) ≤ 4294967295 by omega) hm
      · have HZ := Lib.hid (show rd s.data.toList = (3, 0, 0) from HR.out.symm.trans (rd_none 3 1 (128 ^ 1) acc s h0))
        have h0' : ((1 : Int) == (s.size : Int)) = true := by rw [beq_iff_eq]; omega
        go_wp2
        simp only [Exit.jump]
        go_ret3
        exact rdPost_mk s w' w' 3 0 0 _ _ ⟨0, rfl⟩ HZ.out rfl rfl
    · by_cases h0 : 2 < s.size
      · have hb : s[2].toNat < 256 := s[2].toNat_lt
        have h0' : ((2 : Int) == (s.size : Int)) = false := by rw [beq_eq_false_iff_ne]; omega
        by_cases h1 : 128 ≤ s[2].toNat
        · go_wp2
          go_step3
          simp only [Exit.then, Exit.jump]
          exact ⟨rfl, rdRel_mk s w' 3 (acc + s[2].toNat % 128 * 128 ^ 2) _ _ _ _ _ _ _ _ _ _ _ _ _ _ _ _ _ _ _ _ _ _ _ _ _ _ _ _ _ _ _ _ _ (by simp; try omega) (by simp) (by omega) (by omega) ((rd_goto 2 2 (128 ^ 2) acc s h0 h1).symm.trans HR.out), by simp [intOf]⟩
        · by_cases hq : (acc + s[2].toNat % 128 * 128 ^ 2) ≤ 4294967295 ∧ (vb (acc + s[2].toNat % 128 * 128 ^ 2)).length = 3
          · have HZ := Lib.hid (show rd s.data.toList = (0, (acc + s[2].toNat % 128 * 128 ^ 2), 3) from HR.out.symm.trans (rd_good 2 2 (128 ^ 2) acc s h0 h1 hq))
            have HQ := Lib.hid hq; clear hq
            have h2 : (3 : Int) ≤ (s.size : Int) := by omega
            go_wp2_with fail
            refine (size_int _ (acc + s[2].toNat % 128 * 128 ^ 2) 3 (by first | omega | (simp; omega)) HQ.out.1 HQ.out.2 _).mono ?_; rintro e w' ⟨rfl, rfl⟩
            go_wp2_with fail
            go_quiet (fail)
            go_wp2
            simp only [Exit.jump]
            go_ret3
            refine rdPost_mk s w' _ 0 (acc + s[2].toNat % 128 * 128 ^ 2) 3 _ _ ⟨nq, rfl⟩ HZ.out rfl (by simp; try omega)
          · have HZ := Lib.hid (show rd s.data.toList = (4, 0, 0) from HR.out.symm.trans (rd_bad 2 2 (128 ^ 2) acc s h0 h1 hq))
            by_cases hm : (acc + s[2].toNat % 128 * 128 ^ 2) ≤ 4294967295
            · obtain ⟨c, hc⟩ : ∃ c, (vb (acc + s[2].toNat % 128 * 128 ^ 2)).length = c := ⟨_, rfl⟩
              have hcb : ((c : Int) == 3) = false := by rw [beq_eq_false_iff_ne]; intro h; exact hq ⟨hm, by omega⟩
              have HC := Lib.hid hc; clear hc hq
              go_wp2_with fail
              refine (size_int _ (acc + s[2].toNat % 128 * 128 ^ 2) c (by first | omega | (simp; omega)) hm HC.out _).mono ?_; rintro e w' ⟨rfl, rfl⟩
              go_wp2
              simp only [Exit.jump]
              go_ret3
              exact rdPost_mk s w' w' 4 0 0 _ _ ⟨0, rfl⟩ HZ.out rfl rfl
            · exact absurd (show (acc + s[2].toNat % 128 * 128 ^ 2) ≤ 4294967295 by omega) hm
      · have HZ := Lib.hid (show rd s.data.toList = (3, 0, 0) from HR.out.symm.trans (rd_none 2 2 (128 ^ 2) acc s h0))
        have h0' : ((2 : Int) == (s.size : Int)) = true := by rw [beq_iff_eq]; omega
        go_wp2
        simp only [Exit.jump]
        go_ret3
        exact rdPost_mk s w' w' 3 0 0 _ _ ⟨0, rfl⟩ HZ.out rfl rfl
    · by_cases h0 : 3 < s.size
      · have hb : s[3].toNat < 256 := s[3].toNat_lt
        have h0' : ((3 : Int) == (s.size : Int)) = false := by rw [beq_eq_false_iff_ne]; omega
        by_cases h1 : 128 ≤ s[3].toNat
        · go_wp2
          go_step3
          simp only [Exit.then, Exit.jump]
          exact ⟨rfl, rdRel_mk s w' 4 (acc + s[3].toNat % 128 * 128 ^ 3) _ _ _ _ _ _ _ _ _ _ _ _ _ _ _ _ _ _ _ _ _ _ _ _ _ _ _ _ _ _ _ _ _ (by simp; try omega) (by simp) (by omega) (by omega) ((rd_goto 1 3 (128 ^ 3) acc s h0 h1).symm.trans HR.out), by simp [intOf]⟩
        · by_cases hq : (acc + s[3].toNat % 128 * 128 ^ 3) ≤ 4294967295 ∧ (vb (acc + s[3].toNat % 128 * 128 ^ 3)).length = 4
          · have HZ := Lib.hid (show rd s.data.toList = (0, (acc + s[3].toNat % 128 * 128 ^ 3), 4) from HR.out.symm.trans (rd_good 1 3 (128 ^ 3) acc s h0 h1 hq))
            have HQ := Lib.hid hq; clear hq
            have h2 : (4 : Int) ≤ (s.size : Int) := by omega
            go_wp2_with fail
            refine (size_int _ (acc + s[3].toNat % 128 * 128 ^ 3) 4 (by first | omega | (simp; omega)) HQ.out.1 HQ.out.2 _).mono ?_; rintro e w' ⟨rfl, rfl⟩
            go_wp2_with fail
            go_quiet (fail)
            go_wp2
            simp only [Exit.jump]
            go_ret3
            refine rdPost_mk s w' _ 0 (acc + s[3].toNat % 128 * 128 ^ 3) 4 _ _ ⟨nq, rfl⟩ HZ.out rfl (by simp; try omega)
          · have HZ := Lib.hid (show rd s.data.toList = (4, 0, 0) from HR.out.symm.trans (rd_bad 1 3 (128 ^ 3) acc s h0 h1 hq))
            by_cases hm : (acc + s[3].toNat % 128 * 128 ^ 3) ≤ 4294967295
            · obtain ⟨c, hc⟩ : ∃ c, (vb (acc + s[3].toNat % 128 * 128 ^ 3)).length = c := ⟨_, rfl⟩
              have hcb : ((c : Int) == 4) = false := by rw [beq_eq_false_iff_ne]; intro h; exact hq ⟨hm, by omega⟩
              have HC := Lib.hid hc; clear hc hq
              go_wp2_with fail
              refine (size_int _ (acc + s[3].toNat % 128 * 128 ^ 3) c (by first | omega | (simp; omega)) hm HC.out _).mono ?_; rintro e w' ⟨rfl, rfl⟩
              go_wp2
              simp only [Exit.jump]
              go_ret3
              exact rdPost_mk s w' w' 4 0 0 _ _ ⟨0, rfl⟩ HZ.out rfl rfl
            · exact absurd (show (acc + s[3].toNat % 128 * 128 ^ 3) ≤ 4294967295 by omega) hm
      · have HZ := Lib.hid (show rd s.data.toList = (3, 0, 0) from HR.out.symm.trans (rd_none 1 3 (128 ^ 3) acc s h0))
        have h0' : ((3 : Int) == (s.size : Int)) = true := by rw [beq_iff_eq]; omega
        go_wp2
        simp only [Exit.jump]
        go_ret3
        exact rdPost_mk s w' w' 3 0 0 _ _ ⟨0, rfl⟩ HZ.out rfl rfl
    · by_cases h0 : 4 < s.size
      · have hb : s[4].toNat < 256 := s[4].toNat_lt
        have h0' : ((4 : Int) == (s.size : Int)) = false := by rw [beq_eq_false_iff_ne]; omega
        by_cases h1 : 128 ≤ s[4].toNat
        · go_wp2
          go_step3
          simp only [Exit.then, Exit.jump]
          exact ⟨rfl, rdRel_mk s w' 5 (acc + s[4].toNat % 128 * 128 ^ 4) _ _ _ _ _ _ _ _ _ _ _ _ _ _ _ _ _ _ _ _ _ _ _ _ _ _ _ _ _ _ _ _ _ (by simp; try omega) (by simp) (by omega) (by omega) ((rd_goto 0 4 (128 ^ 4) acc s h0 h1).symm.trans HR.out), by simp [intOf]⟩
        · by_cases hq : (acc + s[4].toNat % 128 * 128 ^ 4) ≤ 4294967295 ∧ (vb (acc + s[4].toNat % 128 * 128 ^ 4)).length = 5
          · have HZ := Lib.hid (show rd s.data.toList = (0, (acc + s[4].toNat % 128 * 128 ^ 4), 5) from HR.out.symm.trans (rd_good 0 4 (128 ^ 4) acc s h0 h1 hq))
            have HQ := Lib.hid hq; clear hq
            have h2 : (5 : Int) ≤ (s.size : Int) := by omega
            go_wp2_with fail
            refine (size_int _ (acc + s[4].toNat % 128 * 128 ^ 4) 5 (by first | omega | (simp; omega)) HQ.out.1 HQ.out.2 _).mono ?_; rintro e w' ⟨rfl, rfl⟩
            go_wp2_with fail
            go_quiet (fail)
            go_wp2
            simp only [Exit.jump]
            go_ret3
            refine rdPost_mk s w' _ 0 (acc + s[4].toNat % 128 * 128 ^ 4) 5 _ _ ⟨nq, rfl⟩ HZ.out rfl (by simp; try omega)
          · have HZ := Lib.hid (show rd s.data.toList = (4, 0, 0) from HR.out.symm.trans (rd_bad 0 4 (128 ^ 4) acc s h0 h1 hq))
            by_cases hm : (acc + s[4].toNat % 128 * 128 ^ 4) ≤ 4294967295
            · obtain ⟨c, hc⟩ : ∃ c, (vb (acc + s[4].toNat % 128 * 128 ^ 4)).length = c := ⟨_, rfl⟩
              have hcb : ((c : Int) == 5) = false := by rw [beq_eq_false_iff_ne]; intro h; exact hq ⟨hm, by omega⟩
              have HC := Lib.hid hc; clear hc hq
              go_wp2_with fail
              refine (size_int _ (acc + s[4].toNat % 128 * 128 ^ 4) c (by first | omega | (simp; omega)) hm HC.out _).mono ?_; rintro e w' ⟨rfl, rfl⟩
              go_wp2
              simp only [Exit.jump]
              go_ret3
              exact rdPost_mk s w' w' 4 0 0 _ _ ⟨0, rfl⟩ HZ.out rfl rfl
            · clear hq
              go_wp2_with fail
              refine (size_out _ (by omega) _).mono ?_; rintro e w' ⟨rfl, rfl⟩
              go_wp2
              simp only [Exit.jump]
              go_ret3
              exact rdPost_mk s w' w' 4 0 0 _ _ ⟨0, rfl⟩ HZ.out rfl rfl
      · have HZ := Lib.hid (show rd s.data.toList = (3, 0, 0) from HR.out.symm.trans (rd_none 0 4 (128 ^ 4) acc s h0))
        have h0' : ((4 : Int) == (s.size : Int)) = true := by rw [beq_iff_eq]; omega
        go_wp2
        simp only [Exit.jump]
        go_ret3
        exact rdPost_mk s w' w' 3 0 0 _ _ ⟨0, rfl⟩ HZ.out rfl rfl
    · have HZ := Lib.hid (show rd s.data.toList = (4, 0, 0) from HR.out.symm)
      go_wp2
      simp only [Exit.jump]
      go_ret3
      exact rdPost_mk s w' w' 4 0 0 _ _ ⟨0, rfl⟩ HZ.out rfl rfl


end Go.Proofs.Ytedmnlfbmmlcbaa.Vi

/- Words on rows of numbers of any kind that came in. -/
namespace Go.Proofs.Ytedmnlfbmmlcbaa
open Go.ChangeShapes Go.WideShapes Go.ChangeAt Go.RowKit
set_option linter.unusedVariables false
set_option maxRecDepth 100000
def IsK (k : IntKind) (M : Int) (w : World) (a : Option Addr) (zs : List Int) : Prop := (∀ z ∈ zs, 0 ≤ z ∧ z ≤ M) ∧ (zs = [] ∨ ∃ x, a = some x ∧ ∀ i, i < zs.length → w.cell? (x.add i) = some (.int k (zs.getD i 0)))
theorem IsK.at {k : IntKind} {M : Int} {w : World} {a : Option Addr} {l : List Int} (h : IsK k M w a l) (j : Nat) (hj : j < l.length) : ∃ x : Addr, a = some x ∧ x.block < w.heap.size ∧ w.cell? (x.add j) = some (.int k (l.getD j 0)) ∧ 0 ≤ l.getD j 0 ∧ l.getD j 0 ≤ M := by
  rcases h.2 with rfl | ⟨x, rfl, hc⟩
  · simp at hj
  · have := cell_block (hc 0 (by omega))
    exact ⟨x, rfl, by simpa [Addr.add] using this, hc j hj, h.1 _ (by simp [List.getD_eq_getElem?_getD, hj])⟩
theorem IsK.kept {k : IntKind} {M : Int} {w w' : World} {a : Option Addr} {l : List Int} (h : IsK k M w a l) (hb : Below w.heap.size w w') : IsK k M w' a l := by
  refine ⟨h.1, ?_⟩
  rcases h.2 with rfl | ⟨x, rfl, hc⟩
  · exact .inl rfl
  · exact .inr ⟨x, rfl, fun i hi => by rw [hb.cell (cell_block (hc i hi))]; exact hc i hi⟩
theorem map_take1 (f : Int → Int) (l : List Int) (k : Nat) (h : k < l.length) : (l.take k).map f ++ [f (l.getD k 0)] = (l.take (k + 1)).map f := by
  rw [take_getD l k h]; simp
end Go.Proofs.Ytedmnlfbmmlcbaa
