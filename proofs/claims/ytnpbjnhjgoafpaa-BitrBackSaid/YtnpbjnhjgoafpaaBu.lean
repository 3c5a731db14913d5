/- Layers 1 and 2: the document's Put and Bytes, on rows of bools. -/
import Derived.Test.YtnpbjnhjgoafpaaBt
import Derived.Lib.UnsafeStr
namespace Go.Proofs.Ytnpbjnhjgoafpaa
open Go.ChangeShapes Go.WideShapes Go.ChangeAt Go.RowKit
set_option linter.unusedVariables false
set_option maxRecDepth 100000
open Bits

def bitAt (x i : Nat) : Bool := x / 2 ^ i % 2 == 1
theorem bitsOf_snoc (x i : Nat) : bitsOf x i ++ [bitAt x i] = bitsOf x (i + 1) := by rw [bitsOf_add]; simp [bitsOf, bitAt]
theorem bit_and (x i : Nat) (hx : x < 2 ^ 64) : bits .and .u64 ((x : Int) / 2 ^ i) 1 = ((x / 2 ^ i % 2 : Nat) : Int) := by
  have e3 : (x : Int) / 2 ^ i = ((x / 2 ^ i : Nat) : Int) := by simp
  have := and_u64 (x / 2 ^ i) 1 (Nat.lt_of_le_of_lt (Nat.div_le_self _ _) hx) (by decide)
  rw [Nat.and_one_is_mod] at this
  rw [e3]; exact this
theorem rBit (x i : Nat) (hx : x < 2 ^ 64) (hi : i ≤ 60) (w : World) : Calls Try.prog 47 #[.int .u64 x, .int .i64 i] w fun e w' => e = .returned (.bool (bitAt x i)) ∧ w' = w := by
  have HB := Lib.hid (bit_and x i hx)
  obtain ⟨V, hV⟩ : ∃ V, x / 2 ^ i % 2 = V := ⟨_, rfl⟩
  have hb : bitAt x i = (V == 1) := by unfold bitAt; rw [hV]
  rw [hb]
  have hV2 : V = 0 ∨ V = 1 := by omega
  have hb2 := HB.out
  rw [hV] at hb2
  clear HB hV hb hx
  rcases hV2 with rfl | rfl
  · have hb3 : bits .and .u64 ((x : Int) / 2 ^ i) 1 = 0 := hb2
    clear hb2
    go_enter Try.func47, Try.ntmps47
    go_wp2
    go_ret
    exact ⟨rfl, rfl⟩
  · have hb3 : bits .and .u64 ((x : Int) / 2 ^ i) 1 = 1 := hb2
    clear hb2
    go_enter Try.func47, Try.ntmps47
    go_wp2
    go_ret
    exact ⟨rfl, rfl⟩
def boolCells (l : List Bool) : List Value := l.map (Value.bool ·)
theorem boolCells_snoc (l : List Bool) (b : Bool) : boolCells l ++ [.bool b] = boolCells (l ++ [b]) := by unfold boolCells; rw [List.map_append]; rfl
theorem boolCells_len (l : List Bool) : (boolCells l).length = l.length := by simp [boolCells]
theorem infoBool : (Try.prog.info? 4).map (fun i => (i.zero, i.size, i.bytes)) = some (some (.bool false), 1, 1) := by kernel_rfl
theorem infoB5 : (Try.prog.info? 5).map (fun i => (i.zero, i.size, i.bytes)) = some (some (.int .u8 0), 1, 1) := by kernel_rfl
theorem info_get {P : Program} {T : TypeId} {z : Value} {s b : Nat} (h : (P.info? T).map (fun i => (i.zero, i.size, i.bytes)) = some (some z, s, b)) : ∃ i, P.info? T = some i ∧ i.zero = some z ∧ i.size = s ∧ i.bytes = b := by
  rcases hq : P.info? T with _ | i
  · rw [hq] at h; simp at h
  · rw [hq] at h; simp at h; exact ⟨i, rfl, h.1, h.2.1, h.2.2⟩
theorem bool_one (b : Bool) : ∀ u ∈ [Value.bool b], u.oneCell' = true := by intro u hu; simp at hu; subst hu; rfl
theorem own_lenB {w : World} {base n : Nat} {e : TypeId} {v : Value} {l : List Bool} (h : w.ownsRow base e 1 v n (boolCells l)) : n = l.length := by have := h.1; rw [boolCells_len] at this; omega
theorem u8_new1 (w : World) (x : Int) (t g : Nat) (hg : g = w.heap.size) : ∀ j u, [Value.int .u8 x][j]? = some u → (w.alloc (.cells #[.int .u8 x] t)).cell? ((⟨g, 0, none⟩ : Addr).add j) = some u := cell_new1 w _ t g hg
theorem u8_one (x : Int) : ∀ u ∈ [Value.int .u8 x], u.oneCell' = true := by intro u hu; simp at hu; subst hu; rfl
set_option maxHeartbeats 1600000 in
theorem rPut (base : Nat) (v : Value) (n0 x n : Nat) (bs : List Bool) (w : World) (hown : w.ownsRow base 4 1 v n0 (boolCells bs)) (hb0 : base ≤ w.heap.size) (hl : bs.length ≤ 1000000) (hn : n ≤ 56) (hx : x < 2 ^ n) :
    Calls Try.prog 19 #[v, .int .u64 x, .int .i64 n] w fun e w' => ∃ v', e = .returned (.tuple #[v', .int .i64 0]) ∧ w'.ownsRow base 4 1 v' (bs ++ bitsOf x n).length (boolCells (bs ++ bitsOf x n)) ∧ Below base w w' := by
  obtain ⟨i0, hi, hz0, hz1, hz2⟩ := info_get infoBool
  have h0 := own_lenB hown
  subst h0
  have hx64 : x < 2 ^ 64 := Nat.lt_of_lt_of_le hx (Nat.pow_le_pow_right (by decide) (by omega))
  have hz : (x : Int) / 2 ^ n = 0 := by
    have : (x : Int) / 2 ^ n = ((x / 2 ^ n : Nat) : Int) := by simp
    rw [this, Nat.div_eq_of_lt hx]; rfl
  have C := Lib.hid (fun i (hi : i ≤ 60) w => rBit x i hx64 hi w)
  clear hx hx64
  go_enter Try.func19, Try.ntmps19
  go_wp2
  clear hz
  go_loopw [0, 8] (fun u i wr => ∃ k : Nat, k ≤ n ∧ i = .int .i64 k ∧ wr.ownsRow base 4 1 u (bs ++ bitsOf x k).length (boolCells (bs ++ bitsOf x k)) ∧ Below base w wr) (fun _ i _ => n - (intOf i).toNat)
  case atStart => exact ⟨0, Nat.zero_le _, rfl, by simpa [bitsOf] using hown, Below.refl _ _⟩
  case round =>
    clear hown
    obtain ⟨k, hk, rfl, hown, hb⟩ := hrel
    have hbs := hb.size
    have hlen : (bs ++ bitsOf x k).length ≤ 2000000 := by rw [List.length_append, bitsOf_length]; omega
    by_cases hlt : k < n
    · have HS := Lib.hid (show bs ++ bitsOf x k ++ [bitAt x k] = bs ++ bitsOf x (k + 1) by rw [List.append_assoc, bitsOf_snoc])
      have CC := Lib.hid (fun w => C.out k (by omega) w)
      obtain ⟨BT, hBT⟩ : ∃ BT, bitAt x k = BT := ⟨_, rfl⟩
      rw [hBT] at HS CC
      clear hBT
      go_wp2_with fail
      refine (CC.out _).mono ?_; rintro e w1 ⟨rfl, rfl⟩
      go_wp2_with (at_builtin; refine wpList_append_own _ rfl _ _ 26 rfl base 4 i0 (.bool false) 1 1 Try.underlying26 hi hz0 hz1 hz2 rfl (by decide) _ _ _ rfl (hown.alloc _) ⟨w1.heap.size, 0, none⟩ 1 1 [Value.bool BT] rfl rfl ?d1 ?d2 ?d3 ?d4 ?d5 ?_)
      case d1 => exact cell_new1 _ _ _ _ rfl
      case d2 => exact bool_one _
      case d3 => unfold maxLen; omega
      case d4 => omega
      case d5 => simp; omega
      intro v1 w2 hown1 hgrow1 _
      have hb1 : Below base w w2 := (hb.alloc (by omega) _).grown hgrow1 (by simp; omega) (fun k hk => (hown.lt k hk).1)
      clear hgrow1 hown hb
      rw [boolCells_snoc, HS.out] at hown1
      have HO := Lib.hid hown1
      clear hown1
      go_wp2
      go_roundw
      case rel => exact ⟨k + 1, by omega, by go_num, by have e := own_lenB HO.out; rw [← e]; exact HO.out, hb1⟩
      case measure => simp [intOf]; omega
    · obtain rfl : k = n := by omega
      have HO := Lib.hid hown
      clear hown
      go_wp2
      go_ret2
      exact ⟨_, rfl, by first | exact HO.out | (have e := HO.out; rw [List.length_append] at e; exact e), hb⟩
end Go.Proofs.Ytnpbjnhjgoafpaa
