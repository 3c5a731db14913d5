/- Layer 1, the document's: Put, Align, Bytes. -/
import Derived.Test.YtbdhfmoididkgaaK4
import Derived.Test.YtbdhfmoididkgaaBn
import Derived.Test.YtbdhfmoididkgaaBv
namespace Go.Proofs.Ytbdhfmoididkgaa
open Go.ChangeShapes Go.WideShapes Go.ChangeAt Go.RowKit
set_option linter.unusedVariables false
set_option maxRecDepth 100000
open Bits
def bitAt (x i : Nat) : Bool := x / 2 ^ i % 2 == 1
theorem bitsOf_snoc (x i : Nat) : bitsOf x i ++ [bitAt x i] = bitsOf x (i + 1) := by rw [bitsOf_add]; simp [bitsOf, bitAt]
theorem bit_and (x i : Nat) (hx : x < 2 ^ 64) : bits .and .u64 ((x : Int) / 2 ^ i) 1 = ((x / 2 ^ i % 2 : Nat) : Int) := by
  have e3 : (x : Int) / 2 ^ i = ((x / 2 ^ i : Nat) : Int) := by simp
  have := and_u64 (x / 2 ^ i) 1 (Nat.lt_of_le_of_lt (Nat.div_le_self _ _) hx) (by decide)
  rw [Nat.and_one_is_mod] at this
  rw [e3]; exact this
theorem dBit (x i : Nat) (hx : x < 2 ^ 64) (hi : i ≤ 60) (w : World) : Calls Try.prog 37 #[.int .u64 x, .int .i64 i] w fun e w' => e = .returned (.bool (bitAt x i)) ∧ w' = w := by
  have HB := Lib.hid (bit_and x i hx)
  obtain ⟨V, hV⟩ : ∃ V, x / 2 ^ i % 2 = V := ⟨_, rfl⟩
  have hb : bitAt x i = (V == 1) := by unfold bitAt; rw [hV]
  rw [hb]
  have hV2 : V = 0 ∨ V = 1 := by omega
  have hb2 := HB.out
  rw [hV] at hb2
  clear HB hV hb hx
  rcases hV2 with rfl | rfl
  · have hb3 : bits .and .u64 ((x : Int) / 2 ^ i) 1 = 0 := hb2
    clear hb2
    go_enter Try.func37, Try.ntmps37
    go_wp2
    go_ret
    exact ⟨rfl, rfl⟩
  · have hb3 : bits .and .u64 ((x : Int) / 2 ^ i) 1 = 1 := hb2
    clear hb2
    go_enter Try.func37, Try.ntmps37
    go_wp2
    go_ret
    exact ⟨rfl, rfl⟩

theorem info_u8 : (Try.prog.info? 5).map (fun i => (i.zero, i.size, i.bytes)) = some (some (.int .u8 0), 1, 1) := by kernel_rfl
theorem u8_new1 (w : World) (x : Int) (t g : Nat) (hg : g = w.heap.size) : ∀ j u, [Value.int .u8 x][j]? = some u → (w.alloc (.cells #[.int .u8 x] t)).cell? ((⟨g, 0, none⟩ : Addr).add j) = some u := cell_new1 w _ t g hg
theorem u8_one (x : Int) : ∀ u ∈ [Value.int .u8 x], u.oneCell' = true := by intro u hu; simp at hu; subst hu; rfl
end Go.Proofs.Ytbdhfmoididkgaa
