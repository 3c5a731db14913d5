/- Layer 21: sorting of matches by the library's contract. -/
import Derived.Shelf.SlSortCmp.WholeK
import Derived.Shelf.SlicesG.Cmp
import Derived.Shelf.Small.Bits
import Derived.Shelf.Lay
import Derived.Ground.SlsfProg
import Derived.Ground.SlgcProg
import Derived.Ground.NamesProg
import Derived.Test.YtpkidedepcnoaaaX4
namespace Go.Proofs.Ytpkidedepcnoaaa
open Go.ChangeShapes Go.WideShapes Go.ChangeAt Go.RowKit Go.Shelf Go.Lib Go.Sort
set_option linter.unusedVariables false
set_option linter.unusedSimpArgs false
set_option maxRecDepth 100000
shelf_lay_g SlLaysF0.n6 Slsf 6 at Try 49 as sortMatch
shelf_lay_g SlLaysC2.n5 Slgc 5 at Try 51 as cmpInt
shelf_lay Lays.n125 Nm 125 at Try as bitsLen2
/-- A match's two cells. -/
def encM (x : Int × Int) : List Value := [.int .i64 x.1, .int .i64 x.2]
set_option maxHeartbeats 1000000 in
theorem closureM (x y : Int × Int) (W : World) : Calls Try.prog 50 #[.agg #[.int .i64 x.1, .int .i64 x.2], .agg #[.int .i64 y.1, .int .i64 y.2]] W fun e w' => e = .returned (.int .i64 (Lib.compareInt y.1 x.1)) ∧ ∃ q os', w' = grow (W.drewN q) os' := by
  have hcon := fun W' => AnyG.cmp_Compare_int cmpInt y.1 x.1 W'
  change ∀ W', Calls Try.prog 51 _ _ _ at hcon
  generalize Lib.compareInt y.1 x.1 = r at hcon ⊢
  go_enter Try.func50, Try.ntmps50
  go_wp2_with (go_at_call 51; refine (hcon _).mono ?_; rintro e w' ⟨rfl, rfl⟩)
  go_ret
  exact ⟨rfl, 0, _, by rw [alloc_eq_grow, alloc_eq_grow, grow_grow]; rfl⟩
theorem ltM (x y : Int × Int) : ltOf (fun x y : Int × Int => Lib.compareInt y.1 x.1) x y = decide (y.1 < x.1) := by
  unfold ltOf Lib.compareInt
  by_cases h1 : y.1 < x.1
  · simp [h1]
  · by_cases h2 : x.1 < y.1 <;> simp [h1, h2]
theorem swoM : SWO (ltOf fun x y : Int × Int => Lib.compareInt y.1 x.1) where
  irrefl x := by rw [ltM]; simp
  trans x y z h1 h2 := by rw [ltM] at *; simp at *; omega
  ntrans x y z h1 h2 := by rw [ltM] at *; simp at *; omega
theorem sortM (blk off cap : Nat) (d : Array (Int × Int)) (w : World) (hH : HoldsK encM 2 w blk off d) (hblk : blk < w.heap.size) (hsz : d.size < 4611686018427387904) :
    Calls Try.prog 49 #[.slice (some ⟨blk, off, none⟩) d.size cap, .func (Fn.func 50) #[] #[]] w fun e w' => e = .returned (.tuple #[]) ∧ ∃ d' n os, PermIn 0 d.size d d' ∧ SortedIn (ltOf fun x y : Int × Int => Lib.compareInt y.1 x.1) 0 d.size d' ∧ w' = sortWorldK encM 2 w blk off n d' os := by
  have eg : ∀ args w, (callFunc 50 args).run Try.prog w = .ok (.enter 50 args) w := enters_of Try.func50 (by kernel_rfl) rfl
  exact AnyQ.slices_SortFunc sortMatch 2 (fun w => by kernel_rfl) (fun w => by kernel_rfl) encM (fun _ => rfl) (fun x v hv => by simp [encM] at hv; rcases hv with rfl | rfl <;> rfl) (fun x y => Lib.compareInt y.1 x.1) swoM 50 #[] blk off cap d w eg (fun _ _ _ _ x y => closureM x y _) hH hblk hsz
end Go.Proofs.Ytpkidedepcnoaaa
