import Derived.Test.YtopiiickeojpmaaJ21
import Derived.Defers
import Derived.Recover
import Derived.Test.YtopiiickeojpmaaAP11
/- Layer 13: lengths are read, faults caught. -/
namespace Go.Proofs.Ytopiiickeojpmaa
open Go.ChangeShapes Go.WideShapes Go.ChangeAt Go.RowKit
set_option linter.unusedVariables false
set_option linter.unusedSimpArgs false
set_option maxRecDepth 100000
open Bits hiding packF pack_length
open RunsMath KraftMath CanonMath TurnMath Pm
theorem catch_no (p q : Addr) (w : World) :
    CallsD Try.prog 36 #[.pointer (some p), .pointer (some q)] .returning w fun e u' w' => e = .returned (.tuple #[]) ∧ u' = .returning ∧ w' = w := by
  refine callsD_of_wpS Try.func36 rfl fun c₀ cs hu => ?_
  apply wpS_seq
  apply wpS_region
  simp [wpOpsS, go_sem, recoverD, hu, Try.ntmps36, Exit.thenS]
  refine wpS_of_wp ?_
  go_wp2_with fail
  cases c₀
  simp_all [bodyPostS, results, Try.results36]
theorem catch_yes (gl ge : Nat) (x y : Value) (E : Int) (older : List PanicEntry) (w : World) (tl te : TypeId) (hl : w.heap[gl]? = some (.cells #[x] tl (0, 0))) (he : w.heap[ge]? = some (.cells #[y] te (0, 0))) (hne : gl ≠ ge) :
    CallsD Try.prog 36 #[.pointer (some ⟨gl, 0, none⟩), .pointer (some ⟨ge, 0, none⟩)] (.panicking (flt E :: older)) w fun e u' w' =>
      e = .returned (.tuple #[]) ∧ u' = .panicking ({ flt E with recovered := true } :: older) ∧ ∃ wz, Below w.heap.size w wz ∧ w' = (wz.setCell ⟨gl, 0, none⟩ (.slice none 0 0)).setCell ⟨ge, 0, none⟩ (.int .i64 E) := by
  refine callsD_of_wpS Try.func36 rfl fun c₀ cs hu => ?_
  apply wpS_seq
  apply wpS_region
  unfold flt at hu
  simp [wpOpsS, go_sem, recoverD, hu, Try.ntmps36, Exit.thenS, flt]
  refine wpS_of_wp ?_
  have CT := Lib.hid (fun W => tTold E W)
  go_wp2_with fail
  refine (CT.out _).mono ?_; rintro e w1 ⟨rfl, hb1⟩
  have h1 := (hb1.block gl (block_lt hl)).trans hl
  have h2 := (hb1.block ge (block_lt he)).trans he
  have c0 := cell_in h1 0
  have c1 := cell_in h2 0
  have f0 := free_in h1 0
  have f1 := free_in h2 0
  have hne' : ¬ ge = gl := fun e => hne e.symm
  simp only [List.getElem?_toArray, List.getElem?_cons_zero] at c0 c1
  have HB := Lib.hid hb1
  clear hb1 h1 h2 hl he CT
  go_wp2_with fail
  refine ⟨rfl, _, rfl, .tuple #[], ?_, rfl, rfl, w1, HB.out, rfl⟩
  simp [results, Try.results36, go_sem]
set_option maxHeartbeats 1600000 in
theorem cRead0 (p : Addr) (w : World) :
    Calls Try.prog 17 #[.pointer (some p), .int .i64 0] w fun e w' => e = .returned (.tuple #[.slice none 0 0, .int .i64 1]) ∧ Below w.heap.size w w' := by
  have hmf : ∀ (fn : Fn) (first cap : Array Value) (w : World), (Instr.makeFunc fn first cap).run Try.prog w = .ok (.func fn first cap) w := fun _ _ _ _ => rfl
  go_enter_defers Try.func17, Try.ntmps17
  go_wp2
  have q0 := cell_in (heap_two_first w (.cells #[.slice none 0 0] 22) (.cells #[.int .i64 1] 26)) 0
  have q1 := cell_in (heap_two_last w (.cells #[.slice none 0 0] 22) (.cells #[.int .i64 1] 26)) 0
  simp only [List.getElem?_toArray, List.getElem?_cons_zero] at q0 q1
  have HB := Lib.hid (((Below.refl _ w).alloc (Nat.le_refl _) (.cells #[.slice none 0 0] 22)).alloc (by simp) (.cells #[.int .i64 1] 26))
  simp [bodyPostD, Leaves, settle, results, Try.results17, go_sem, q0, q1]
  exact HB.out
def EndRd (R : RdR) (w0 : World) (g : Nat) (s : List UInt8) (n : Nat) (v : Value) (E : Int) (w' : World) : Prop :=
  match R with
  | .bad F => v = .slice none 0 0 ∧ E = F
  | .good r t => E = 0 ∧ OwnI w0.heap.size w' v (unpack r n).2 ∧ IsReader w' g s t
set_option maxHeartbeats 3200000 in
theorem cReadAll (w0 : World) (g t0 : Nat) (s : List UInt8) (hr : IsReader w0 g s t0) (n : Nat) (hn1 : 1 ≤ n) (hn : n ≤ 1024) (R : RdR)
    (C : ∀ W, IsReader W g s t0 → Calls Try.prog 38 #[.pointer (some ⟨g, 0, none⟩), .int .i64 n] W (EndR R W g s n)) :
    Calls Try.prog 17 #[.pointer (some ⟨g, 0, none⟩), .int .i64 n] w0 fun e w' => ∃ v E, e = .returned (.tuple #[v, .int .i64 E]) ∧ Keeps (fun k => k = g) w0 w' ∧ EndRd R w0 g s n v E w' := by
  have hmf : ∀ (fn : Fn) (first cap : Array Value) (w : World), (Instr.makeFunc fn first cap).run Try.prog w = .ok (.func fn first cap) w := fun _ _ _ _ => rfl
  have HC := Lib.hid C
  have HR := Lib.hid hr
  have h1 : ¬ (n : Int) < 1 := by omega
  have h2 : ¬ (1024 : Int) < (n : Int) := by omega
  clear C hr
  go_enter_defers Try.func17, Try.ntmps17
  go_wp2_with fail
  have hx := heap_two_first w0 (.cells #[.slice none 0 0] 22) (.cells #[.int .i64 0] 26)
  have hy := heap_two_last w0 (.cells #[.slice none 0 0] 22) (.cells #[.int .i64 0] 26)
  have hb1 : Below w0.heap.size w0 ((w0.alloc (.cells #[.slice none 0 0] 22)).alloc (.cells #[.int .i64 0] 26)) := ((Below.refl _ w0).alloc (Nat.le_refl _) _).alloc (by simp) _
  obtain ⟨w1, hw1⟩ : ∃ w1, (w0.alloc (.cells #[.slice none 0 0] 22)).alloc (.cells #[.int .i64 0] 26) = w1 := ⟨_, rfl⟩
  have hgl : g < w0.heap.size := HR.out.lt
  rw [hw1] at hx hy hb1 ⊢
  obtain ⟨gl, hgl2⟩ : ∃ gl, w0.heap.size = gl := ⟨_, rfl⟩
  have hy2 := hy
  rw [hgl2] at hx hy2 hgl ⊢
  have HB1 := Lib.hid hb1
  have C1 := Lib.hid (HC.out w1 (HR.out.kept hb1))
  have HGL := Lib.hid hgl2
  clear hw1 hy hb1 hgl2 HC HR
  cases R with
  | bad F =>
    refine C1.out.mono ?_; rintro e w2 ⟨rfl, hk2⟩
    have hx2 := (hk2.block gl (block_lt hx) (by show ¬ gl = g; omega)).trans hx
    have hy3 := (hk2.block (gl + 1) (block_lt hy2) (by show ¬ gl + 1 = g; omega)).trans hy2
    have HK := Lib.hid hk2
    have HX2 := Lib.hid hx2
    have HY2 := Lib.hid hy3
    clear hx2 hy3 hk2 C1 hx hy2
    go_wp2_with fail
    refine leaves_cons (f := 36) (args := #[.pointer (some ⟨gl, 0, none⟩), .pointer (some ⟨gl + 1, 0, none⟩)]) (by simp) (by simp [go_sem]) ?_
    refine (catch_yes gl (gl + 1) _ _ F [] w2 _ _ HX2.out HY2.out (by omega)).mono ?_
    rintro e u' w3 ⟨rfl, rfl, wz, hbz, rfl⟩
    have hxz := (hbz.block gl (block_lt HX2.out)).trans HX2.out
    have hyz := (hbz.block (gl + 1) (block_lt HY2.out)).trans HY2.out
    have hx4 := (heap_setCell_other (wz.setCell ⟨gl, 0, none⟩ (.slice none 0 0)) ⟨gl + 1, 0, none⟩ gl (.int .i64 F) (by show gl ≠ gl + 1; omega)).trans (block_set hxz 0 (.slice none 0 0))
    have hy4 := block_set ((heap_setCell_other wz ⟨gl, 0, none⟩ (gl + 1) (.slice none 0 0) (by show gl + 1 ≠ gl; omega)).trans hyz) 0 (.int .i64 F)
    have q0 : ((wz.setCell ⟨gl, 0, none⟩ (.slice none 0 0)).setCell ⟨gl + 1, 0, none⟩ (.int .i64 F)).cell? ⟨gl, 0, none⟩ = some (.slice none 0 0) := cell_in hx4 0
    have q1 : ((wz.setCell ⟨gl, 0, none⟩ (.slice none 0 0)).setCell ⟨gl + 1, 0, none⟩ (.int .i64 F)).cell? ⟨gl + 1, 0, none⟩ = some (.int .i64 F) := cell_in hy4 0
    have HKE := Lib.hid (show Keeps (fun k => k = g) w0 ((wz.setCell ⟨gl, 0, none⟩ (.slice none 0 0)).setCell ⟨gl + 1, 0, none⟩ (.int .i64 F)) from
      (((Keeps.of_below (S := fun k => k = g) HB1.out).trans' HK.out (fun _ _ e => e)).trans' (Keeps.of_below (S := fun k => k = g) hbz) (fun _ _ e => e)).setCell (.inl (by show w0.heap.size ≤ gl; have := HGL.out; omega)) _ |>.setCell (.inl (by show w0.heap.size ≤ gl + 1; have := HGL.out; omega)) _)
    clear hxz hyz hx4 hy4
    simp [Leaves, settle, results, Try.results17, go_sem, q0, q1, flt]
    exact ⟨_, _, ⟨rfl, rfl⟩, HKE.out, rfl, rfl⟩
  | good r t =>
    refine C1.out.mono ?_; rintro e w2 ⟨v, rfl, ho2, hs2⟩
    obtain ⟨pv, cv, hv⟩ := OwnS.slice ho2
    obtain ⟨lv, hlv⟩ : ∃ lv, (unpack r n).2.length = lv := ⟨_, rfl⟩
    rw [hlv] at hv
    subst hv
    clear hlv
    have hk2 := hs2.keep
    have hx2 := (hk2.block gl (block_lt hx) (by show ¬ gl = g; omega)).trans hx
    have hy3 := (hk2.block (gl + 1) (block_lt hy2) (by show ¬ gl + 1 = g; omega)).trans hy2
    have c0 := cell_in hx2 0
    have c1 := cell_in hy3 0
    have f0 := free_in hx2 0
    have f1 := free_in hy3 0
    simp only [List.getElem?_toArray, List.getElem?_cons_zero] at c0 c1
    have hx4 := (heap_setCell_other (w2.setCell ⟨gl, 0, none⟩ (.slice pv lv cv)) ⟨gl + 1, 0, none⟩ gl (.int .i64 0) (by show gl ≠ gl + 1; omega)).trans (block_set hx2 0 (.slice pv lv cv))
    have hy4 := block_set ((heap_setCell_other w2 ⟨gl, 0, none⟩ (gl + 1) (.slice pv lv cv) (by show gl + 1 ≠ gl; omega)).trans hy3) 0 (.int .i64 0)
    have q0 : ((w2.setCell ⟨gl, 0, none⟩ (.slice pv lv cv)).setCell ⟨gl + 1, 0, none⟩ (.int .i64 0)).cell? ⟨gl, 0, none⟩ = some (.slice pv lv cv) := cell_in hx4 0
    have q1 : ((w2.setCell ⟨gl, 0, none⟩ (.slice pv lv cv)).setCell ⟨gl + 1, 0, none⟩ (.int .i64 0)).cell? ⟨gl + 1, 0, none⟩ = some (.int .i64 0) := cell_in hy4 0
    have HKE := Lib.hid (show Keeps (fun k => k = g) w0 ((w2.setCell ⟨gl, 0, none⟩ (.slice pv lv cv)).setCell ⟨gl + 1, 0, none⟩ (.int .i64 0)) from
      ((Keeps.of_below (S := fun k => k = g) HB1.out).trans' hk2 (fun _ _ e => e)).setCell (.inl (by show w0.heap.size ≤ gl; have := HGL.out; omega)) _ |>.setCell (.inl (by show w0.heap.size ≤ gl + 1; have := HGL.out; omega)) _)
    have hlo := block_lt hy2
    have HO5 := Lib.hid (show OwnI w0.heap.size ((w2.setCell ⟨gl, 0, none⟩ (.slice pv lv cv)).setCell ⟨gl + 1, 0, none⟩ (.int .i64 0)) (.slice pv lv cv) (unpack r n).2 from ((ho2.setLow (p := ⟨gl, 0, none⟩) (by show gl < w1.heap.size; omega) (.slice pv lv cv)).setLow (p := ⟨gl + 1, 0, none⟩) (by show gl + 1 < w1.heap.size; omega) _).base HB1.out.size)
    have HR5 := Lib.hid (show IsReader ((w2.setCell ⟨gl, 0, none⟩ (.slice pv lv cv)).setCell ⟨gl + 1, 0, none⟩ (.int .i64 0)) g s t from by
      refine reader_away (reader_away hs2.rd (k := gl) (fun j x e => ?_) (by omega) ((Keeps.refl (fun b => b = gl) w2).setCell (p := ⟨gl, 0, none⟩) (.inr rfl) (.slice pv lv cv))) (k := gl + 1) (fun j x e => ?_) (by omega) ((Keeps.refl (fun b => b = gl + 1) (w2.setCell ⟨gl, 0, none⟩ (.slice pv lv cv))).setCell (p := ⟨gl + 1, 0, none⟩) (.inr rfl) _)
      · rw [cell_in hx2 j] at e
        rcases j with _ | j <;> simp at e
      · rw [cell_in ((heap_setCell_other w2 ⟨gl, 0, none⟩ (gl + 1) (.slice pv lv cv) (by show gl + 1 ≠ gl; omega)).trans hy3) j] at e
        rcases j with _ | j <;> simp at e)
    clear hx4 hy4 hx2 hy3 hk2 ho2 hs2 C1 hx hy2
    go_wp2_with fail
    refine leaves_cons (f := 36) (args := #[.pointer (some ⟨gl, 0, none⟩), .pointer (some ⟨gl + 1, 0, none⟩)]) (by simp) (by simp [go_sem]) ?_
    refine (catch_no ⟨gl, 0, none⟩ ⟨gl + 1, 0, none⟩ _).mono ?_
    rintro e u' w3 ⟨rfl, rfl, rfl⟩
    simp [Leaves, settle, results, Try.results17, go_sem, q0, q1]
    exact ⟨_, _, ⟨rfl, rfl⟩, HKE.out, rfl, HO5.out, HR5.out⟩
end Go.Proofs.Ytopiiickeojpmaa

/- Layer 13: the chapter's example: values. -/
namespace Go.Proofs.Ytopiiickeojpmaa
set_option linter.unusedVariables false
set_option maxRecDepth 100000
open Bits hiding packF pack_length
open RunsMath KraftMath CanonMath TurnMath Pm
deriving instance DecidableEq for RdR
theorem p11 : packL [1, 1] = [(1, 0), (1, 0)] := by decide +kernel
theorem o11 : ofR [(1, 0), (1, 0)] = [0, 1, 0, 0, 0, 0, 0, 0, 0, 0, 0, 0, 0, 0, 0, 0, 0, 0, 0] := by decide +kernel
def O11 : List Int := [0, 1, 0, 0, 0, 0, 0, 0, 0, 0, 0, 0, 0, 0, 0, 0, 0, 0, 0]
theorem w11 : (writeB [(1, 0), (1, 0)] O11).length = 60 := by decide +kernel
theorem s11 : ((spread (pack (writeB [(1, 0), (1, 0)] O11)))).length = 64 := by decide +kernel
theorem k11 : peek ((spread (pack (writeB [(1, 0), (1, 0)] O11))).drop 0) 4 + 4 = 18 := by decide +kernel
theorem h11 : headO ((spread (pack (writeB [(1, 0), (1, 0)] O11))).drop (0 + 4)) 18 = O11 := by decide +kernel
theorem c11 : check O11 7 = 0 := by decide +kernel
theorem r11 : rdR O11 (spread (pack (writeB [(1, 0), (1, 0)] O11))) 7 (7 + 1) (0 + 4 + 3 * 18) 0 [] = .bad 3 := by decide +kernel
end Go.Proofs.Ytopiiickeojpmaa
