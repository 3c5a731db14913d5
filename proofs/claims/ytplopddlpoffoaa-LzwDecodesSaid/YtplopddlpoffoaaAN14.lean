/- Layer 60: Decode. -/
import Derived.Test.YtplopddlpoffoaaAN13
namespace Go.Proofs.Ytplopddlpoffoaa
open Go.ChangeShapes Go.WideShapes Go.ChangeAt Go.RowKit
set_option linter.unusedVariables false
set_option linter.unusedSimpArgs false
set_option maxRecDepth 100000
open Bits
theorem info_span : (Try.prog.info? 97).map (fun i => (i.zero, i.size, i.bytes)) = some (some (.agg #[.int .i64 0, .int .i64 0]), 2, 16) := by kernel_rfl
theorem step_span {ops : Array Oper} {o : Oper} {a : Act} {X : World} {K : Act → World → Prop} {Q : Exit → Act → World → Prop} {E : Prop} (hgd : o.guard = none) (s xo : Operand)
    (ho : o.op = .call { callee := .builtin .append, args := #[s, xo], argTypes := #[95, 95] })
    (B T : Nat) (v : Value) (l : List (Nat × Nat)) (x y : Nat) (zy : Int) (hzy : zy = (y : Int)) (hs : a.eval s = v) (hown : OwnSp B X v l) (g c1 : Nat) (hg : X.heap.size = g) (hx : a.eval xo = .slice (some ⟨g, 0, none⟩) 1 c1) (hl : l.length ≤ 1099511627776) (hB : B ≤ X.heap.size)
    (h : ∀ v' w', OwnSp B w' v' (l ++ [(x, y)]) → (X.alloc (.cells #[.int .i64 (x : Int), .int .i64 zy] T)).grownBy w' v.ownBlock → K (a.put o.dst v') w') :
    if Region.wanted o (yielded ops a.tmps) = true then Oper.wp Try.prog o a (X.alloc (.cells #[.int .i64 (x : Int), .int .i64 zy] T)) K Q else E := by
  subst hzy
  have hw : Region.wanted o (yielded ops a.tmps) = true := by simp [Region.wanted, hgd]
  rw [if_pos hw]
  subst hg
  obtain ⟨i0, hi, h1, h2, h3⟩ := info_get info_span
  have hnew : ∀ j u, [Value.int .i64 (x : Int), Value.int .i64 (y : Int)][j]? = some u → (X.alloc (.cells #[.int .i64 (x : Int), .int .i64 (y : Int)] T)).cell? ((⟨X.heap.size, 0, none⟩ : Addr).add j) = some u := by
    refine cells_of (fun j hj => ?_)
    rw [cell_in (heap_alloc_new X _)]; simp
  obtain ⟨v', w', hr, ho', hg', -⟩ := run_append_own (P := Try.prog) (X.alloc (.cells #[.int .i64 (x : Int), .int .i64 (y : Int)] T)) B 95 o.type 97 i0 _ 2 16 Try.underlying95 hi h1 h2 h3 rfl (by decide) v l.length (l.flatMap fSp) (World.ownsRow.alloc hown _) ⟨X.heap.size, 0, none⟩ 1 c1 [.int .i64 (x : Int), .int .i64 (y : Int)] rfl hnew (by intro u hu; simp at hu; rcases hu with rfl | rfl <;> rfl) (by unfold maxLen; omega) (by omega) (by simp; omega)
  unfold Oper.wp execOp
  simp only [ho, resolve, invoke, builtin, Sem.run_bind, Sem.run_pure, Result.andThen_ok, List.map_toArray, List.map_cons, List.map_nil, hs, hx, hr]
  refine h v' w' ?_ hg'
  have e : (l ++ [(x, y)]).flatMap fSp = l.flatMap fSp ++ [.int .i64 (x : Int), .int .i64 (y : Int)] := by simp [fSp]
  show World.ownsRow w' B _ 2 v' (l ++ [(x, y)]).length ((l ++ [(x, y)]).flatMap fSp)
  rw [e, List.length_append]; exact ho'
theorem Rd.push {w w1 : World} {B g lf ln : Nat} {ov rv v' : Value} {O : List UInt8} {ps ps' : List (Nat × Nat)} {o : Obj} (h : Rd w B g ov rv lf ln O ps)
    (ho2 : OwnSp B w1 v' ps') (hg : (w.alloc o).grownBy w1 rv.ownBlock) :
    Rd (w1.setCell ⟨g, 1, none⟩ v') B g ov v' lf ln O ps' ∧ (B ≤ w.heap.size → Below B w (w1.setCell ⟨g, 1, none⟩ v')) ∧ w1.heap[g]? = some (.cells #[ov, rv, .int .i64 (lf : Int), .int .i64 (ln : Int)] 99 (0, 0)) := by
  obtain ⟨n1, n2, n3⟩ := h.ne
  have hk1 : Keeps (fun k => rv.ownBlock = some k) w w1 := ((Keeps.refl _ w).alloc _).grown hg (fun j hj => .inr hj)
  have hg3 := hk1.heap h.block n2
  have hne := own_ne ho2 hg3 (by decide)
  have hou : OwnU B w1 ov O := hk1.ownsRow h.out (fun j hj e => n3 j hj e)
  refine ⟨⟨block_set hg3 1 _, ownsRow_setCell_other hou (a := ⟨g, 1, none⟩) n1 _, ownsRow_setCell_other ho2 (a := ⟨g, 1, none⟩) hne _, h.base⟩, fun hB => ?_, hg3⟩
  have hk2 := (hk1.mono (S' := fun k => k = g ∨ rv.ownBlock = some k) (fun j _ hj => .inr hj)).setCell (p := ⟨g, 1, none⟩) (.inr (.inl rfl)) v'
  refine hk2.below (fun k hk => ⟨Nat.lt_of_lt_of_le hk hB, fun e => ?_⟩)
  have := h.base
  rcases e with e | e
  · omega
  · have := (World.ownsRow.lt h.rows k e).1; omega
theorem RdPost.below {w w' : World} {B g lf ln lf2 ln2 : Nat} {ov rv : Value} {O O2 : List UInt8} {ps : List (Nat × Nat)} (h : Rd w B g ov rv lf ln O ps) (hp : RdPost w B g ov rv O2 ps lf2 ln2 w') (hB : B ≤ w.heap.size) : Below B w w' := by
  obtain ⟨ov', -, hk, -⟩ := hp
  refine hk.below (fun k hk => ⟨Nat.lt_of_lt_of_le hk hB, fun e => ?_⟩)
  have := h.base
  rcases e with e | e
  · omega
  · have := (World.ownsRow.lt h.out k e).1; omega
set_option maxHeartbeats 3200000 in
theorem cDecodeOut (s : ByteArray) (many m : Int) (h : m < 9 ∨ 16 < m ∨ many < 0 ∨ 16777216 < many) (w : World) : Calls Try.prog 21 #[.string s, .int .i64 many, .int .i64 m] w fun e w' => e = .returned (.tuple #[.string ⟨#[]⟩, .int .i64 1]) ∧ w' = w := by
  by_cases h1 : 9 ≤ m ∧ m ≤ 16
  · have HM := Lib.hid (cMayBits m true (decide_eq_true h1))
    by_cases h2 : many < 0
    · go_enter Try.func21, Try.ntmps21
      go_wp2_with fail
      refine (HM.out _).mono ?_; rintro e w1 ⟨rfl, rfl⟩
      go_wp2_with fail
      go_ret2
      exact ⟨rfl, rfl⟩
    · have h3 : 16777216 < many := by omega
      go_enter Try.func21, Try.ntmps21
      go_wp2_with fail
      refine (HM.out _).mono ?_; rintro e w1 ⟨rfl, rfl⟩
      go_wp2_with fail
      go_ret2
      exact ⟨rfl, rfl⟩
  · have HM := Lib.hid (cMayBits m false (decide_eq_false h1))
    clear h h1
    go_enter Try.func21, Try.ntmps21
    go_wp2_with fail
    refine (HM.out _).mono ?_; rintro e w1 ⟨rfl, rfl⟩
    go_wp2_with fail
    go_ret2
    exact ⟨rfl, rfl⟩
/-- What Decode still owes. -/
def Owes (R : List Bool) (many m : Nat) (RES : Row8 × Int) (l : List Row8) (last O : Row8) (t : Nat) : Prop :=
  ∃ f, many ≤ O.length + f ∧ (O.length ≤ many → decZ R many m f l last O t = RES) ∧ (many < O.length → RES = ([], 4))
/-- How Decode stands at a round's begin. -/
structure DecI (w1 : World) (rb B : Nat) (by8 : List UInt8) (many m q : Nat) (RES : Row8 × Int) (l : List Row8) (last O : Row8) (ps : List (Nat × Nat)) (lf ln t : Nat) (ov rv : Value) (wr : World) : Prop where
  rd : Rd wr B B ov rv lf ln O ps
  bits : IsReader wr rb by8 t
  far : Far wr rb B
  spn : Spn l last O ps lf ln
  owes : Owes (spread by8) many m RES l last O t
  below : Below w1.heap.size w1 wr
  few : 256 + ps.length ≤ q
  small : O.length ≤ 40000000
  base : B ≤ wr.heap.size
theorem DecI.drewN {w1 : World} {rb B : Nat} {by8 : List UInt8} {many m q : Nat} {RES : Row8 × Int} {l : List Row8} {last O : Row8} {ps : List (Nat × Nat)} {lf ln t : Nat} {ov rv : Value} {wr : World} (h : DecI w1 rb B by8 many m q RES l last O ps lf ln t ov rv wr) (n : Nat) : DecI w1 rb B by8 many m q RES l last O ps lf ln t ov rv (wr.drewN n) :=
  ⟨h.rd.below (below_dn (Below.refl _ _) n), h.bits, h.far, h.spn, h.owes, below_dn h.below n, h.few, h.small, h.base⟩
theorem Rd.away {w w' : World} {B g rb : Nat} {ov rv : Value} {lf ln : Nat} {O : List UInt8} {ps : List (Nat × Nat)} (h : Rd w B g ov rv lf ln O ps) (hk : Keeps (fun k => k = rb) w w') (hr : rb < B) : Rd w' B g ov rv lf ln O ps :=
  ⟨hk.heap h.block (fun e => by have := h.base; omega), hk.ownsRow h.out (fun k hk' e => by have := (World.ownsRow.lt h.out k hk').1; omega), hk.ownsRow h.rows (fun k hk' e => by have := (World.ownsRow.lt h.rows k hk').1; omega), h.base⟩
/-- How Decode stands behind the row that waits. -/
structure DecJ (w1 : World) (rb B : Nat) (by8 : List UInt8) (O : Row8) (pn : List (Nat × Nat)) (lf ln t : Nat) (ov rv : Value) (wr : World) : Prop where
  rd : Rd wr B B ov rv lf ln O pn
  bits : IsReader wr rb by8 t
  far : Far wr rb B
  below : Below w1.heap.size w1 wr
  base : B ≤ wr.heap.size
theorem DecJ.took {w1 wr w' : World} {rb B : Nat} {by8 : List UInt8} {O : Row8} {pn : List (Nat × Nat)} {lf ln t t' : Nat} {ov rv : Value} (h : DecJ w1 rb B by8 O pn lf ln t ov rv wr) (hr : IsReader w' rb by8 t') (hk : Keeps (fun k => k = rb) wr w') (hF : ∀ B, Far wr rb B → Far w' rb B) (h0 : w1.heap.size ≤ rb) : DecJ w1 rb B by8 O pn lf ln t' ov rv w' :=
  ⟨h.rd.away hk h.far.1, hr, hF B h.far, h.below.trans (hk.below (fun k hk' => ⟨Nat.lt_of_lt_of_le hk' h.below.size, fun e => by omega⟩)), Nat.le_trans h.base hk.size⟩
theorem Owes.err {R : List Bool} {many m t t' X : Nat} {E : Int} {RES : Row8 × Int} {l : List Row8} {last O : Row8} {rows : Nat} (h : Owes R many m RES l last O t) (hlt : O.length < many) (hr : rowsZ l last m = rows) (hS : takeS R t (widN rows : Nat) = (t', X, E)) (hE : E ≠ 0) : RES = ([], E) := by
  obtain ⟨f, hf, h1, -⟩ := h
  obtain ⟨f, rfl⟩ : ∃ f', f = f' + 1 := ⟨f - 1, by omega⟩
  rw [← h1 (by omega)]
  unfold decZ
  rw [if_pos hlt, hr, hS, if_pos hE]
theorem Owes.form {R : List Bool} {many m t t' X : Nat} {RES : Row8 × Int} {l : List Row8} {last O : Row8} {rows : Nat} (h : Owes R many m RES l last O t) (hlt : O.length < many) (hr : rowsZ l last m = rows) (hS : takeS R t (widN rows : Nat) = (t', X, 0)) (hX : rows ≤ X) : RES = ([], 4) := by
  obtain ⟨f, hf, h1, -⟩ := h
  obtain ⟨f, rfl⟩ : ∃ f', f = f' + 1 := ⟨f - 1, by omega⟩
  rw [← h1 (by omega)]
  unfold decZ
  rw [if_pos hlt, hr, hS, if_neg (by simp), if_pos hX]
theorem Owes.next {R : List Bool} {many m t t' X : Nat} {RES : Row8 × Int} {l : List Row8} {last O : Row8} {rows : Nat} (h : Owes R many m RES l last O t) (hlt : O.length < many) (hr : rowsZ l last m = rows) (hS : takeS R t (widN rows : Nat) = (t', X, 0)) (hX : X < rows) (hn : nowZ l last X ≠ []) : Owes R many m RES (moreZ l last (nowZ l last X) rows) (nowZ l last X) (O ++ nowZ l last X) t' := by
  obtain ⟨f, hf, h1, -⟩ := h
  have hnl : 0 < (nowZ l last X).length := List.length_pos_iff.2 hn
  obtain ⟨f, rfl⟩ : ∃ f', f = f' + 1 := ⟨f - 1, by omega⟩
  have h2 := h1 (by omega)
  unfold decZ at h2
  rw [if_pos hlt, hr, hS, if_neg (by simp), if_neg (by simpa using hX)] at h2
  refine ⟨f, by rw [List.length_append]; omega, fun hle => ?_, fun hgt => ?_⟩
  · rw [List.length_append] at hle
    rw [if_neg (by simp only []; omega)] at h2
    exact h2
  · rw [List.length_append] at hgt
    rw [if_pos (by simp only []; omega)] at h2
    exact h2.symm
theorem Owes.over {R : List Bool} {many m t : Nat} {RES : Row8 × Int} {l : List Row8} {last O : Row8} (h : Owes R many m RES l last O t) (hlt : many < O.length) : RES = ([], 4) := by
  obtain ⟨f, hf, -, h1⟩ := h; exact h1 hlt
theorem Owes.done {R : List Bool} {many m t : Nat} {RES : Row8 × Int} {l : List Row8} {last O : Row8} (h : Owes R many m RES l last O t) (he : O.length = many) : RES = if okZ (R.drop t) = true then (O, 0) else ([], 4) := by
  obtain ⟨f, hf, h1, -⟩ := h
  rw [← h1 (by omega)]
  cases f with
  | zero => rfl
  | succ f => unfold decZ; rw [if_neg (by omega)]
end Go.Proofs.Ytplopddlpoffoaa
