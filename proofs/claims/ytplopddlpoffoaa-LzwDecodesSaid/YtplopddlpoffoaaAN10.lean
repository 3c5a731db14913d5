/- Layer 60: the reader's next. -/
import Derived.Test.YtplopddlpoffoaaAN9
namespace Go.Proofs.Ytplopddlpoffoaa
open Go.ChangeShapes Go.WideShapes Go.ChangeAt Go.RowKit
set_option linter.unusedVariables false
set_option linter.unusedSimpArgs false
set_option maxRecDepth 100000
open Bits
def fSp (p : Nat × Nat) : List Value := [.int .i64 (p.1 : Int), .int .i64 (p.2 : Int)]
theorem flatSp : Flat fSp 2 := fun x => ⟨rfl, by intro u hu; simp [fSp] at hu; rcases hu with rfl | rfl <;> rfl⟩
abbrev OwnSp (B : Nat) (w : World) (v : Value) (l : List (Nat × Nat)) : Prop := OwnS fSp 97 2 B w v l
def fU8 (b : UInt8) : List Value := [.int .u8 (b.toNat : Int)]
theorem flatU8 : Flat fU8 1 := fun x => ⟨rfl, by intro u hu; simp [fU8] at hu; subst hu; rfl⟩
abbrev OwnU (B : Nat) (w : World) (v : Value) (l : List UInt8) : Prop := OwnS fU8 5 1 B w v l
theorem fU8_cells (l : List UInt8) : l.flatMap fU8 = cells8 l := by
  unfold cells8
  induction l with
  | nil => rfl
  | cons a r ih => rw [List.flatMap_cons, ih]; rfl
/-- The reader's block and what it holds. -/
structure Rd (w : World) (B g : Nat) (ov rv : Value) (lf ln : Nat) (O : List UInt8) (ps : List (Nat × Nat)) : Prop where
  block : w.heap[g]? = some (.cells #[ov, rv, .int .i64 (lf : Int), .int .i64 (ln : Int)] 99 (0, 0))
  out : OwnU B w ov O
  rows : OwnSp B w rv ps
  base : B ≤ g
/-- Bytes copied one by one from where they stand. -/
def copyZ (f : Nat) (O : List UInt8) : Nat → List UInt8
  | 0 => O
  | k + 1 => copyZ f O k ++ [(copyZ f O k).getD (f + k) 0]
theorem copyZ_len (f : Nat) (O : List UInt8) (k : Nat) : (copyZ f O k).length = O.length + k := by
  induction k with
  | zero => rfl
  | succ k ih => simp [copyZ, ih]; omega
/-- A next number. -/
def outZ (O : List UInt8) (ps : List (Nat × Nat)) (x : Nat) : Option (List UInt8) :=
  if x < 256 then some (O ++ [UInt8.ofNat x]) else
    match ps[x - 256]? with
    | some p => some (copyZ p.1 O p.2)
    | none => none
theorem Rd.below {w w' : World} {B g : Nat} {ov rv : Value} {lf ln : Nat} {O : List UInt8} {ps : List (Nat × Nat)} (h : Rd w B g ov rv lf ln O ps) (hb : Below w.heap.size w w') : Rd w' B g ov rv lf ln O ps :=
  ⟨(hb.block g (block_lt h.block)).trans h.block, h.out.kept hb, h.rows.kept hb, h.base⟩
theorem Rd.ne {w : World} {B g : Nat} {ov rv : Value} {lf ln : Nat} {O : List UInt8} {ps : List (Nat × Nat)} (h : Rd w B g ov rv lf ln O ps) : ov.ownBlock ≠ some g ∧ rv.ownBlock ≠ some g ∧ ∀ k, ov.ownBlock = some k → rv.ownBlock ≠ some k := by
  refine ⟨own_ne h.out h.block (by decide), own_ne h.rows h.block (by decide), fun k hk => ?_⟩
  obtain ⟨C, hC⟩ : ∃ C, w.heap[k]? = some (.cells C 5 (0, 0)) := by
    rcases h.out.2 with ⟨h0, -⟩ | ⟨g', cap', cur, h0, _, hg, _⟩
    · subst h0; simp [Value.ownBlock] at hk
    · subst h0
      obtain rfl : g' = k := by simpa [Value.ownBlock] using hk
      exact ⟨cur, hg⟩
  exact own_ne h.rows hC (by decide)
/-- What has turned: the reader's block, and the row of bytes. -/
def RdPost (w : World) (B g : Nat) (ov rv : Value) (O : List UInt8) (ps : List (Nat × Nat)) (lf ln : Nat) (w' : World) : Prop :=
  ∃ ov', Rd w' B g ov' rv lf ln O ps ∧ Keeps (fun k => k = g ∨ ov.ownBlock = some k) w w' ∧ ∀ k, ov'.ownBlock = some k → ov.ownBlock = some k ∨ w.heap.size ≤ k
set_option maxHeartbeats 3200000 in
theorem cNextNo (w : World) (B g : Nat) (ov rv : Value) (lf ln : Nat) (O : List UInt8) (ps : List (Nat × Nat)) (x : Nat) (h : Rd w B g ov rv lf ln O ps) (hx : 256 ≤ x) (hx2 : x ≤ 1000000) (hp : ps.length ≤ x - 256) (hO : O.length ≤ 100000000) :
    Calls Try.prog 50 #[.pointer (some ⟨g, 0, none⟩), .int .i64 x] w fun e w' => e = .returned (.int .i64 4) ∧ w' = w := by
  have cg := cell_lit h.block 0 ov rfl
  have cr := cell_lit h.block 1 rv rfl
  obtain ⟨oa, oc, rfl⟩ := h.out.slice
  obtain ⟨ra, rc, rfl⟩ := h.rows.slice
  have h1 : ¬ (x : Int) < 256 := by omega
  have h2 : ¬ (x : Int) - 256 < (ps.length : Int) := by omega
  clear h
  go_enter Try.func50, Try.ntmps50
  go_wp2_with fail
  go_ret
  exact ⟨rfl, rfl⟩
theorem app_u81 {X : World} {ops : Array Oper} {rest : List Oper} {o : Oper} {a : Act} {Q : Exit → Act → World → Prop} (hgd : o.guard = none) (s xo : Operand)
    (ho : o.op = .call { callee := .builtin .append, args := #[s, xo], argTypes := #[94, 94] })
    (B T : Nat) (v : Value) (l : List UInt8) (x : UInt8) (hs : a.eval s = v) (hown : OwnU B X v l) (g c1 : Nat) (hg : X.heap.size = g) (hx : a.eval xo = .slice (some ⟨g, 0, none⟩) 1 c1) (hl : l.length ≤ 1099511627776) (hB : B ≤ X.heap.size)
    (h : ∀ k cap w', OwnU B w' (.slice (some ⟨k, 0, none⟩) (l.length + 1) cap) (l ++ [x]) → Row1 X v w' (.slice (some ⟨k, 0, none⟩) (l.length + 1) cap) → wpList Try.prog ops Q rest (a.put o.dst (.slice (some ⟨k, 0, none⟩) (l.length + 1) cap)) w') : wpList Try.prog ops Q (o :: rest) a (X.alloc (.cells #[.int .u8 (x.toNat : Int)] T)) := by
  subst hg
  obtain ⟨i0, hi, h1, h2, h3⟩ := info_get info_u8
  refine wpList_append_at _ hgd s xo 94 ho B 5 i0 (.int .u8 0) 1 Try.underlying94 hi h1 h2 h3 rfl v l.length (l.flatMap fU8) hs (World.ownsRow.alloc hown _) ⟨X.heap.size, 0, none⟩ 1 c1 [.int .u8 (x.toNat : Int)] hx rfl (cell_new1 X _ T _ rfl) (by intro u hu; simp at hu; subst hu; rfl) (by unfold maxLen; omega) (by omega) (by simp; omega) (by decide) ?_
  intro k cap w' ho' hg' hk
  have e : (l ++ [x]).flatMap fU8 = l.flatMap fU8 ++ [.int .u8 (x.toNat : Int)] := by simp [fU8]
  refine h k cap w' ?_ ⟨((Keeps.refl _ X).alloc _).grown hg' (fun j hj => .inr hj), fun j hj => ?_⟩
  · unfold OwnU OwnS; rw [e, List.length_append]; exact ho'
  · obtain rfl : k = j := by simpa [Value.ownBlock] using hj
    rcases hk with hk | hk
    · exact .inl hk
    · right; rw [hk]; simp
/-- Behind an append to what was told, its slice laid in the reader's block. -/
theorem Rd.grown {w w3 : World} {B g k cap : Nat} {ov rv : Value} {lf ln : Nat} {O : List UInt8} {ps : List (Nat × Nat)} {x : UInt8} (h : Rd w B g ov rv lf ln O ps) (ho : OwnU B w3 (.slice (some ⟨k, 0, none⟩) (O.length + 1) cap) (O ++ [x])) (hr : Row1 w ov w3 (.slice (some ⟨k, 0, none⟩) (O.length + 1) cap)) :
    w3.heap[g]? = some (.cells #[ov, rv, .int .i64 (lf : Int), .int .i64 (ln : Int)] 99 (0, 0)) ∧ RdPost w B g ov rv (O ++ [x]) ps lf ln (w3.setCell ⟨g, 0, none⟩ (.slice (some ⟨k, 0, none⟩) (O.length + 1) cap)) := by
  obtain ⟨n1, n2, n3⟩ := h.ne
  have hg3 := hr.1.heap h.block n1
  have hne := own_ne ho hg3 (by decide)
  have hrw : OwnSp B w3 rv ps := hr.1.ownsRow h.rows (fun j hj e => n3 j e hj)
  refine ⟨hg3, _, ⟨block_set hg3 0 _, ownsRow_setCell_other ho (a := ⟨g, 0, none⟩) hne _, ownsRow_setCell_other hrw (a := ⟨g, 0, none⟩) n2 _, h.base⟩, ?_, hr.2⟩
  exact (hr.1.mono (fun j _ hj => .inr hj)).setCell (p := ⟨g, 0, none⟩) (.inr (.inl rfl)) _
theorem RdPost.last {w W : World} {B g : Nat} {ov rv : Value} {lf ln lf2 ln2 : Nat} {O : List UInt8} {ps : List (Nat × Nat)} {z : Int} (h : RdPost w B g ov rv O ps lf ln W) (hz : z = (ln2 : Int)) : RdPost w B g ov rv O ps lf2 ln2 ((W.setCell ⟨g, 2, none⟩ (.int .i64 (lf2 : Int))).setCell ⟨g, 3, none⟩ (.int .i64 z)) := by
  subst hz
  obtain ⟨ov', hr, hk, hv⟩ := h
  obtain ⟨n1, n2, n3⟩ := hr.ne
  refine ⟨ov', ⟨block_set (block_set hr.block 2 _) 3 _, ?_, ?_, hr.base⟩, ?_, hv⟩
  · exact ownsRow_setCell_other (ownsRow_setCell_other hr.out (a := ⟨g, 2, none⟩) n1 _) (a := ⟨g, 3, none⟩) n1 _
  · exact ownsRow_setCell_other (ownsRow_setCell_other hr.rows (a := ⟨g, 2, none⟩) n2 _) (a := ⟨g, 3, none⟩) n2 _
  · exact (hk.setCell (p := ⟨g, 2, none⟩) (.inr (.inl rfl)) _).setCell (p := ⟨g, 3, none⟩) (.inr (.inl rfl)) _
set_option maxHeartbeats 3200000 in
theorem cNextByte (w : World) (B g : Nat) (ov rv : Value) (lf ln : Nat) (O : List UInt8) (ps : List (Nat × Nat)) (x : Nat) (h : Rd w B g ov rv lf ln O ps) (hx : x < 256) (hO : O.length ≤ 100000000) (hB : B ≤ w.heap.size) :
    Calls Try.prog 50 #[.pointer (some ⟨g, 0, none⟩), .int .i64 x] w fun e w' => e = .returned (.int .i64 0) ∧ RdPost w B g ov rv (O ++ [UInt8.ofNat x]) ps O.length 1 w' := by
  obtain ⟨i0, hi, hz0, hz1, hz2⟩ := info_get info_u8
  have cg := cell_lit h.block 0 ov rfl
  have fg := free_in h.block 0
  have hgl := block_lt h.block
  have h1 : (x : Int) < 256 := by omega
  have hxu : IntKind.u8.wrap (x : Int) = ((UInt8.ofNat x).toNat : Int) := by rw [u8w]; exact IntKind.wrap_u8 _
  obtain ⟨oa, oc, hov⟩ := h.out.slice
  have hne := h.ne
  have HO := Lib.hid h.out
  have HH := Lib.hid h
  have HOL := Lib.hid hO
  go_enter Try.func50, Try.ntmps50
  subst hov
  have HB := Lib.hid hB
  clear h hne hO hB
  go_wp2_with (first
    | (at_builtin; refine app_u81 rfl (.tmp 20) (.tmp 23) rfl B _ _ O (UInt8.ofNat x) rfl HO.out _ 1 rfl rfl (Nat.le_trans HOL.out (by decide)) HB.out ?_; intro k cap w3 ho3 hr3; obtain ⟨hg3, hp3⟩ := HH.out.grown ho3 hr3; have c3 := cell_lit hg3 0 (.slice oa O.length oc) rfl; have c32 := cell_lit hg3 2 _ rfl; have c33 := cell_lit hg3 3 _ rfl; have f3 := free_in hg3 0; have f32 := free_in hg3 2; have f33 := free_in hg3 3; have HG3 := Lib.hid hg3; have HP3 := Lib.hid hp3; clear hg3 hp3 ho3 hr3)
    | fail)
  go_ret
  exact ⟨rfl, HP3.out.last (by omega)⟩
end Go.Proofs.Ytplopddlpoffoaa
