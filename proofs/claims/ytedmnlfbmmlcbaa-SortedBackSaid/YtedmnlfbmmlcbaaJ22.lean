import Derived.Test.YtedmnlfbmmlcbaaJ21
import Derived.Test.YtedmnlfbmmlcbaaJ04
/- Layer 20: the document's examples; LcpLeast. -/
namespace Go.Proofs.Ytedmnlfbmmlcbaa
open Go.ChangeShapes Go.WideShapes Go.ChangeAt Go.RowKit
set_option linter.unusedVariables false
set_option linter.unusedSimpArgs false
set_option maxRecDepth 100000
end Go.Proofs.Ytedmnlfbmmlcbaa

/- Layer 48: bytes sorted by what is behind (mathematics). -/
namespace Go.Proofs.Ytedmnlfbmmlcbaa
open Go.ChangeShapes Go.WideShapes Go.ChangeAt Go.RowKit
set_option linter.unusedVariables false
set_option linter.unusedSimpArgs false
set_option maxRecDepth 100000
/-- Where the end of a row begins; the empty end comes first. -/
def Pr (a : List Nat) (n row : Nat) : Nat := if row = 0 then n else a.getD (row - 1) 0
/-- The row of the s-th byte: all rows but one. -/
def rwB (at_ s : Nat) : Nat := if s < at_ then s else s + 1
def plB (a : List Nat) (n at_ : Nat) : List Nat := (List.range n).map (fun s => Pr a n (rwB at_ s) - 1)
theorem plB_len (a : List Nat) (n at_ : Nat) : (plB a n at_).length = n := by simp [plB]
theorem plB_getD (a : List Nat) (n at_ s : Nat) (hs : s < n) : (plB a n at_).getD s 0 = Pr a n (rwB at_ s) - 1 := by simp [plB, List.getD_eq_getElem?_getD, hs]
/-- What is told, row by row. -/
def outF (L : List UInt8) (a : List Nat) : Nat → List UInt8
  | 0 => []
  | r + 1 => outF L a r ++ if 0 < Pr a L.length r then [L.getD (Pr a L.length r - 1) 0] else []
def atF (L : List UInt8) (a : List Nat) : Nat → Nat
  | 0 => 0
  | r + 1 => if 0 < Pr a L.length r then atF L a r else r
theorem Pr_in {L : List UInt8} {a : List Nat} (h : IsSuf L a) (r : Nat) (hr : r ≤ L.length) : Pr a L.length r ≤ L.length ∧ (0 < r → Pr a L.length r < L.length) := by
  unfold Pr
  by_cases e : r = 0
  · rw [if_pos e]; omega
  · rw [if_neg e]
    have := h.lt _ (getD_mem a (r - 1) (by have := h.len; omega))
    omega
theorem Pr_lt {L : List UInt8} {a : List Nat} (h : IsSuf L a) (r r' : Nat) (hrr : r < r') (hr : r' ≤ L.length) : key L (Pr a L.length r) L.length < key L (Pr a L.length r') L.length := by
  have hl := h.len
  unfold Pr
  rw [if_neg (by omega : ¬ r' = 0)]
  by_cases e : r = 0
  · rw [if_pos e, key_out L L.length (Nat.le_refl _)]
    have hp := h.lt _ (getD_mem a (r' - 1) (by omega))
    have h1 := key_add L (a.getD (r' - 1) 0) 1 (L.length - 1)
    rw [show 1 + (L.length - 1) = L.length by omega, key_one, dg_in L _ hp] at h1
    have h2 : 0 < 257 ^ (L.length - 1) := Nat.pow_pos (by decide)
    have h3 : 1 * 257 ^ (L.length - 1) ≤ ((L.getD (a.getD (r' - 1) 0) 0).toNat + 1) * 257 ^ (L.length - 1) := Nat.mul_le_mul_right _ (by omega)
    omega
  · rw [if_neg e]
    exact pw_getD h.inc (r - 1) (r' - 1) (by omega) (by omega)
theorem Pr_inj {L : List UInt8} {a : List Nat} (h : IsSuf L a) (r r' : Nat) (hr : r ≤ L.length) (hr' : r' ≤ L.length) (e : Pr a L.length r = Pr a L.length r') : r = r' := by
  rcases Nat.lt_trichotomy r r' with f | f | f
  · have := Pr_lt h r r' f hr'; rw [e] at this; omega
  · exact f
  · have := Pr_lt h r' r f hr; rw [e] at this; omega
theorem Pr_all {L : List UInt8} {a : List Nat} (h : IsSuf L a) (p : Nat) (hp : p ≤ L.length) : ∃ r, r ≤ L.length ∧ Pr a L.length r = p := by
  by_cases e : p = L.length
  · exact ⟨0, Nat.zero_le _, by rw [e]; rfl⟩
  · obtain ⟨j, hj, ej⟩ := List.getElem_of_mem (h.mem p (by omega))
    refine ⟨j + 1, by have := h.len; omega, ?_⟩
    unfold Pr
    rw [if_neg (by omega), Nat.add_sub_cancel, List.getD_eq_getElem?_getD, List.getElem?_eq_getElem hj, Option.getD_some, ej]
theorem out_before {L : List UInt8} {a : List Nat} (h : IsSuf L a) (at_ : Nat) (hat : at_ ≤ L.length) (h0 : Pr a L.length at_ = 0) : ∀ r, r ≤ at_ → outF L a r = (List.range r).map (fun s => L.getD (Pr a L.length s - 1) 0) ∧ atF L a r = 0
  | 0, _ => ⟨rfl, rfl⟩
  | r + 1, hr => by
    obtain ⟨e1, e2⟩ := out_before h at_ hat h0 r (by omega)
    have hp : 0 < Pr a L.length r := by
      apply Classical.byContradiction
      intro hn
      have := Pr_inj h r at_ (by omega) hat (by omega)
      omega
    rw [outF, atF, if_pos hp, if_pos hp, e1, e2, List.range_succ, List.map_append]
    exact ⟨rfl, rfl⟩
theorem out_behind {L : List UInt8} {a : List Nat} (h : IsSuf L a) (at_ : Nat) (hat : at_ ≤ L.length) (h0 : Pr a L.length at_ = 0) : ∀ d, at_ + d ≤ L.length → outF L a (at_ + 1 + d) = (List.range (at_ + d)).map (fun s => L.getD (Pr a L.length (rwB at_ s) - 1) 0) ∧ atF L a (at_ + 1 + d) = at_
  | 0, _ => by
    obtain ⟨e1, e2⟩ := out_before h at_ hat h0 at_ (Nat.le_refl _)
    rw [Nat.add_zero, Nat.add_zero, outF, atF, if_neg (by omega), if_neg (by omega), List.append_nil, e1]
    refine ⟨List.map_congr_left (fun s hs => ?_), rfl⟩
    rw [rwB, if_pos (List.mem_range.1 hs)]
  | d + 1, hd => by
    obtain ⟨e1, e2⟩ := out_behind h at_ hat h0 d (by omega)
    have hp : 0 < Pr a L.length (at_ + 1 + d) := by
      apply Classical.byContradiction
      intro hn
      have := Pr_inj h (at_ + 1 + d) at_ (by omega) hat (by omega)
      omega
    rw [← Nat.add_assoc, outF, atF, if_pos hp, if_pos hp, e1, e2, ← Nat.add_assoc, List.range_succ, List.map_append]
    refine ⟨?_, rfl⟩
    congr 1
    rw [List.map_singleton, rwB, if_neg (by omega), show at_ + d + 1 = at_ + 1 + d by omega]
/-- The text turned. -/
def tB (L : List UInt8) (a : List Nat) (at_ : Nat) : List UInt8 := (plB a L.length at_).map (fun p => L.getD p 0)
theorem tB_len (L : List UInt8) (a : List Nat) (at_ : Nat) : (tB L a at_).length = L.length := by simp [tB, plB_len]
theorem turned_out {L : List UInt8} {a : List Nat} (h : IsSuf L a) (at_ : Nat) (hat : at_ ≤ L.length) (h0 : Pr a L.length at_ = 0) : outF L a (L.length + 1) = tB L a at_ ∧ atF L a (L.length + 1) = at_ := by
  have := out_behind h at_ hat h0 (L.length - at_) (by omega)
  rw [show at_ + 1 + (L.length - at_) = L.length + 1 by omega, show at_ + (L.length - at_) = L.length by omega] at this
  refine ⟨this.1.trans ?_, this.2⟩
  unfold tB plB
  rw [List.map_map]; rfl
theorem tB_byte (L : List UInt8) (a : List Nat) (at_ s : Nat) (hs : s < L.length) : byteAtU (tB L a at_) s = byteAtU L ((plB a L.length at_).getD s 0) := by
  unfold byteAtU tB
  have : s < (plB a L.length at_).length := by rw [plB_len]; exact hs
  simp [List.getD_eq_getElem?_getD, this]
/-- So many places can be laid. -/
theorem laid_any (rk : Nat → Nat) (l : List Nat) (m : Nat) (hm : ∀ x ∈ l, rk x < m) : ∀ t, t ≤ l.length → ∃ cnt out, Laid rk l m t cnt out
  | 0, _ => ⟨(List.range m).map (bel rk l), List.replicate l.length 0, by simp, by simp, fun r hr => by simp [List.getD_eq_getElem?_getD, hr, sam], fun s hs => by omega⟩
  | t + 1, ht => by
    obtain ⟨cnt, out, h⟩ := laid_any rk l m hm t (by omega)
    exact ⟨_, _, (h.step (show t < l.length by omega) _ rfl (hm _ (getD_mem l t (by omega))) _ rfl).2⟩
theorem key_tail (L : List UInt8) (p q : Nat) (hp : 1 ≤ p) (hq : 1 ≤ q) (n : Nat) (hn : L.length = n + 1) (h : key L p L.length < key L q L.length) : key L p n < key L q n := by
  apply Classical.byContradiction
  intro hx
  have h1 := key_le_down L p q n L.length (by omega) (by omega)
  have e : key L p n = key L q n := by omega
  have h2 := (key_eq2 L p q n 1).2 ⟨e, by rw [key_one, key_one, dg_out L _ (by omega), dg_out L _ (by omega)]⟩
  rw [← hn] at h2
  omega
/-- The row of the end that is a byte longer. -/
theorem lf {L : List UInt8} {a : List Nat} (h : IsSuf L a) (at_ : Nat) (hat : at_ ≤ L.length) (h0 : Pr a L.length at_ = 0) (s : Nat) (hs : s < L.length) : a.getD (posn (byteAtU L) (plB a L.length at_) s) 0 = (plB a L.length at_).getD s 0 := by
  obtain ⟨n, hn⟩ : ∃ n, L.length = n + 1 := ⟨L.length - 1, by omega⟩
  have hrow : ∀ s, s < L.length → rwB at_ s ≤ L.length ∧ rwB at_ s ≠ at_ := fun s hs => by unfold rwB; split <;> omega
  have hpos : ∀ s, s < L.length → 1 ≤ Pr a L.length (rwB at_ s) := fun s hs => by
    obtain ⟨r1, r2⟩ := hrow s hs
    apply Classical.byContradiction
    intro hx
    exact r2 (Pr_inj h _ _ r1 hat (by omega))
  have hQ : (plB a L.length at_).Pairwise (fun p q => p ≠ q ∧ key L (p + 1) L.length < key L (q + 1) L.length) := by
    refine pw_of_getD (fun i j hij hj => ?_)
    rw [plB_len] at hj
    rw [plB_getD a _ at_ i (by omega), plB_getD a _ at_ j hj]
    have p1 := hpos i (by omega)
    have p2 := hpos j hj
    have hlt := Pr_lt h (rwB at_ i) (rwB at_ j) (by unfold rwB; split <;> split <;> omega) (hrow j hj).1
    rw [show Pr a L.length (rwB at_ i) - 1 + 1 = Pr a L.length (rwB at_ i) by omega, show Pr a L.length (rwB at_ j) - 1 + 1 = Pr a L.length (rwB at_ j) by omega]
    refine ⟨fun e => ?_, hlt⟩
    have : Pr a L.length (rwB at_ i) = Pr a L.length (rwB at_ j) := by omega
    rw [this] at hlt
    omega
  have hlt : ∀ x ∈ plB a L.length at_, x < L.length := fun x hx => by
    obtain ⟨s, hs, e⟩ := List.mem_map.1 hx
    have hs := List.mem_range.1 hs
    have h1 := Pr_in h (rwB at_ s) (hrow s hs).1
    have h2 := hpos s hs
    omega
  obtain ⟨cnt, out, hl⟩ := laid_any (byteAtU L) (plB a L.length at_) 256 (fun x _ => byteAt_lt L x) _ (Nat.le_refl _)
  have hso := hl.sorted hQ
  have hsuf : IsSuf L out := by
    refine ⟨by rw [hl.ol, plB_len], fun x hx => hlt x (hl.mem x hx), ?_⟩
    refine pw_of_getD (fun i j hij hj => ?_)
    have hh := pw_getD hso i j hij hj
    have li := hlt _ (hl.mem _ (getD_mem out i (by omega)))
    have lj := hlt _ (hl.mem _ (getD_mem out j hj))
    have b1 := key_lt L (out.getD i 0 + 1) n
    have b2 := key_lt L (out.getD j 0 + 1) n
    rw [hn, key_head L _ n li, key_head L _ n lj, lex_lt b1 b2]
    rcases hh with g | ⟨g, -, g2⟩
    · left; omega
    · exact .inr ⟨by omega, key_tail L _ _ (by omega) (by omega) n hn g2⟩
  have := hsuf.unique h
  subst this
  exact hl.pl s (by rw [plB_len]; exact hs) (by rw [plB_len]; exact hs)
theorem posn_map (rk : Nat → Nat) (g : Nat → Nat) (l : List Nat) (s : Nat) (hs : s < l.length) : posn rk (l.map g) s = posn (fun x => rk (g x)) l s := by
  unfold posn bel sam
  have e : (l.map g).getD s 0 = g (l.getD s 0) := by simp [List.getD_eq_getElem?_getD, hs]
  rw [e, List.countP_map, ← List.map_take, List.countP_map]
  rfl
theorem posn_congr (rk rk' : Nat → Nat) (l : List Nat) (h : ∀ x ∈ l, rk x = rk' x) (s : Nat) (hs : s < l.length) : posn rk l s = posn rk' l s := by
  have e1 : ∀ r, bel rk l r = bel rk' l r := fun r => List.countP_congr (fun x hx => by rw [h x hx])
  have e2 : ∀ r, sam rk (l.take s) r = sam rk' (l.take s) r := fun r => List.countP_congr (fun x hx => by rw [h x (List.mem_of_mem_take hx)])
  unfold posn
  rw [h _ (getD_mem l s hs), e1, e2]
/-- The byte's place of a row. -/
def sOfB (at_ row : Nat) : Nat := if at_ < row then row - 1 else row
/-- The row one byte ahead, as it is told by the turned text alone. -/
def ahd (T : List UInt8) (at_ row : Nat) : Nat := 1 + posn (byteAtU T) (List.range T.length) (sOfB at_ row)
theorem ahd_ok {L : List UInt8} {a : List Nat} (h : IsSuf L a) (at_ : Nat) (hat : at_ ≤ L.length) (h0 : Pr a L.length at_ = 0) (row : Nat) (hr : row ≤ L.length) (hne : row ≠ at_) : ahd (tB L a at_) at_ row ≤ L.length ∧ Pr a L.length (ahd (tB L a at_) at_ row) + 1 = Pr a L.length row ∧ byteAtU (tB L a at_) (sOfB at_ row) = byteAtU L (Pr a L.length row - 1) ∧ sOfB at_ row < L.length := by
  have hs : sOfB at_ row < L.length := by unfold sOfB; split <;> omega
  have hrw : rwB at_ (sOfB at_ row) = row := by unfold rwB sOfB; split <;> split <;> omega
  have hp : 1 ≤ Pr a L.length row := by
    apply Classical.byContradiction
    intro hx
    exact hne (Pr_inj h _ _ hr hat (by omega))
  have e1 := plB_getD a L.length at_ _ hs
  rw [hrw] at e1
  have e2 := lf h at_ hat h0 _ hs
  have e3 : posn (byteAtU (tB L a at_)) (List.range (tB L a at_).length) (sOfB at_ row) = posn (byteAtU L) (plB a L.length at_) (sOfB at_ row) := by
    rw [tB_len]
    unfold plB
    rw [posn_map _ _ _ _ (by rw [List.length_range]; exact hs)]
    refine posn_congr _ _ _ (fun x hx => ?_) _ (by rw [List.length_range]; exact hs)
    have hx := List.mem_range.1 hx
    rw [tB_byte L a at_ x hx, plB_getD a _ at_ x hx]
  have e4 := posn_lt (byteAtU L) (plB a L.length at_) (sOfB at_ row) (by rw [plB_len]; exact hs)
  rw [plB_len] at e4
  unfold ahd
  rw [e3]
  refine ⟨by omega, ?_, by rw [tB_byte L a at_ _ hs, e1], hs⟩
  unfold Pr at hp ⊢
  rw [if_neg (by omega : ¬ 1 + posn (byteAtU L) (plB a L.length at_) (sOfB at_ row) = 0), Nat.add_sub_cancel_left, e2, e1]
  unfold Pr
  omega
/-- Back, from the last byte on: none, if the text itself comes too early. -/
def bk (T : List UInt8) (at_ : Nat) : Nat → Nat → List UInt8 → Option (List UInt8)
  | 0, _, acc => some acc
  | k + 1, row, acc => if row = at_ then none else bk T at_ k (ahd T at_ row) (T.getD (sOfB at_ row) 0 :: acc)
theorem bk_ok {L : List UInt8} {a : List Nat} (h : IsSuf L a) (at_ : Nat) (hat : at_ ≤ L.length) (h0 : Pr a L.length at_ = 0) : ∀ k row, k ≤ L.length → row ≤ L.length → Pr a L.length row = k → bk (tB L a at_) at_ k row (L.drop k) = some L
  | 0, row, _, _, _ => by rw [bk, List.drop_zero]
  | k + 1, row, hk, hr, hp => by
    have hne : row ≠ at_ := fun e => by rw [e, h0] at hp; omega
    obtain ⟨g1, g2, g3, g4⟩ := ahd_ok h at_ hat h0 row hr hne
    rw [hp, Nat.add_sub_cancel] at g3
    have e : (tB L a at_).getD (sOfB at_ row) 0 = L.getD k 0 := UInt8.toNat_inj.1 g3
    rw [bk, if_neg hne, e]
    have e2 : L.getD k 0 :: L.drop (k + 1) = L.drop k := by rw [List.drop_eq_getElem_cons (show k < L.length by omega)]; simp [List.getD_eq_getElem?_getD, show k < L.length by omega]
    rw [e2]
    exact bk_ok h at_ hat h0 k _ (by omega) g1 (by omega)
end Go.Proofs.Ytedmnlfbmmlcbaa

/- Layer 48: Turn. -/
namespace Go.Proofs.Ytedmnlfbmmlcbaa
open Go.ChangeShapes Go.WideShapes Go.ChangeAt Go.RowKit
set_option linter.unusedVariables false
set_option linter.unusedSimpArgs false
set_option maxRecDepth 100000
theorem cPlace (a : List Nat) (va : Option Addr) (vc n row : Nat) (w : World) (hi : IsInts w va (nI a)) (hl : a.length = n) (hr : row ≤ n) (hn : n ≤ 100000) :
    Calls Try.prog 23 #[.agg #[.int .i64 n, .slice va n vc], .int .i64 row] w fun e w' => e = .returned (.int .i64 (Pr a n row)) ∧ Below w.heap.size w w' := by
  by_cases h0 : row = 0
  · have e : Pr a n row = n := if_pos h0
    rw [e]
    subst h0
    go_enter Try.func23, Try.ntmps23
    go_wp2_with fail
    go_ret
    exact ⟨rfl, (Below.refl _ _).alloc (Nat.le_refl _) _⟩
  · obtain ⟨z, hz⟩ : ∃ z, row - 1 = z := ⟨_, rfl⟩
    have e : Pr a n row = a.getD z 0 := by unfold Pr; rw [if_neg h0, hz]
    rw [e]
    obtain ⟨x, rfl, hxb, hc⟩ := hi.at z (by rw [nI_len]; omega)
    have cz := hc z (by rw [nI_len]; omega)
    have hg : (nI a).getD z 0 = ((a.getD z 0 : Nat) : Int) := mapN_getD a z (by omega)
    rw [hg] at cz
    have hzi : (row : Int) - 1 = (z : Int) := by omega
    have hzn : (z : Int) < n := by omega
    have hr0 : ((row : Int) == 0) = false := by rw [beq_eq_false_iff_ne]; omega
    have cz2 := Go.Lib.cell?_alloc_some (.cells #[.int .i64 n, .slice (some x) n vc] 46) cz
    have hxb2 : x.block < (w.alloc (.cells #[.int .i64 n, .slice (some x) n vc] 46)).heap.size := by simp; omega
    clear hc hg e hz
    go_enter Try.func23, Try.ntmps23
    go_wp2_with fail
    go_ret
    exact ⟨rfl, (Below.refl _ _).alloc (Nat.le_refl _) _⟩
def fY (b : UInt8) : List Value := [.int .u8 (b.toNat : Int)]
theorem flatY : Flat fY 1 := fun x => ⟨rfl, by intro u hu; simp [fY] at hu; subst hu; rfl⟩
theorem info_u8 : (Try.prog.info? 5).map (fun i => (i.zero, i.size, i.bytes)) = some (some (.int .u8 0), 1, 1) := by kernel_rfl
abbrev OwnY (B : Nat) (w : World) (v : Value) (l : List UInt8) : Prop := OwnS fY 5 1 B w v l
theorem app_u8 {X : World} {ops : Array Oper} {rest : List Oper} {o : Oper} {a : Act} {Q : Exit → Act → World → Prop} (hgd : o.guard = none) (s xo : Operand)
    (ho : o.op = .call { callee := .builtin .append, args := #[s, xo], argTypes := #[52, 52] })
    (B T : Nat) (v : Value) (l : List UInt8) (x : UInt8) (hs : a.eval s = v) (hown : OwnY B X v l) (g c1 : Nat) (hg : X.heap.size = g) (hx : a.eval xo = .slice (some ⟨g, 0, none⟩) 1 c1) (hl : l.length ≤ 1099511627776) (hB : B ≤ X.heap.size)
    (h : ∀ v' w', OwnY B w' v' (l ++ [x]) → Below B X w' → X.grownBy w' v.ownBlock → wpList Try.prog ops Q rest (a.put o.dst v') w') : wpList Try.prog ops Q (o :: rest) a (X.alloc (.cells #[.int .u8 (x.toNat : Int)] T)) :=
  app_one (f := fY) info_u8 rfl (by decide) (by decide) Try.underlying52 flatY hgd s xo ho B T v l x hs hown g c1 hg hx hl hB h
theorem outF_len (L : List UInt8) (a : List Nat) : ∀ r, (outF L a r).length ≤ r
  | 0 => Nat.le_refl _
  | r + 1 => by have := outF_len L a r; rw [outF, List.length_append]; split <;> simp <;> omega
theorem cells8_fY (l : List UInt8) : l.flatMap fY = cells8 l := by
  induction l with
  | nil => rfl
  | cons b l ih => rw [List.flatMap_cons, ih]; rfl
theorem OwnS.convY {B : Nat} {w : World} {v : Value} {l : List UInt8} (h : OwnY B w v l) : (convert 52 9 v).run Try.prog w = .ok (.string (sM l)) w := by
  have h' : w.ownsRow B 5 1 v l.length (cells8 l) := by rw [← cells8_fY]; exact h
  exact conv_own8 Try.underlying52 Try.underlying5 Try.underlying9 h'
theorem mk_cap1 (ST E : TypeId) (z : Value) (bytes : Nat) (hST : Try.prog.underlying ST = some (.slice E)) (hE : (Try.prog.info? E).map (fun i => (i.zero, i.size, i.bytes)) = some (some z, 1, bytes)) (hby : bytes ≤ 8) (L : Nat) (hL : L ≤ 1000000) :
    ∃ ROW : Array Value, ROW.size = L ∧ ∀ w : World, (Instr.makeSlice ST (.int .i64 0) (.int .i64 (L : Int))).run Try.prog w = .ok (.slice (some ⟨w.heap.size, 0, none⟩) 0 L) (w.alloc (.cells ROW E)) := by
  obtain ⟨i, hi, hz, hs, hb⟩ := info_get hE
  refine ⟨madeCells z.cells L, size_madeCells _ _, fun w => ?_⟩
  have := run_make (w := w) (P := Try.prog) ST E i z hST hi hz .i64 .i64 0 (L : Int) (by decide) (by omega) (by
    rw [hb]
    have : (bytes : Int) * (L : Int) ≤ 8 * (L : Int) := Int.mul_le_mul_of_nonneg_right (by omega) (by omega)
    omega) (by omega)
  rw [hs, show ((L : Int)).toNat = L by omega, Nat.mul_one] at this
  exact this
theorem own_capY {w : World} {g cap B : Nat} {E : TypeId} {ROW : Array Value} (h : w.heap[g]? = some (.cells ROW E (0, 0))) (hB : B ≤ g) (hs : ROW.size = cap) (hc : cap ≤ 1000000000) : w.ownsRow B E 1 (.slice (some ⟨g, 0, none⟩) 0 cap) 0 [] := by
  refine ⟨rfl, .inr ⟨g, cap, ROW, rfl, hB, h, Nat.zero_le _, by unfold maxLen; omega, by omega, by simp⟩⟩
set_option maxHeartbeats 3200000 in
theorem cTurn2 (L : List UInt8) (a : List Nat) (va : Option Addr) (vc n : Nat) (w : World) (hi : IsInts w va (nI a)) (hs : IsSuf L a) (hn : L.length = n) (hL : n ≤ 10000) :
    Calls Try.prog 21 #[.string (sM L), .func (Fn.func 23) #[.agg #[.int .i64 n, .slice va n vc]] #[]] w fun e w' => e = .returned (.tuple #[.string (sM (outF L a (n + 1))), .int .i64 (atF L a (n + 1))]) ∧ Below w.heap.size w w' := by
  have hS : (sM L).size = n := by rw [sM_size, hn]
  obtain ⟨ROW, hROW, mk1⟩ := mk_cap1 52 5 (.int .u8 0) 1 Try.underlying52 info_u8 (by decide) n (by omega)
  have HI := Lib.hid hi
  have HS := Lib.hid hs
  have HN := Lib.hid hn
  have CP := Lib.hid (fun W r (hW : IsInts W va (nI a)) (hr : r ≤ n) => cPlace a va vc n r W hW (by rw [hs.len, hn]) hr (by omega))
  have hwn : IntKind.i64.wrap ((n : Int) + 1) = (n : Int) + 1 := IntWalk.i64_in _ (by omega)
  clear hi hs hn
  go_enter Try.func21, Try.ntmps21
  go_wp2_with fail
  have HO := Lib.hid (show OwnY w.heap.size (w.alloc (.cells ROW 5)) (.slice (some ⟨w.heap.size, 0, none⟩) 0 n) [] from own_capY (heap_alloc_new w _) (Nat.le_refl _) hROW (by omega))
  have HB := Lib.hid ((Below.refl w.heap.size w).alloc (Nat.le_refl _) (.cells ROW 5))
  generalize w.alloc (.cells ROW 5) = w1 at *
  go_loopw [6, 7, 16] (fun av ov rv wr => ∃ r : Nat, r ≤ n + 1 ∧ rv = .int .i64 r ∧ av = .int .i64 (atF L a r : Nat) ∧ Hid (OwnY w.heap.size wr ov (outF L a r)) ∧ Hid (Below w.heap.size w wr)) (fun _ _ rv _ => n + 1 - (intOf rv).toNat)
  case atStart => exact ⟨0, Nat.zero_le _, rfl, rfl, HO, HB⟩
  case round =>
    clear HO HB
    obtain ⟨r, hr, rfl, rfl, HO, HB⟩ := hrel
    obtain ⟨oa, oc, rfl⟩ := HO.out.slice
    by_cases hlt : r < n + 1
    · have hri : (r : Int) < (n : Int) + 1 := by omega
      have CP1 := Lib.hid (CP.out wr r (HI.out.kept HB.out) (by omega))
      have hst1 : outF L a (r + 1) = outF L a r ++ if 0 < Pr a n r then [L.getD (Pr a n r - 1) 0] else [] := by rw [outF, HN.out]
      have hst2 : atF L a (r + 1) = if 0 < Pr a n r then atF L a r else r := by rw [atF, HN.out]
      have hpn := (Pr_in HS.out r (by rw [HN.out]; omega)).1
      rw [HN.out] at hpn
      have hol := outF_len L a r
      obtain ⟨p, hp⟩ : ∃ p, Pr a n r = p := ⟨_, rfl⟩
      rw [hp] at CP1 hst1 hst2 hpn
      obtain ⟨O, hO⟩ : ∃ O, outF L a r = O := ⟨_, rfl⟩
      obtain ⟨T, hT⟩ : ∃ T, atF L a r = T := ⟨_, rfl⟩
      rw [hO] at HO hst1 hol ⊢
      rw [hT] at hst2 ⊢
      clear hp hO hT
      go_wp2_with fail
      refine CP1.out.mono ?_; rintro e w2 ⟨rfl, hb2⟩
      have HO := Lib.hid (HO.out.kept hb2)
      have HB := Lib.hid (HB.out.trans (hb2.mono HB.out.size))
      clear hb2 CP1
      by_cases hp0 : 0 < p
      · have hpi : (0 : Int) < p := by omega
        rw [if_pos hp0] at hst1 hst2
        obtain ⟨z, hz⟩ : ∃ z, p - 1 = z := ⟨_, rfl⟩
        rw [hz] at hst1
        have hzi : (p : Int) - 1 = (z : Int) := by omega
        have x1 := ixM L (z : Int) z rfl (by have := HN.out; omega)
        obtain ⟨Y, hY⟩ : ∃ Y, L.getD z 0 = Y := ⟨_, rfl⟩
        rw [hY] at x1 hst1
        have hzn : (z : Int) < n := by omega
        have H1 := Lib.hid hst1
        have H2 := Lib.hid hst2
        have HLn := Lib.hid (show O.length ≤ 1099511627776 by omega)
        have HBs := Lib.hid (show w.heap.size ≤ w2.heap.size from HB.out.size)
        clear hst1 hst2 hY hz hp0
        go_wp2_with (at_builtin; refine app_u8 rfl _ _ rfl w.heap.size _ (.slice oa O.length oc) O Y rfl HO.out w2.heap.size 1 rfl rfl HLn.out HBs.out ?_; intro v5 w5 ho5 hb5 hg5)
        have HO5 := Lib.hid ho5
        have HB5 := Lib.hid (HB.out.trans hb5)
        clear ho5 hb5 hg5 HO HB
        go_wp2_with fail
        go_roundw
        case rel => exact ⟨r + 1, by omega, by go_num, by rw [H2.out], by rw [H1.out]; exact HO5, HB5⟩
        case measure => simp [intOf] <;> omega
      · have hpi : ¬ (0 : Int) < p := by omega
        rw [if_neg hp0] at hst1 hst2
        rw [List.append_nil] at hst1
        have H1 := Lib.hid hst1
        have H2 := Lib.hid hst2
        clear hst1 hst2 hp0
        go_wp2_with fail
        go_roundw
        case rel => exact ⟨r + 1, by omega, by go_num, by rw [H2.out], by rw [H1.out]; exact HO, HB⟩
        case measure => simp [intOf] <;> omega
    · obtain rfl : r = n + 1 := by omega
      have hri : ¬ ((n + 1 : Nat) : Int) < (n : Int) + 1 := by omega
      have hcv := HO.out.convY
      obtain ⟨O, hO⟩ : ∃ O, outF L a (n + 1) = O := ⟨_, rfl⟩
      rw [hO] at hcv ⊢
      have HOO := Lib.hid hO
      clear hO
      go_wp2_with fail
      go_ret2
      exact ⟨by rw [HOO.out]; rfl, HB.out⟩
set_option maxHeartbeats 3200000 in
theorem cTurnB (L : List UInt8) (w : World) (hL : L.length ≤ 10000) :
    Calls Try.prog 9 #[.string (sM L)] w fun e w' => ∃ (a : List Nat) (at_ : Nat), e = .returned (.tuple #[.string (sM (tB L a at_)), .int .i64 at_]) ∧ IsSuf L a ∧ at_ ≤ L.length ∧ Pr a L.length at_ = 0 ∧ Below w.heap.size w w' := by
  have hS : (sM L).size = L.length := sM_size L
  have CS := Lib.hid (fun W => sortV L W hL)
  have C2 := Lib.hid (fun a va vc W (hi : IsInts W va (nI a)) (hs : IsSuf L a) => cTurn2 L a va vc L.length W hi hs rfl hL)
  go_enter Try.func9, Try.ntmps9
  go_wp2_with fail
  refine (CS.out _).mono ?_; rintro e w1 ⟨v, a, rfl, hs, hv, hb⟩
  obtain ⟨va, vc, rfl, hi⟩ := hv
  rw [show (nI a).length = L.length by rw [nI_len, hs.len]]
  have HI := Lib.hid hi
  have HS := Lib.hid hs
  have HB := Lib.hid hb
  clear hi hs hb CS
  go_wp2_with fail
  refine (C2.out a va vc _ HI.out HS.out).mono ?_; rintro e w2 ⟨rfl, hb2⟩
  obtain ⟨at_, hat, h0⟩ := Pr_all HS.out 0 (Nat.zero_le _)
  obtain ⟨e1, e2⟩ := turned_out HS.out at_ hat h0
  rw [e1, e2]
  have HX := Lib.hid (And.intro hat h0)
  have HB2 := Lib.hid (HB.out.trans (hb2.mono HB.out.size))
  clear e1 e2 hat h0 hb2 C2
  go_wp2_with fail
  go_ret2
  exact ⟨a, at_, rfl, HS.out, HX.out.1, HX.out.2, HB2.out⟩
end Go.Proofs.Ytedmnlfbmmlcbaa
