import Derived.Test.YtipcdkemokkdfaaGreatK01
import Derived.IntWalk
import Derived.Laws.IdiomStrings
import Derived.Lib.AppendStr
import Derived.Deep.RegionLaw
/- Bits and bytes, plainly. -/
namespace Go.Proofs.YtipcdkemokkdfaaGreat.Bits
/-- The lowest n bits of x, the lowest one first. -/
def bitsOf (x : Nat) : Nat → List Bool
  | 0 => []
  | n + 1 => (x % 2 == 1) :: bitsOf (x / 2) n
/-- The word of bits, the first one lowest. -/
def wordOf : List Bool → Nat
  | [] => 0
  | b :: l => (if b then 1 else 0) + 2 * wordOf l
theorem bitsOf_length (x n : Nat) : (bitsOf x n).length = n := by
  induction n generalizing x with
  | zero => rfl
  | succ n ih => simp [bitsOf, ih]
theorem bitsOf_add (x n m : Nat) : bitsOf x (n + m) = bitsOf x n ++ bitsOf (x / 2 ^ n) m := by
  induction n generalizing x with
  | zero => simp [bitsOf]
  | succ n ih => rw [show n + 1 + m = (n + m) + 1 from by omega]; simp only [bitsOf, ih, List.cons_append]; rw [Nat.div_div_eq_div_mul, show 2 * 2 ^ n = 2 ^ (n + 1) from by rw [Nat.pow_succ]; omega]
theorem bitsOf_mod (x n : Nat) : bitsOf (x % 2 ^ n) n = bitsOf x n := by
  induction n generalizing x with
  | zero => rfl
  | succ n ih =>
    simp only [bitsOf]
    have h1 : x % 2 ^ (n + 1) % 2 = x % 2 := Nat.mod_mod_of_dvd _ ⟨2 ^ n, by rw [Nat.pow_succ]; omega⟩
    have h2 : x % 2 ^ (n + 1) / 2 = x / 2 % 2 ^ n := by
      rw [Nat.pow_succ, Nat.mul_comm, Nat.mod_mul_right_div_self]
    rw [h1, h2, ih]
theorem bitsOf_join (r x n m : Nat) (h : r < 2 ^ n) : bitsOf (r + x * 2 ^ n) (n + m) = bitsOf r n ++ bitsOf x m := by
  rw [bitsOf_add]
  have hp : 0 < 2 ^ n := Nat.two_pow_pos n
  congr 1
  · rw [← bitsOf_mod (r + x * 2 ^ n), Nat.add_mul_mod_self_right, bitsOf_mod]
  · rw [Nat.add_mul_div_right _ _ hp, Nat.div_eq_of_lt h, Nat.zero_add]
theorem wordOf_lt (l : List Bool) : wordOf l < 2 ^ l.length := by
  induction l with
  | nil => simp [wordOf]
  | cons b l ih => simp only [wordOf, List.length_cons, Nat.pow_succ]; split <;> omega
theorem wordOf_bitsOf (x n : Nat) : wordOf (bitsOf x n) = x % 2 ^ n := by
  induction n generalizing x with
  | zero => simp [bitsOf, wordOf, Nat.mod_one]
  | succ n ih =>
    simp only [bitsOf, wordOf, ih]
    rw [Nat.pow_succ, Nat.mul_comm (2 ^ n) 2, Nat.mod_mul]
    have : x % 2 = 0 ∨ x % 2 = 1 := by omega
    rcases this with h | h <;> simp [h]
theorem bitsOf_wordOf (l : List Bool) : bitsOf (wordOf l) l.length = l := by
  induction l with
  | nil => rfl
  | cons b l ih =>
    simp only [wordOf, List.length_cons, bitsOf]
    congr 1
    · cases b <;> simp <;> omega
    · rw [show ((if b = true then 1 else 0) + 2 * wordOf l) / 2 = wordOf l from by split <;> omega, ih]
theorem wordOf_append (a b : List Bool) : wordOf (a ++ b) = wordOf a + 2 ^ a.length * wordOf b := by
  induction a with
  | nil => simp [wordOf]
  | cons c a ih => simp only [List.cons_append, wordOf, ih, List.length_cons, Nat.pow_succ, Nat.mul_add]; rw [Nat.mul_comm (2 ^ a.length) 2, Nat.mul_assoc]; omega
theorem wordOf_take (l : List Bool) (n : Nat) : wordOf (l.take n) = wordOf l % 2 ^ n := by
  induction n generalizing l with
  | zero => simp [wordOf, Nat.mod_one]
  | succ n ih =>
    cases l with
    | nil => simp [wordOf]
    | cons b l =>
      simp only [List.take_succ_cons, wordOf, ih]
      rw [Nat.pow_succ, Nat.mul_comm (2 ^ n) 2, Nat.mod_mul]
      have e1 : ((if b = true then 1 else 0) + 2 * wordOf l) % 2 = if b = true then 1 else 0 := by split <;> omega
      have e2 : ((if b = true then 1 else 0) + 2 * wordOf l) / 2 = wordOf l := by split <;> omega
      rw [e1, e2]
theorem wordOf_drop (l : List Bool) (n : Nat) : wordOf (l.drop n) = wordOf l / 2 ^ n := by
  induction n generalizing l with
  | zero => simp
  | succ n ih =>
    cases l with
    | nil => simp [wordOf]
    | cons b l =>
      simp only [List.drop_succ_cons, wordOf, ih]
      rw [Nat.pow_succ, Nat.mul_comm (2 ^ n) 2, ← Nat.div_div_eq_div_mul]
      rw [show ((if b = true then 1 else 0) + 2 * wordOf l) / 2 = wordOf l from by split <;> omega]
/-- Bits as bytes, eight to a byte, the first one lowest; what lacks of the last one is 0. -/
def packF : Nat → List Bool → List UInt8
  | 0, _ => []
  | f + 1, l => if l = [] then [] else UInt8.ofNat (wordOf (l.take 8)) :: packF f (l.drop 8)
def pack (l : List Bool) : List UInt8 := packF l.length l
/-- The bits of bytes. -/
def spread : List UInt8 → List Bool
  | [] => []
  | b :: l => bitsOf b.toNat 8 ++ spread l
theorem spread_append (a b : List UInt8) : spread (a ++ b) = spread a ++ spread b := by
  induction a with
  | nil => rfl
  | cons c a ih => simp [spread, ih]
theorem spread_length (l : List UInt8) : (spread l).length = 8 * l.length := by
  induction l with
  | nil => rfl
  | cons c a ih => simp [spread, ih, bitsOf_length]; omega
theorem packF_nil (f : Nat) : packF f [] = [] := by cases f <;> simp [packF]
theorem packF_enough (f g : Nat) (l : List Bool) (h : l.length ≤ f) (k : l.length ≤ g) : packF f l = packF g l := by
  induction f generalizing g l with
  | zero => obtain rfl := List.eq_nil_of_length_eq_zero (l := l) (by omega); rw [packF_nil, packF_nil]
  | succ f ih =>
    cases g with
    | zero => obtain rfl := List.eq_nil_of_length_eq_zero (l := l) (by omega); rw [packF_nil, packF_nil]
    | succ g =>
      simp only [packF]
      split
      · rfl
      · rename_i hne
        have : 0 < l.length := List.length_pos_iff.2 hne
        rw [ih g (l.drop 8) (by simp; omega) (by simp; omega)]
theorem pack_nil : pack [] = [] := rfl
theorem pack_step (l : List Bool) (h : l ≠ []) : pack l = UInt8.ofNat (wordOf (l.take 8)) :: pack (l.drop 8) := by
  have hp : 0 < l.length := List.length_pos_iff.2 h
  unfold pack
  obtain ⟨n, hn⟩ : ∃ n, l.length = n + 1 := ⟨l.length - 1, by omega⟩
  rw [hn]
  simp only [packF, if_neg h]
  rw [packF_enough n (l.drop 8).length (l.drop 8) (by simp; omega) (by simp)]
theorem pack_byte (b : UInt8) (l : List Bool) : pack (bitsOf b.toNat 8 ++ l) = b :: pack l := by
  have h8 := bitsOf_length b.toNat 8
  rw [pack_step _ (by intro h; have := congrArg List.length h; simp [h8] at this)]
  rw [List.take_left' h8, List.drop_left' h8, wordOf_bitsOf, Nat.mod_eq_of_lt (by have := b.toNat_lt; omega)]
  simp
theorem pack_spread (bs : List UInt8) (l : List Bool) : pack (spread bs ++ l) = bs ++ pack l := by
  induction bs with
  | nil => rfl
  | cons b bs ih => simp only [spread, List.append_assoc, pack_byte, ih, List.cons_append]
theorem pack_few (l : List Bool) (h : l ≠ []) (h8 : l.length ≤ 8) : pack l = [UInt8.ofNat (wordOf l)] := by
  rw [pack_step l h, List.take_of_length_le h8, List.drop_eq_nil_of_le h8, pack_nil]
theorem pack_length (l : List Bool) : (pack l).length = (l.length + 7) / 8 := by
  generalize hn : l.length = n
  induction n using Nat.strongRecOn generalizing l with
  | _ n ih =>
    by_cases h : l = []
    · subst h; simp at hn; subst hn; rfl
    · have hp : 0 < l.length := List.length_pos_iff.2 h
      rw [pack_step l h, List.length_cons, ih (l.drop 8).length (by simp; omega) _ rfl]
      simp only [List.length_drop]; omega
/-- What bits are lacking of the last byte. -/
theorem spread_pack (l : List Bool) : ∃ k, k < 8 ∧ spread (pack l) = l ++ List.replicate k false ∧ (l.length + k) % 8 = 0 := by
  generalize hn : l.length = n
  induction n using Nat.strongRecOn generalizing l with
  | _ n ih =>
    by_cases h : l = []
    · subst h; simp at hn; subst hn; exact ⟨0, by omega, rfl, rfl⟩
    · have hp : 0 < l.length := List.length_pos_iff.2 h
      by_cases h8 : 8 ≤ l.length
      · obtain ⟨k, hk, e, hm⟩ := ih (l.drop 8).length (by simp; omega) (l.drop 8) rfl
        refine ⟨k, hk, ?_, by simp at hm; omega⟩
        rw [pack_step l h, spread, e]
        have hlt : wordOf (l.take 8) < 256 := by have := wordOf_lt (l.take 8); rw [List.length_take_of_le h8] at this; exact this
        rw [show (UInt8.ofNat (wordOf (l.take 8))).toNat = wordOf (l.take 8) from by simp; omega]
        have := bitsOf_wordOf (l.take 8)
        rw [List.length_take_of_le h8] at this
        rw [this, ← List.append_assoc, List.take_append_drop]
      · refine ⟨8 - l.length, by omega, ?_, by omega⟩
        have hlt : wordOf l < 2 ^ l.length := wordOf_lt l
        have hle : 2 ^ l.length ≤ 2 ^ 8 := Nat.pow_le_pow_right (by omega) (by omega)
        rw [pack_few l h (by omega), spread, spread, List.append_nil]
        rw [show (UInt8.ofNat (wordOf l)).toNat = wordOf l from by simp; omega]
        have e8 : 8 = l.length + (8 - l.length) := by omega
        conv => lhs; rw [e8]
        rw [bitsOf_add, bitsOf_wordOf, Nat.div_eq_of_lt hlt]
        congr 1
        generalize 8 - l.length = m
        clear e8
        induction m with
        | zero => rfl
        | succ m ih => simp [bitsOf, List.replicate_succ, ih]
end Go.Proofs.YtipcdkemokkdfaaGreat.Bits
namespace Go.Proofs.YtipcdkemokkdfaaGreat.Bits
theorem wordOf_spread_lt (bs : List UInt8) : wordOf (spread bs) < 2 ^ (8 * bs.length) := by have := wordOf_lt (spread bs); rwa [spread_length] at this
theorem wordOf_spread_snoc (bs : List UInt8) (b : UInt8) : wordOf (spread (bs ++ [b])) = wordOf (spread bs) + 2 ^ (8 * bs.length) * b.toNat := by
  rw [spread_append, wordOf_append, spread_length]
  simp only [spread, List.append_nil]
  rw [wordOf_bitsOf, Nat.mod_eq_of_lt (by have := b.toNat_lt; omega)]
theorem spread_take (bs : List UInt8) (n : Nat) : spread (bs.take n) = (spread bs).take (8 * n) := by
  induction n generalizing bs with
  | zero => simp [spread]
  | succ n ih =>
    cases bs with
    | nil => simp [spread]
    | cons b bs =>
      simp only [List.take_succ_cons, spread, ih]
      rw [List.take_append, bitsOf_length, List.take_of_length_le (l := bitsOf b.toNat 8) (by rw [bitsOf_length]; omega), show 8 * (n + 1) - 8 = 8 * n from by omega]
theorem spread_drop (bs : List UInt8) (n : Nat) : spread (bs.drop n) = (spread bs).drop (8 * n) := by
  induction n generalizing bs with
  | zero => simp
  | succ n ih =>
    cases bs with
    | nil => simp [spread]
    | cons b bs =>
      simp only [List.drop_succ_cons, spread, ih]
      rw [List.drop_append, bitsOf_length, List.drop_eq_nil_of_le («as» := bitsOf b.toNat 8) (by rw [bitsOf_length]; omega), List.nil_append, show 8 * (n + 1) - 8 = 8 * n from by omega]
/-- The word that a look at the next n bits tells: what lacks is 0. -/
def peek (l : List Bool) (n : Nat) : Nat := wordOf (l.take n)
theorem peek_lt (l : List Bool) (n : Nat) : peek l n < 2 ^ n := by
  have := wordOf_lt (l.take n)
  exact Nat.lt_of_lt_of_le this (Nat.pow_le_pow_right (by omega) (by simp; omega))
theorem mod_div_mod (W u n m : Nat) (h : u + n ≤ m) : W % 2 ^ m / 2 ^ u % 2 ^ n = W / 2 ^ u % 2 ^ n := by
  obtain ⟨k, rfl⟩ : ∃ k, m = u + n + k := ⟨m - (u + n), by omega⟩
  rw [Nat.pow_add, Nat.pow_add, Nat.mul_assoc, Nat.mod_mul_right_div_self, Nat.mod_mod_of_dvd _ ⟨2 ^ k, rfl⟩]
theorem peek_bytes (bs : List UInt8) (u n : Nat) (h : u + n ≤ 64) : wordOf (spread (bs.take 8)) / 2 ^ u % 2 ^ n = peek ((spread bs).drop u) n := by
  unfold peek
  rw [wordOf_take, wordOf_drop, spread_take, wordOf_take]
  exact mod_div_mod _ _ _ _ h
theorem spread_at (bs : List UInt8) (a : Nat) : (spread bs).drop a = (spread (bs.drop (a / 8))).drop (a % 8) := by
  rw [spread_drop, List.drop_drop]; congr 1; omega
end Go.Proofs.YtipcdkemokkdfaaGreat.Bits

/- Layers 1 and 2: the document's Bytes, of a row of bools. -/
namespace Go.Proofs.YtipcdkemokkdfaaGreat
open Go.ChangeShapes Go.WideShapes Go.ChangeAt Go.RowKit
set_option linter.unusedVariables false
set_option maxRecDepth 100000
open Bits

def cells8 (l : List UInt8) : List Value := l.map fun b => .int .u8 (b.toNat : Int)
theorem cells8_snoc (l : List UInt8) (b : UInt8) : cells8 l ++ [.int .u8 (b.toNat : Int)] = cells8 (l ++ [b]) := by simp [cells8]
theorem cells8_len (l : List UInt8) : (cells8 l).length = l.length := by simp [cells8]
theorem conv_own8 {P : Program} {w : World} {base n : Nat} {src dst e : TypeId} {v : Value} {l : List UInt8} (hs : P.underlying src = some (.slice e)) (he : P.underlying e = some (.int .u8)) (hd : P.underlying dst = some .string)
    (h : w.ownsRow base e 1 v n (cells8 l)) : (convert src dst v).run P w = .ok (.string ⟨l.toArray⟩) w := by
  have hl := h.1
  rw [cells8_len, Nat.mul_one] at hl
  rcases h.2 with ⟨rfl, h0⟩ | ⟨g, cap, cur, rfl, -, -, -, -, -, -⟩
  · have : l = [] := List.length_eq_zero_iff.1 (by omega)
    subst this
    rw [run_convert_bytes_string w src dst e none 0 0 hs he hd]
    first | rfl | (simp [Conv.bytesToString, Sem.run_pure, go_sem]; rfl) | simp [Conv.bytesToString, Sem.run_pure, go_sem]
  · subst hl
    exact run_convert_bytes_back (P := P) w src dst e ⟨g, 0, none⟩ cap l hs he hd (fun j hj => h.cells (g := g) rfl j _ (by simp [cells8, hj]))
/-- The bytes, with a byte for the next bit. -/
def opened (l : List Bool) : List UInt8 := if l.length % 8 = 0 then pack l ++ [0] else pack l
end Go.Proofs.YtipcdkemokkdfaaGreat

/- Layer 29: words on windows; New, held. -/
namespace Go.Proofs.YtipcdkemokkdfaaGreat
open Go.ChangeShapes Go.WideShapes Go.ChangeAt Go.RowKit
set_option linter.unusedVariables false
set_option maxRecDepth 100000
theorem append_str_block {P : Program} {w w' : World} {base : Nat} (t u ty e : TypeId) (i : TypeInfo) (ht : P.underlying t = some (.slice e)) (hu : P.underlying u = some .string) (hi : P.info? e = some i) (hz : i.zero = some (.int .u8 0))
    (hsize : i.size = 1) (hby : i.bytes = 1) (v v' : Value) (n : Nat) (xs : List Value) (hown : w.ownsRow base e 1 v n xs) (s : ByteArray) (h63 : n + s.size ≤ maxLen) (hbytes : n + s.size ≤ 140737488355328)
    (hr : (Builtin.append_ #[t, u] ty #[v, .string s]).run P w = .ok v' w') (h4 : v' = .slice none 0 0 ↔ v = .slice none 0 0 ∧ s.size = 0) : ∀ k, v'.ownBlock = some k → v.ownBlock = some k ∨ w.heap.size ≤ k := by
  have hsmall : n + s.size ≤ 9223372036854775807 := by simp only [maxLen] at h63; omega
  intro k hk
  rcases hown.2 with ⟨rfl, rfl⟩ | ⟨g, cap, cur, rfl, hbg, hg, hnc, hcm, hcs, htake⟩
  · by_cases hm : s.size = 0
    · rw [h4.2 ⟨rfl, hm⟩] at hk
      simp [Value.ownBlock] at hk
    · rw [run_append_nil_string (P := P) w t u ty e i (.int .u8 0) ht hu hi hz s (by omega) (by omega) (by rw [hby]; omega)] at hr
      simp only [Result.ok.injEq] at hr
      rw [← hr.1] at hk
      simp [Value.ownBlock] at hk
      right; omega
  · by_cases hroom : n + s.size ≤ cap
    · rw [Go.Lib.run_append_room_string (P := P) (w := w) t u ty e i ht hu hi hsize g n cap cur hg s hroom (by omega)] at hr
      simp only [Result.ok.injEq] at hr
      rw [← hr.1] at hk
      exact .inl hk
    · have holds : ∀ j u, xs[j]? = some u → w.cell? ((⟨g, 0, none⟩ : Addr).add j) = some u := hown.cells (g := g) rfl
      have hxl : xs.length = n := by simpa using hown.1
      rw [Go.Lib.run_append_grow_string (P := P) (w := w) t u ty e i (.int .u8 0) ht hu hi hz ⟨g, 0, none⟩ n cap xs (by rw [hsize]; omega) holds s (by omega) (by omega) (by rw [hby]; exact growslice_fits (by omega) (by omega))] at hr
      simp only [Result.ok.injEq] at hr
      rw [← hr.1] at hk
      simp [Value.ownBlock] at hk
      right; omega
theorem step_append_str {P : Program} {ops : Array Oper} {o : Oper} {a : Act} {w : World} {K : Act → World → Prop} {Q : Exit → Act → World → Prop} {E : Prop} (hgd : o.guard = none) (s x : Operand) (t u : TypeId)
    (ho : o.op = .call { callee := .builtin .append, args := #[s, x], argTypes := #[t, u] })
    (base : Nat) (e : TypeId) (i : TypeInfo) (ht : P.underlying t = some (.slice e)) (hu : P.underlying u = some .string) (hi : P.info? e = some i) (hz : i.zero = some (.int .u8 0))
    (hsize : i.size = 1) (hby : i.bytes = 1)
    (v : Value) (n : Nat) (xs : List Value) (hs : a.eval s = v) (hown : w.ownsRow base e 1 v n xs) (str : ByteArray) (hx : a.eval x = .string str)
    (h63 : n + str.size ≤ maxLen) (hbytes : n + str.size ≤ 140737488355328) (hbase : base ≤ w.heap.size)
    (h : ∀ v' w', w'.ownsRow base e 1 v' (n + str.size) (xs ++ Go.Lib.strCells str) → w.grownBy w' v.ownBlock → (∀ k, v'.ownBlock = some k → v.ownBlock = some k ∨ w.heap.size ≤ k) → K (a.put o.dst v') w') :
    if Region.wanted o (yielded ops a.tmps) = true then Oper.wp P o a w K Q else E := by
  have hw : Region.wanted o (yielded ops a.tmps) = true := by simp [Region.wanted, hgd]
  rw [if_pos hw]
  obtain ⟨v', w', hr, h2, h3, h4⟩ := Go.Lib.run_append_own_string (P := P) (w := w) base t u o.type e i ht hu hi hz hsize hby v n xs hown str h63 hbytes hbase
  unfold Oper.wp execOp
  simp only [ho, resolve, invoke, builtin, Sem.run_bind, Sem.run_pure, Result.andThen_ok, List.map_toArray, List.map_cons, List.map_nil, hs, hx, hr]
  exact h v' w' h2 h3 (append_str_block t u o.type e i ht hu hi hz hsize hby v v' n xs hown str h63 hbytes hr h4)
/-- The last k of a row. -/
def lastN {α : Type} (k : Nat) (l : List α) : List α := l.drop (l.length - k)
theorem lastN_len {α : Type} (k : Nat) (l : List α) : (lastN k l).length = min l.length k := by unfold lastN; rw [List.length_drop]; omega
theorem lastN_all {α : Type} (k : Nat) (l : List α) (h : l.length ≤ k) : lastN k l = l := by unfold lastN; rw [Nat.sub_eq_zero_of_le h]; rfl
theorem lastN_append {α : Type} (k : Nat) (a b : List α) : lastN k (a ++ b) = lastN k (lastN k a ++ b) := by
  unfold lastN
  rw [List.length_append, List.length_append, List.length_drop, List.drop_append, List.drop_append, List.length_drop, List.drop_drop]
  congr 2 <;> omega
theorem lastN_lastN {α : Type} (k m : Nat) (l : List α) (h : k ≤ m) : lastN k (lastN m l) = lastN k l := by
  unfold lastN
  rw [List.length_drop, List.drop_drop]
  congr 1; omega
theorem lastN_right {α : Type} (k : Nat) (a b : List α) : lastN k (a ++ lastN k b) = lastN k (a ++ b) := by
  by_cases h : b.length ≤ k
  · rw [lastN_all k b h]
  · have e1 : lastN k (a ++ b) = lastN k b := by
      unfold lastN
      rw [List.length_append, List.drop_append, List.drop_eq_nil_of_le (by omega), List.nil_append]
      congr 1; omega
    rw [e1]
    have hl := lastN_len k b
    unfold lastN at hl ⊢
    rw [List.length_append, List.drop_append, hl, List.drop_eq_nil_of_le (by omega), List.nil_append, List.drop_drop]
    congr 1; omega
/-- A window: its block, and the row of its bytes. -/
def Win (w : World) (g B size : Nat) (v : Value) (all : List UInt8) : Prop :=
  w.heap[g]? = some (.cells #[.int .i64 size, v] 45 (0, 0)) ∧ w.ownsRow B 5 1 v all.length (cells8 all) ∧ B ≤ w.heap.size ∧ 1 ≤ size ∧ size ≤ 67108864
theorem Win.lt {w : World} {g B size : Nat} {v : Value} {all : List UInt8} (h : Win w g B size v all) : g < w.heap.size := block_lt h.1
theorem Win.facts {w : World} {g B size : Nat} {v : Value} {all : List UInt8} (h : Win w g B size v all) : g < w.heap.size ∧ w.cell? ⟨g, 0, none⟩ = some (.int .i64 size) ∧ w.cell? ⟨g, 1, none⟩ = some v ∧ w.frozen? ⟨g, 1, none⟩ = false :=
  ⟨block_lt h.1, cell_in h.1 0, cell_in h.1 1, free_in h.1 1⟩
theorem Win.slice {w : World} {g B size : Nat} {v : Value} {all : List UInt8} (h : Win w g B size v all) : ∃ a c, v = .slice a all.length c ∧ all.length ≤ c ∧ c ≤ maxLen ∧ (all = [] ∨ ∃ b, a = some ⟨b, 0, none⟩ ∧ b < w.heap.size ∧ ∀ j, j < all.length → w.cell? ⟨b, j, none⟩ = some (.int .u8 ((all.getD j 0).toNat : Int))) := by
  rcases h.2.1.2 with ⟨hv, h0⟩ | ⟨b, cap, cur, hv, hB, hb, hn, hm, -, -⟩
  · exact ⟨none, 0, by rw [hv, h0], by omega, by unfold maxLen; omega, .inl (List.length_eq_zero_iff.1 h0)⟩
  · subst hv
    refine ⟨_, cap, rfl, hn, hm, .inr ⟨b, rfl, block_lt hb, fun j hj => ?_⟩⟩
    rw [h.2.1.cellAt j (by omega)]
    unfold cells8
    simp [List.getD_eq_getElem?_getD, hj]
theorem wnNew (n : Int) (w : World) (h : 1 ≤ n ∧ n ≤ 67108864) : Calls Tryz.prog 5 #[.int .i64 n] w fun e w' => e = .returned (.tuple #[.pointer (some ⟨w.heap.size, 0, none⟩), .int .i64 0]) ∧ Win w' w.heap.size w.heap.size n.toNat (.slice none 0 0) [] ∧ Below w.heap.size w w' ∧ w'.heap.size = w.heap.size + 1 := by
  obtain ⟨n, rfl⟩ : ∃ m : Nat, n = m := ⟨n.toNat, by omega⟩
  obtain ⟨h1, h2⟩ := h
  rw [Int.toNat_natCast]
  go_enter Tryz.func5, Tryz.ntmps5
  go_wp2
  go_ret2
  exact ⟨rfl, ⟨heap_alloc_new _ _, World.ownsRow_nil _ _ _ _, by simp, by omega, by omega⟩, by go_grown, by simp⟩
theorem wnHave (w : World) (g B size : Nat) (v : Value) (all : List UInt8) (h : Win w g B size v all) : Calls Tryz.prog 59 #[.pointer (some ⟨g, 0, none⟩)] w fun e w' => e = .returned (.int .i64 ((lastN size all).length : Nat)) ∧ ∃ k, w' = w.drewN k := by
  obtain ⟨hgl, c0, c1, -⟩ := h.facts
  obtain ⟨a, c, rfl, hc, hm, -⟩ := h.slice
  have HE := Lib.hid (show min (all.length : Int) size = ((lastN size all).length : Nat) by rw [lastN_len]; omega)
  clear h
  go_enter Tryz.func59, Tryz.ntmps59
  go_wp2_with fail
  go_region
  all_goals go_wp2_with fail
  all_goals go_ret
  all_goals exact ⟨ret_i (by rw [← HE.out]; omega), 1, rfl⟩
theorem Win.drewN {w : World} {g B size : Nat} {v : Value} {all : List UInt8} (h : Win w g B size v all) (n : Nat) : Win (w.drewN n) g B size v all := h
theorem wnHeldBig (w : World) (g B size b c : Nat) (all : List UInt8) (h : Win w g B size (.slice (some ⟨b, 0, none⟩) all.length c) all) (hb : size < all.length) : Calls Tryz.prog 12 #[.pointer (some ⟨g, 0, none⟩)] w fun e w' => e = .returned (.slice (some ⟨b, all.length - size, none⟩) size size) ∧ ∃ k, w' = w.drewN k := by
  obtain ⟨hgl, c0, c1, -⟩ := h.facts
  obtain ⟨a, c', hv, hc, hm, -⟩ := h.slice
  simp only [Value.slice.injEq, true_and] at hv
  obtain ⟨rfl, rfl⟩ := hv
  have h1 := h.2.2.2.1
  have h2 := h.2.2.2.2
  unfold maxLen at hm
  have HB := Lib.hid (show all.length - (all.length - size) = size by omega)
  clear h
  go_enter Tryz.func12, Tryz.ntmps12
  go_wp2_with fail
  go_region
  all_goals go_wp2_with fail
  all_goals go_ret
  all_goals exact ⟨by show Ending.returned (.slice _ (all.length - (all.length - size)) (all.length - (all.length - size))) = _; rw [HB.out], 1, rfl⟩
theorem wnHeldSmall (w : World) (g B size : Nat) (a : Option Addr) (c : Nat) (all : List UInt8) (h : Win w g B size (.slice a all.length c) all) (hb : all.length ≤ size) : Calls Tryz.prog 12 #[.pointer (some ⟨g, 0, none⟩)] w fun e w' => e = .returned (.slice a all.length all.length) ∧ ∃ k, w' = w.drewN k := by
  obtain ⟨hgl, c0, c1, -⟩ := h.facts
  obtain ⟨a', c', hv, hc, hm, hnil⟩ := h.slice
  simp only [Value.slice.injEq, true_and] at hv
  obtain ⟨rfl, rfl⟩ := hv
  have h1 := h.2.2.2.1
  have h2 := h.2.2.2.2
  unfold maxLen at hm
  clear h hnil
  go_enter Tryz.func12, Tryz.ntmps12
  go_wp2_with fail
  go_region
  all_goals go_wp2_with fail
  all_goals go_ret
  all_goals exact ⟨rfl, 1, rfl⟩
theorem keeps_setRow {w : World} {g : Nat} (cs : Array Value) : Keeps (fun k => k = g) w (w.setRow g cs) :=
  ⟨rfl, rfl, rfl, by simp [World.setRow], fun k hk hn => by
    show (w.heap.modify g _)[k]? = _
    rw [Array.getElem?_modify, if_neg (fun e => hn e.symm)]⟩
theorem step_copy_keep {P : Program} {ops : Array Oper} {o : Oper} {a : Act} {w : World} {K : Act → World → Prop} {Q : Exit → Act → World → Prop} {E : Prop} (hgd : o.guard = none) (d s : Operand) (dT sT : TypeId)
    (ho : o.op = .call { callee := .builtin .copy, args := #[d, s], argTypes := #[dT, sT] }) (elem : TypeId) (hu : P.underlying dT = some (.slice elem)) (hsz : (P.info? elem).map (·.size) = some 1)
    (g off : Nat) (ad : Addr) (dLen dCap sLen sCap : Nat) (hd : a.eval d = .slice (some ⟨g, off, none⟩) dLen dCap) (hs : a.eval s = .slice (some ad) sLen sCap)
    (cur : List Value) (t : TypeId) (hg : w.heap[g]? = some (.cells cur.toArray t (0, 0))) (cs : List Value) (hn : cs.length = Nat.min sLen dLen)
    (hsrc : ∀ j v, cs[j]? = some v → w.cell? (ad.add j) = some v)
    (hfit : off + cs.length ≤ cur.length) (h1 : ∀ v ∈ cs, v.oneCell' = true)
    (h : ∀ w', Hid (w'.heap[g]? = some (.cells (cur.take off ++ cs ++ cur.drop (off + cs.length)).toArray t (0, 0))) → Keeps (fun k => k = g) w w' → w'.heap.size = w.heap.size → K (a.put o.dst (goInt cs.length)) w') :
    if Region.wanted o (yielded ops a.tmps) = true then Oper.wp P o a w K Q else E := by
  have hw : Region.wanted o (yielded ops a.tmps) = true := by simp [Region.wanted, hgd]
  rw [if_pos hw]
  have hrun := run_copy_row (P := P) w dT sT o.type elem g off dLen dCap ad sLen sCap cur.toArray t cs hu hsz hg hn hsrc (by simpa using hfit) h1
  unfold Oper.wp
  simp only [execOp, ho, resolve, invoke, builtin, hd, hs, Sem.run_bind, Sem.run_pure, Result.andThen_ok, List.map_toArray, List.map_cons, List.map_nil, hrun]
  exact h _ (show _ = _ by simpa using setRow_heap w g _ _ t _ hg) (keeps_setRow _) (by simp [World.setRow])
end Go.Proofs.YtipcdkemokkdfaaGreat

/- Layer 29: drop. -/
namespace Go.Proofs.YtipcdkemokkdfaaGreat
open Go.ChangeShapes Go.WideShapes Go.ChangeAt Go.RowKit
set_option linter.unusedVariables false
set_option maxRecDepth 100000
theorem cells8_one (l : List UInt8) : ∀ u ∈ cells8 l, u.oneCell' = true := by
  intro u hu
  unfold cells8 at hu
  obtain ⟨z, -, rfl⟩ := List.mem_map.1 hu
  rfl
def feet (g : Nat) (v : Value) : Nat → Prop := fun k => k = g ∨ v.ownBlock = some k
def DropPost (w : World) (g B size : Nat) (v : Value) (all : List UInt8) (e : Ending) (w' : World) : Prop :=
  e = .returned (.tuple #[]) ∧ ∃ v' all', Win w' g B size v' all' ∧ lastN size all' = lastN size all ∧ all'.length ≤ 2 * size + 258 ∧ (∀ k, v'.ownBlock = some k → v.ownBlock = some k) ∧ Keeps (feet g v) w w'
theorem wnDropNo (w : World) (g B size : Nat) (v : Value) (all : List UInt8) (h : Win w g B size v all) (hb : all.length ≤ 2 * size + 258) : Calls Tryz.prog 11 #[.pointer (some ⟨g, 0, none⟩)] w (DropPost w g B size v all) := by
  obtain ⟨hgl, c0, c1, -⟩ := h.facts
  obtain ⟨a', c', hv, hc, hm, hnil⟩ := h.slice
  subst hv
  have h1 := h.2.2.2.1
  have h2 := h.2.2.2.2
  unfold maxLen at hm
  have HW := Lib.hid h
  have hb' : ¬ (2 * (size : Int) + 258 < (all.length : Int)) := by omega
  clear h hnil
  go_enter Tryz.func11, Tryz.ntmps11
  go_wp2_with fail
  go_region
  all_goals go_wp2_with fail
  all_goals go_end0
  all_goals exact ⟨rfl, _, all, HW.out, rfl, hb, fun k h => h, (Keeps.refl _ _).drewN 1⟩
theorem drop_close {w w4 : World} {g B size b c q : Nat} {all : List UInt8} {cur : Array Value} (h : Win w g B size (.slice (some ⟨b, 0, none⟩) all.length c) all) (hcs : cur.size = c) (hlen : (lastN size all).length = size) (hBb : B ≤ b) (hgb : ¬ g = b) (hsc : size ≤ c) (hm : c ≤ 2 ^ 63 - 1)
    (hg4 : w4.heap[b]? = some (.cells (cur.toList.take 0 ++ cells8 (lastN size all) ++ cur.toList.drop (0 + (cells8 (lastN size all)).length)).toArray 5 (0, 0))) (hk4 : Keeps (fun k => k = b) (w.drewN q) w4) :
    DropPost w g B size (.slice (some ⟨b, 0, none⟩) all.length c) all (.returned (.tuple #[])) (w4.setCell ⟨g, 1, none⟩ (.slice (some ⟨b, 0, none⟩) size c)) := by
  have hg : w4.heap[g]? = some (.cells #[.int .i64 size, .slice (some ⟨b, 0, none⟩) all.length c] 45 (0, 0)) := hk4.heap (show (w.drewN q).heap[g]? = _ from h.1) hgb
  refine ⟨rfl, .slice (some ⟨b, 0, none⟩) size c, lastN size all, ⟨?_, ?_, ?_, h.2.2.2.1, h.2.2.2.2⟩, lastN_lastN _ _ _ (Nat.le_refl _), by omega, fun k hk => hk, ?_⟩
  · exact block_set hg 1 _
  · rw [hlen]
    refine ⟨by rw [cells8_len, hlen]; omega, .inr ⟨b, c, _, rfl, hBb, (Below.heap_setCell _ _ _ _ (fun e => hgb e.symm)).trans hg4, hsc, hm, ?_, ?_⟩⟩
    · simp [cells8_len, hlen, hcs]; omega
    · simp only [List.take_zero, List.nil_append]
      rw [List.take_append_of_le_length (by rw [cells8_len, hlen]; omega), List.take_of_length_le (by rw [cells8_len, hlen]; omega)]
  · have h1 := h.2.2.1
    have h2 := hk4.size
    show B ≤ (w4.setCell _ _).heap.size
    simp only [World.drewN] at h2
    simp
    exact Nat.le_trans h1 h2
  · exact (((Keeps.refl _ w).drewN q).trans (hk4.mono (fun k _ e => .inr (by rw [e]; rfl)))).setCell (p := ⟨g, 1, none⟩) (.inr (.inl rfl)) _
theorem wnDropYes (w : World) (g B size b c : Nat) (all : List UInt8) (h : Win w g B size (.slice (some ⟨b, 0, none⟩) all.length c) all) (hb : 2 * size + 258 < all.length) : Calls Tryz.prog 11 #[.pointer (some ⟨g, 0, none⟩)] w (DropPost w g B size (.slice (some ⟨b, 0, none⟩) all.length c) all) := by
  obtain ⟨hgl, c0, c1, f1⟩ := h.facts
  obtain ⟨a', c', hv, hc, hm, hnil⟩ := h.slice
  simp only [Value.slice.injEq, true_and] at hv
  obtain ⟨rfl, rfl⟩ := hv
  have h1 := h.2.2.2.1
  have h2 := h.2.2.2.2
  have hbg : b ≠ g := fun e => own_ne h.2.1 h.1 (by decide) (by rw [e]; rfl)
  rcases h.2.1.2 with ⟨hv, -⟩ | ⟨b', cap, cur, hv, hBb, hcur, hn, hm2, hcs, htk⟩
  · simp at hv
  simp only [Value.slice.injEq, Option.some.injEq, Addr.mk.injEq, true_and, and_true] at hv
  obtain ⟨rfl, rfl⟩ := hv
  have hlen := lastN_len size all
  rw [Nat.min_eq_right (by omega)] at hlen
  have HC := Lib.hid (show w.heap[b]? = some (.cells cur.toList.toArray 5 (0, 0)) by rw [hcur])
  have HCU := Lib.hid hcur
  have hgb : ¬ g = b := fun e => hbg e.symm
  have hone := Lib.hid (cells8_one (lastN size all))
  have HN := Lib.hid (show (cells8 (lastN size all)).length = Nat.min size all.length by rw [cells8_len, hlen]; exact (Nat.min_eq_left (by omega)).symm)
  have HS := Lib.hid (show ∀ W : World, W.heap[b]? = some (.cells cur 5 (0, 0)) → ∀ j u, (cells8 (lastN size all))[j]? = some u → W.cell? ((⟨b, all.length - size, none⟩ : Addr).add j) = some u by
    intro W hW j u hj
    have hjl : j < size := by have := (List.getElem?_eq_some_iff.1 hj).1; rw [cells8_len, hlen] at this; exact this
    have e1 : ((⟨b, all.length - size, none⟩ : Addr).add j) = ⟨b, all.length - size + j, none⟩ := by unfold Addr.add; split <;> simp_all
    rw [e1, cell_in hW, ← hj]
    have h3 : (cells8 all)[all.length - size + j]? = cur[all.length - size + j]? := by
      rw [← htk, List.getElem?_take_of_lt (by omega), Array.getElem?_toList]
    rw [← h3]
    unfold cells8 lastN
    rw [List.getElem?_map, List.getElem?_map, List.getElem?_drop])
  have HF := Lib.hid (show 0 + (cells8 (lastN size all)).length ≤ cur.toList.length by rw [cells8_len, hlen, Array.length_toList, hcs]; omega)
  have hcell := Lib.hid (show cur.size = c by rw [hcs]; omega)
  have HL := Lib.hid hlen
  have HGI := Lib.hid (show goInt (cells8 (lastN size all)).length = .int .i64 size by rw [cells8_len, hlen]; rfl)
  have HW := Lib.hid h
  have HH := Lib.hid (fun W (hW : Win W g B size (.slice (some ⟨b, 0, none⟩) all.length c) all) => wnHeldBig W g B size b c all hW (by omega))
  have HH2 := Lib.hid (HH.out w.drew.drew HW.out)
  have hsc : size ≤ c := by omega
  have hb' : (2 * (size : Int) + 258 < (all.length : Int)) := by omega
  unfold maxLen at hm
  clear h hnil hcur htk hcs hlen hm2
  go_enter Tryz.func11, Tryz.ntmps11
  go_wp2_with fail
  go_region
  all_goals go_wp2_with fail
  go_region_law (first | (refine step_copy_keep (P := Tryz.prog) rfl (.tmp 22) (.tmp 24) 43 43 rfl 5 Tryz.underlying43 (by kernel_rfl) b 0 ⟨b, all.length - size, none⟩ all.length c size size ?hd ?hs cur.toList 5 HC.out (cells8 (lastN size all)) HN.out (HS.out _ HCU.out) HF.out hone.out ?_; (case hd => go_simp); (case hs => go_simp); intro w4 hg4 hk4 hz4; rw [HGI.out]; have c14 := (hk4.cell (p := ⟨g, 1, none⟩) hgl hgb).trans c1; have f14 := (hk4.frozen (p := ⟨g, 1, none⟩) hgl hgb).trans f1) | (go_simp; go_at_call 12; refine HH2.out.mono ?_; rintro e w3 ⟨rfl, k3, rfl⟩))
  all_goals go_end0
  all_goals exact drop_close HW.out hcell.out HL.out hBb hgb hsc hm hg4.out hk4
theorem wnDrop (w : World) (g B size : Nat) (v : Value) (all : List UInt8) (h : Win w g B size v all) : Calls Tryz.prog 11 #[.pointer (some ⟨g, 0, none⟩)] w (DropPost w g B size v all) := by
  by_cases hb : 2 * size + 258 < all.length
  · obtain ⟨a, c, hv, -, -, hnil⟩ := h.slice
    subst hv
    rcases hnil with rfl | ⟨b, rfl, -⟩
    · simp at hb
    · exact wnDropYes w g B size b c all h hb
  · exact wnDropNo w g B size v all h (by omega)
end Go.Proofs.YtipcdkemokkdfaaGreat

/- Layer 29: Put, Last. -/
namespace Go.Proofs.YtipcdkemokkdfaaGreat
open Go.ChangeShapes Go.WideShapes Go.ChangeAt Go.RowKit
set_option linter.unusedVariables false
set_option maxRecDepth 100000
def WinPost (w : World) (g B size : Nat) (v : Value) (H : List UInt8) (w' : World) : Prop :=
  ∃ v' all', Win w' g B size v' all' ∧ lastN size all' = H ∧ all'.length ≤ 2 * size + 258 ∧ (∀ k, v'.ownBlock = some k → v.ownBlock = some k ∨ w.heap.size ≤ k) ∧ Keeps (feet g v) w w'
theorem ext_last (s : ByteArray) (k : Nat) (h : k ≤ s.size) : (s.extract (s.size - k) s.size).data.toList = lastN k s.data.toList ∧ (s.extract (s.size - k) s.size).size = k := by
  have hl : s.data.toList.length = s.size := by simp
  refine ⟨?_, by simp; omega⟩
  unfold lastN
  rw [hl]
  simp [ByteArray.data_extract, Array.toList_extract]
  rw [List.take_of_length_le (by simp)]
theorem ext_all (s : ByteArray) : s.extract 0 s.size = s := by simp
theorem strCells8 (s : ByteArray) : Go.Lib.strCells s = cells8 s.data.toList := rfl
theorem cells8_app (a b : List UInt8) : cells8 a ++ cells8 b = cells8 (a ++ b) := by unfold cells8; rw [List.map_append]
theorem put_close {w w1 w' : World} {g B size : Nat} {v v1 : Value} {all t : List UInt8} {e : Ending} (h : Win w g B size v all) (hown : w1.ownsRow B 5 1 v1 (all.length + t.length) (cells8 all ++ cells8 t)) (hgr : w.drew.grownBy w1 v.ownBlock) (hv1 : ∀ k, v1.ownBlock = some k → v.ownBlock = some k ∨ w.heap.size ≤ k)
    (hd : DropPost (w1.setCell ⟨g, 1, none⟩ v1) g B size v1 (all ++ t) e w') : e = .returned (.tuple #[]) ∧ WinPost w g B size v (lastN size (all ++ t)) w' := by
  obtain ⟨he, v', all', hW, hH, hl, hf, hk⟩ := hd
  have hsz := hgr.size
  refine ⟨he, v', all', hW, hH, hl, fun k hk' => hv1 k (hf k hk'), ?_⟩
  have k1 : Keeps (feet g v) w (w1.setCell ⟨g, 1, none⟩ v1) := (((Keeps.refl _ w).drew).grown hgr (fun k e => .inr (.inr e))).setCell (p := ⟨g, 1, none⟩) (.inr (.inl rfl)) _
  refine k1.trans' hk (fun j hj hs => ?_)
  rcases hs with rfl | hs
  · exact .inl rfl
  · rcases hv1 j hs with h2 | h2
    · exact .inr h2
    · omega
theorem put_win {w w1 : World} {g B size : Nat} {v v1 : Value} {all t : List UInt8} (h : Win w g B size v all) (hown : w1.ownsRow B 5 1 v1 (all.length + t.length) (cells8 all ++ cells8 t)) (hgr : w.drew.grownBy w1 v.ownBlock) : Win (w1.setCell ⟨g, 1, none⟩ v1) g B size v1 (all ++ t) := by
  have hg : w1.heap[g]? = some (.cells #[.int .i64 size, v] 45 (0, 0)) := grown_heap hgr (show w.drew.heap[g]? = _ from h.1) (own_ne h.2.1 h.1 (by decide))
  have hne := own_ne hown hg (by decide)
  refine ⟨block_set hg 1 _, ?_, by have := hgr.size; simp; exact Nat.le_trans h.2.2.1 this, h.2.2.2.1, h.2.2.2.2⟩
  rw [cells8_app, ← List.length_append] at hown
  exact ownsRow_setCell_other hown (a := ⟨g, 1, none⟩) hne v1
set_option maxHeartbeats 1600000 in
theorem wnPut (w : World) (g B size : Nat) (v : Value) (all : List UInt8) (s : ByteArray) (h : Win w g B size v all) (hs : s.size ≤ 9223372036854775807) (hl : all.length ≤ 2 * size + 258) :
    Calls Tryz.prog 6 #[.pointer (some ⟨g, 0, none⟩), .string s] w fun e w' => e = .returned (.tuple #[]) ∧ WinPost w g B size v (lastN size (all ++ s.data.toList)) w' := by
  obtain ⟨hgl, c0, c1, f1⟩ := h.facts
  obtain ⟨a', c', hv, hc, hm, hnil⟩ := h.slice
  have h1 := h.2.2.2.1
  have h2 := h.2.2.2.2
  obtain ⟨i0, hi, hz0, hz1, hz2⟩ := info_get (show (Tryz.prog.info? 5).map (fun i => (i.zero, i.size, i.bytes)) = some (some (.int .u8 0), 1, 1) by kernel_rfl)
  rw [← lastN_right]
  by_cases hlt : size < s.size
  · obtain ⟨hS1, hS2⟩ := ext_last s size (by omega)
    rw [← hS1]
    have hw1 : IntKind.i64.wrap ((s.size : Int) - size) = (s.size : Int) - size := IntWalk.i64_in _ (by omega)
    have hw2 : 0 ≤ (s.size : Int) - size := by omega
    have hw3 : ((s.size : Int) - size).toNat = s.size - size := by omega
    have hw4 : (s.size : Int) - size ≤ s.size := by omega
    have hw5 : size ≤ s.size := by omega
    obtain ⟨S, hS⟩ : ∃ S, s.extract (s.size - size) s.size = S := ⟨_, rfl⟩
    rw [hS] at hS2 ⊢
    clear hS1
    have hSz : S.size ≤ 67108864 := by omega
    have HS2 := Lib.hid hS2
    have HS63 := Lib.hid (show all.length + S.size ≤ maxLen by unfold maxLen; omega)
    have HSby := Lib.hid (show all.length + S.size ≤ 140737488355328 by omega)
    have HB := Lib.hid h.2.2.1
    have HW := Lib.hid h
    have HG := Lib.hid (show ∀ w1, w.drew.grownBy w1 v.ownBlock → w1.cell? ⟨g, 1, none⟩ = some v ∧ w1.frozen? ⟨g, 1, none⟩ = false from fun w1 hgr => by
      have hg : w1.heap[g]? = some (.cells #[.int .i64 size, v] 45 (0, 0)) := grown_heap hgr (show w.drew.heap[g]? = _ from h.1) (own_ne h.2.1 h.1 (by decide))
      exact ⟨cell_in hg 1, free_in hg 1⟩)
    subst hv
    clear h hnil hl hS2
    go_enter Tryz.func6, Tryz.ntmps6
    go_wp2_with fail
    go_region_law (refine step_append_str (P := Tryz.prog) rfl (.tmp 10) (.tmp 22) 43 9 rfl B 5 i0 Tryz.underlying43 Tryz.underlying9 hi hz0 hz1 hz2 _ all.length (cells8 all) ?hd HW.out.2.1 S ?hs HS63.out HSby.out HB.out ?_; (case hd => go_simp); (case hs => go_simp); intro v1 w1 hown1 hgr1 hbk1; obtain ⟨a1, d1, rfl⟩ := own_slice hown1; obtain ⟨c11, f11⟩ := HG.out w1 hgr1)
    all_goals
      have HPW := Lib.hid (put_win (t := S.data.toList) HW.out (by rw [show S.data.toList.length = S.size by simp, ← strCells8]; exact hown1) hgr1)
      have HPC := Lib.hid (fun e w' hd => put_close (e := e) (w' := w') (t := S.data.toList) HW.out (by rw [show S.data.toList.length = S.size by simp, ← strCells8]; exact hown1) hgr1 hbk1 hd)
      simp only [Exit.then]
      rename_i hK
      refine hK _ _ ?_
      clear hK hown1 hgr1 hbk1 HG c11 f11
      go_wp2_with fail
      refine (wnDrop _ g B size _ _ HPW.out).mono ?_; rintro e w5 hd
      have hd2 := HPC.out _ _ hd
      obtain ⟨he, hp⟩ := hd2
      subst he
      clear hd HPC HPW
      go_wp2_with fail
      go_end0
      exact ⟨rfl, hp⟩
  · rw [lastN_all size s.data.toList (by simp; omega)]
    have hS2 : s.size ≤ size := by omega
    have hw0 : IntKind.i64.wrap 0 = 0 := rfl
    have hS := ext_all s
    have hSz : s.size ≤ 67108864 := by omega
    have HS2 := Lib.hid hS2
    have HS63 := Lib.hid (show all.length + s.size ≤ maxLen by unfold maxLen; omega)
    have HSby := Lib.hid (show all.length + s.size ≤ 140737488355328 by omega)
    have HB := Lib.hid h.2.2.1
    have HW := Lib.hid h
    have HG := Lib.hid (show ∀ w1, w.drew.grownBy w1 v.ownBlock → w1.cell? ⟨g, 1, none⟩ = some v ∧ w1.frozen? ⟨g, 1, none⟩ = false from fun w1 hgr => by
      have hg : w1.heap[g]? = some (.cells #[.int .i64 size, v] 45 (0, 0)) := grown_heap hgr (show w.drew.heap[g]? = _ from h.1) (own_ne h.2.1 h.1 (by decide))
      exact ⟨cell_in hg 1, free_in hg 1⟩)
    subst hv
    clear h hnil hl hS2
    go_enter Tryz.func6, Tryz.ntmps6
    go_wp2_with fail
    go_region_law (refine step_append_str (P := Tryz.prog) rfl (.tmp 10) (.tmp 22) 43 9 rfl B 5 i0 Tryz.underlying43 Tryz.underlying9 hi hz0 hz1 hz2 _ all.length (cells8 all) ?hd HW.out.2.1 s ?hs HS63.out HSby.out HB.out ?_; (case hd => go_simp); (case hs => go_simp); intro v1 w1 hown1 hgr1 hbk1; obtain ⟨a1, d1, rfl⟩ := own_slice hown1; obtain ⟨c11, f11⟩ := HG.out w1 hgr1)
    all_goals
      have HPW := Lib.hid (put_win (t := s.data.toList) HW.out (by rw [show s.data.toList.length = s.size by simp, ← strCells8]; exact hown1) hgr1)
      have HPC := Lib.hid (fun e w' hd => put_close (e := e) (w' := w') (t := s.data.toList) HW.out (by rw [show s.data.toList.length = s.size by simp, ← strCells8]; exact hown1) hgr1 hbk1 hd)
      simp only [Exit.then]
      rename_i hK
      refine hK _ _ ?_
      clear hK hown1 hgr1 hbk1 HG c11 f11
      go_wp2_with fail
      refine (wnDrop _ g B size _ _ HPW.out).mono ?_; rintro e w5 hd
      have hd2 := HPC.out _ _ hd
      obtain ⟨he, hp⟩ := hd2
      subst he
      clear hd HPC HPW
      go_wp2_with fail
      go_end0
      exact ⟨rfl, hp⟩
theorem getD_lt (l : List UInt8) (j : Nat) (h : j < l.length) : l.getD j 0 = l[j] := by simp [List.getD_eq_getElem?_getD, h]
theorem lastN_getD (n : Nat) (l : List UInt8) (j : Nat) : (lastN n l).getD j 0 = l.getD (l.length - n + j) 0 := by unfold lastN; simp [List.getD_eq_getElem?_getD]
def sOf (l : List UInt8) : ByteArray := ⟨l.toArray⟩
theorem wnLastFew (w : World) (g B size : Nat) (v : Value) (all : List UInt8) (n : Int) (h : Win w g B size v all) (hn : n < 1) : Calls Tryz.prog 7 #[.pointer (some ⟨g, 0, none⟩), .int .i64 n] w fun e w' => e = .returned (.string (sOf [])) ∧ ∃ k, w' = w.drewN k := by
  clear h
  go_enter Tryz.func7, Tryz.ntmps7
  go_wp2
  go_ret
  exact ⟨rfl, 0, rfl⟩
theorem wnLast (w : World) (g B size : Nat) (v : Value) (all : List UInt8) (n : Nat) (h : Win w g B size v all) (hn : 1 ≤ n) (hl : all.length ≤ 2 * size + 258) : Calls Tryz.prog 7 #[.pointer (some ⟨g, 0, none⟩), .int .i64 n] w fun e w' => e = .returned (.string (sOf (lastN n (lastN size all)))) ∧ ∃ k, w' = w.drewN k := by
  have h1 := h.2.2.2.1
  have h2 := h.2.2.2.2
  obtain ⟨a, c, hv, hc, hm, hnil⟩ := h.slice
  subst hv
  have hH := lastN_len size all
  have hH2 := lastN_len n (lastN size all)
  have CH : Hid (∃ a2 c2, Calls Tryz.prog 12 #[.pointer (some ⟨g, 0, none⟩)] w (fun e w' => e = .returned (.slice a2 (lastN size all).length c2) ∧ ∃ k, w' = w.drewN k) ∧ c2 = (lastN size all).length ∧ (lastN size all = [] ∨ ∃ b o, a2 = some ⟨b, o, none⟩ ∧ ∀ j, j < (lastN size all).length → w.cell? ⟨b, o + j, none⟩ = some (.int .u8 (((lastN size all).getD j 0).toNat : Int)))) := by
    rcases hnil with rfl | ⟨b, rfl, hb, hcell⟩
    · rw [lastN_all size [] (by simp)]
      exact ⟨a, 0, wnHeldSmall w g B size a c [] h (by simp), rfl, .inl rfl⟩
    · by_cases hlt : size < all.length
      · refine ⟨some ⟨b, all.length - size, none⟩, size, (wnHeldBig w g B size b c all h hlt).mono (fun e w' hh => by rw [hH, Nat.min_eq_right (by omega)]; exact hh), by omega, .inr ⟨b, _, rfl, fun j hj => ?_⟩⟩
        rw [hcell _ (by omega)]
        unfold lastN
        simp [List.getD_eq_getElem?_getD]
      · rw [lastN_all size all (by omega)]
        refine ⟨some ⟨b, 0, none⟩, all.length, wnHeldSmall w g B size (some ⟨b, 0, none⟩) c all h (by omega), rfl, .inr ⟨b, 0, rfl, fun j hj => ?_⟩⟩
        rw [Nat.zero_add]; exact hcell j hj
  obtain ⟨a2, c2, C, rfl, hcell⟩ := CH.out
  have HC := Lib.hid C
  obtain ⟨H, hHd⟩ : ∃ H, lastN size all = H := ⟨_, rfl⟩
  rw [hHd] at HC hcell hH hH2 ⊢
  have hHl : H.length ≤ 67108864 := by omega
  have HL := Lib.hid hH2
  clear CH C h hnil hHd hH hH2
  by_cases hlt : n < H.length
  · rcases hcell with rfl | ⟨b, o, rfl, hc2⟩
    · simp at hlt
    have hll := HL.out
    rw [Nat.min_eq_right (by omega)] at hll
    have hcv : ∀ k, (convert 43 9 (.slice (some ⟨b, o + (H.length - n), none⟩) (H.length - (H.length - n)) (H.length - (H.length - n)))).run Tryz.prog (w.drewN k) = .ok (.string (sOf (lastN n H))) (w.drewN k) := by
      intro k
      have e1 : H.length - (H.length - n) = (lastN n H).length := by omega
      rw [e1]
      refine run_convert_bytes_back (P := Tryz.prog) (w.drewN k) 43 9 5 ⟨b, o + (H.length - n), none⟩ _ (lastN n H) Tryz.underlying43 Tryz.underlying5 Tryz.underlying9 (fun j hj => ?_)
      have e2 : (⟨b, o + (H.length - n), none⟩ : Addr).add j = ⟨b, o + (H.length - n + j), none⟩ := by unfold Addr.add; split <;> simp_all; omega
      rw [e2]
      have h3 := hc2 (H.length - n + j) (by omega)
      show w.cell? _ = _
      rw [h3, ← lastN_getD, getD_lt _ _ hj]
    have hsub : IntKind.i64.wrap ((H.length : Int) - n) = (H.length : Int) - n := IntWalk.i64_in _ (by omega)
    clear hc2 hll HL
    go_enter Tryz.func7, Tryz.ntmps7
    go_wp2_with fail
    refine HC.out.mono ?_; rintro e w1 ⟨rfl, k1, rfl⟩
    go_wp2_with fail
    go_ret
    exact ⟨rfl, _, rfl⟩
  · have hla : lastN n H = H := lastN_all n H (by omega)
    have hcv : ∀ k, (convert 43 9 (.slice a2 H.length H.length)).run Tryz.prog (w.drewN k) = .ok (.string (sOf H)) (w.drewN k) := by
      intro k
      rcases hcell with rfl | ⟨b, o, rfl, hc2⟩
      · rcases a2 with _ | x
        · show (convert 43 9 (.slice none 0 0)).run Tryz.prog (w.drewN k) = _
          rw [run_convert_bytes_string (w.drewN k) 43 9 5 none 0 0 Tryz.underlying43 Tryz.underlying5 Tryz.underlying9]
          first | rfl | (simp [Conv.bytesToString, Sem.run_pure, go_sem]; rfl)
        · exact run_convert_bytes_back (P := Tryz.prog) (w.drewN k) 43 9 5 x 0 [] Tryz.underlying43 Tryz.underlying5 Tryz.underlying9 (fun j hj => by simp at hj)
      · refine run_convert_bytes_back (P := Tryz.prog) (w.drewN k) 43 9 5 ⟨b, o, none⟩ _ H Tryz.underlying43 Tryz.underlying5 Tryz.underlying9 (fun j hj => ?_)
        have e2 : (⟨b, o, none⟩ : Addr).add j = ⟨b, o + j, none⟩ := by unfold Addr.add; split <;> simp_all
        rw [e2]
        have h3 := hc2 j (by omega)
        show w.cell? _ = _
        rw [h3, getD_lt _ _ hj]
    rw [hla]
    clear hcell HL hla
    go_enter Tryz.func7, Tryz.ntmps7
    go_wp2_with fail
    refine HC.out.mono ?_; rintro e w1 ⟨rfl, k1, rfl⟩
    go_wp2_with fail
    go_ret
    exact ⟨rfl, _, rfl⟩
end Go.Proofs.YtipcdkemokkdfaaGreat
