import Derived.Test.YtipcdkemokkdfaaGreatK18
import Derived.Test.YtipcdkemokkdfaaGreatK01
import Derived.Laws.StructEq
/- Layer 7: the lengths may be, and no others cost less. -/
namespace Go.Proofs.YtipcdkemokkdfaaGreat
open Go.ChangeShapes Go.WideShapes Go.ChangeAt Go.RowKit
set_option linter.unusedVariables false
set_option linter.unusedSimpArgs false
set_option maxRecDepth 100000
open KraftMath Pm
def mayP (l o : List Int) (L : Int) : Prop := l.length = o.length ∧ check o L = 0 ∧ ∀ i, i < o.length → (0 < o.getD i 0 ↔ 0 < l.getD i 0)
theorem mem_idx {l : List Int} {v : Int} (h : v ∈ l) : ∃ i, i < l.length ∧ l.getD i 0 = v := by
  obtain ⟨i, hi, rfl⟩ := List.mem_iff_getElem.1 h
  exact ⟨i, hi, by rw [List.getD_eq_getElem?_getD, List.getElem?_eq_getElem hi]; rfl⟩
theorem getD_out {l : List Int} {i : Nat} (h : l.length ≤ i) : l.getD i 0 = 0 := by
  rw [List.getD_eq_getElem?_getD, List.getElem?_eq_none h]; rfl
theorem idx_get (l : List Int) (j : Nat) (h : j < l.length) : l.getD j 0 = l[j] := by
  rw [List.getD_eq_getElem?_getD, List.getElem?_eq_getElem h]; rfl
theorem ksum_srt (m : Nat) (l o : List Int) (hl : l.length = o.length) (h2 : ∀ i, i < o.length → (0 < o.getD i 0 → 0 < l.getD i 0)) : (ksum m o : Int) = sumLs (fun x => ((KraftMath.part m (o.getD x.toNat 0) : Nat) : Int)) (srtS l) := by
  have := ksum_sum m o o.length (Nat.le_refl _)
  rw [List.take_of_length_le (Nat.le_refl _)] at this
  rw [this, sumLs_srt, hl]
  refine sumN_congr _ (fun i hi => ?_)
  by_cases h : 0 < l.getD i 0
  · rw [if_pos h]; rfl
  · rw [if_neg h]
    have : ¬ (1 ≤ o.getD i 0 ∧ o.getD i 0 ≤ m) := fun hh => h (h2 i hi (by omega))
    unfold KraftMath.part
    rw [if_neg this]; rfl
theorem used_srt (l o : List Int) (hl : l.length = o.length) (h : ∀ i, i < o.length → (0 < o.getD i 0 ↔ 0 < l.getD i 0)) : used o = used l := by
  have h1 := used_sum o o.length (Nat.le_refl _)
  have h2 := used_sum l l.length (Nat.le_refl _)
  rw [List.take_of_length_le (Nat.le_refl _)] at h1 h2
  have : (used o : Int) = used l := by
    rw [h1, h2, hl]
    refine sumN_congr _ (fun i hi => ?_)
    by_cases e : 0 < l.getD i 0
    · rw [if_pos e, if_pos ((h i hi).2 e)]
    · rw [if_neg e, if_neg (fun h' => e ((h i hi).1 h'))]
  omega
theorem lj_bd (l : List Int) (L : Nat) (h : chkP l L = 0) : (∀ j, j < (srtS l).length → 1 ≤ lj l L j) ∧ (∀ j, lj l L j ≤ L) ∧ ((srtS l).length ≠ 1 → 2 ≤ (srtS l).length ∧ kr L (lj l L) (srtS l).length = 2 ^ L) ∧ (∀ i j, i ≤ j → lj l L j ≤ lj l L i) := by
  obtain ⟨m, hm, h1, h2, h3, h4, h5, h6⟩ := chk_ok h
  obtain rfl : L = m := by omega
  have hu := srtS_len l
  by_cases e : (srtS l).length = 1
  · have hlj : ∀ j, lj l L j = 1 := fun j => by unfold lj; rw [if_pos e]
    exact ⟨fun j _ => by rw [hlj]; exact Nat.le_refl _, fun j => by rw [hlj]; exact h1, fun h => absurd e h, fun i j _ => by rw [hlj, hlj]; exact Nat.le_refl _⟩
  · have hlj : lj l L = lenAt (ksF ((srtS l).map (frL l)) L) := by funext j; unfold lj; rw [if_neg e]
    have hlen : ((srtS l).map (frL l)).length = (srtS l).length := List.length_map ..
    have h2' : 2 ≤ (srtS l).length := by omega
    obtain ⟨o1, o2, o3, o4, o5⟩ := ours ((srtS l).map (frL l)) L h1 (by omega) (by omega) (srtS_asc l) (srtS_pos l)
    rw [hlen] at o1 o2
    rw [hlj]
    exact ⟨o2, o3, fun _ => ⟨h2', o1⟩, fun i j hij => lenAt_mono _ i j hij⟩
theorem lensV_bd (l : List Int) (L : Nat) (h : chkP l L = 0) (i : Nat) : 0 ≤ (lensV l L).getD i 0 ∧ (lensV l L).getD i 0 ≤ L ∧ (0 < (lensV l L).getD i 0 ↔ 0 < l.getD i 0) := by
  obtain ⟨b1, b2, b3, b4⟩ := lj_bd l L h
  by_cases hp : 0 < l.getD i 0
  · have hi : i < l.length := by
      apply Classical.byContradiction
      intro hn
      rw [getD_out (by omega)] at hp; omega
    obtain ⟨j, hj, e⟩ := List.mem_iff_getElem.1 ((srtS_iff l i).2 ⟨hi, hp⟩)
    rw [lensV_at l L j i hj e]
    have := b1 j hj
    have := b2 j
    exact ⟨by omega, by omega, ⟨fun _ => hp, fun _ => by omega⟩⟩
  · rw [lensV_out l L i hp]
    exact ⟨by omega, by omega, ⟨fun h => by omega, fun h => absurd h hp⟩⟩
theorem lens_may (l : List Int) (L : Nat) (h : chkP l L = 0) : mayP l (lensV l L) L := by
  obtain ⟨m, hm, h1, h2, h3, h4, h5, h6⟩ := chk_ok h
  obtain rfl : L = m := by omega
  have hbd := lensV_bd l L h
  have hlen := lensV_len l L
  refine ⟨hlen.symm, ?_, fun i hi => (hbd i).2.2⟩
  have hus := used_srt l (lensV l L) hlen.symm (fun i _ => (hbd i).2.2)
  have hks := ksum_srt L l (lensV l L) hlen.symm (fun i _ => (hbd i).2.2.1)
  have hu := srtS_len l
  obtain ⟨b1, b2, b3, b4⟩ := lj_bd l L h
  have hG : sumLs (fun x => ((KraftMath.part L ((lensV l L).getD x.toNat 0) : Nat) : Int)) (srtS l) = sumN (fun j => ((2 ^ (L - lj l L j) : Nat) : Int)) (srtS l).length := by
    rw [sumLs_idx]
    refine sumN_congr _ (fun j hj => ?_)
    obtain ⟨x, hx, -⟩ := srtS_mem (l := l) (u := (srtS l)[j]) (List.getElem_mem hj)
    rw [idx_get _ _ hj, hx, Int.toNat_natCast, lensV_at l L j x hj hx]
    have := b1 j hj
    have := b2 j
    unfold KraftMath.part
    rw [if_pos ⟨by omega, by omega⟩, Int.toNat_natCast]
  rw [hG] at hks
  refine (check_ok _ L).2 ⟨h1, h2, by rw [hlen]; exact h3, fun v hv => ?_, ?_⟩
  · obtain ⟨i, -, rfl⟩ := mem_idx hv
    exact ⟨(hbd i).1, (hbd i).2.1⟩
  · rw [hus]
    by_cases e : (srtS l).length = 1
    · refine .inl ⟨by omega, ?_⟩
      rw [e] at hks
      have hl1 : lj l L 0 = 1 := by unfold lj; rw [if_pos e]
      simp only [sumN, hl1] at hks
      have : ksum L (lensV l L) = 2 ^ (L - 1) := by omega
      rw [this, ← (pow_half L 1 (Nat.le_refl _) h1).2 rfl]
    · refine .inr ⟨by omega, ?_⟩
      rw [← kr_sum, (b3 e).2] at hks
      exact Int.ofNat_inj.1 hks
end Go.Proofs.YtipcdkemokkdfaaGreat

/- Runs of lengths, plainly. -/
namespace Go.Proofs.YtipcdkemokkdfaaGreat.RunsMath
abbrev Run := Int × Int
def extra (sym : Int) : Nat := if sym = 16 then 2 else if sym = 17 then 3 else if sym = 18 then 7 else 0
def fine (r : Run) : Bool := decide (0 ≤ r.1 ∧ r.1 ≤ 18 ∧ 0 ≤ r.2 ∧ r.2 < 2 ^ extra r.1)
def many (r : Run) : Nat := if r.1 = 16 ∨ r.1 = 17 then 3 + r.2.toNat else if r.1 = 18 then 11 + r.2.toNat else 1
/-- Which length a run has, behind the length ahead. -/
def what (ahead : Int) (r : Run) : Int := if r.1 = 17 ∨ r.1 = 18 then 0 else if r.1 = 16 then ahead else r.1
/-- The lengths of runs behind others: the error's number, and the lengths. -/
def unp (n : Nat) : List Int → Int → List Run → Int × List Int
  | out, _, [] => if out.length < n then (3, []) else (0, out)
  | out, a, r :: l => if fine r = false then (2, []) else if n < out.length + many r then (4, []) else unp n (out ++ List.replicate (many r) (what a r)) (what a r) l
def unpack (l : List Run) (n : Int) : Int × List Int := if n < 0 ∨ 1024 < n then (1, []) else unp n.toNat [] 0 l
/-- How many of the same x a row begins with. -/
def same (x : Int) : List Int → Nat
  | [] => 0
  | y :: l => if y = x then same x l + 1 else 0
theorem same_le (x : Int) (l : List Int) : same x l ≤ l.length := by
  induction l with
  | nil => simp [same]
  | cons y l ih => simp only [same, List.length_cons]; split <;> omega
theorem same_take (x : Int) (l : List Int) : l.take (same x l) = List.replicate (same x l) x := by
  induction l with
  | nil => simp [same]
  | cons y l ih =>
    simp only [same]
    by_cases h : y = x
    · rw [if_pos h, List.take_succ_cons, ih, h, List.replicate_succ]
    · rw [if_neg h]; simp
theorem same_few (x : Int) (l : List Int) (k : Nat) (h : k ≤ same x l) : l.take k = List.replicate k x := by
  have := congrArg (List.take k) (same_take x l)
  rwa [List.take_take, Nat.min_eq_left h, List.take_replicate, Nat.min_eq_left h] at this
/-- The run that a row begins with, behind the length ahead (none: -1). -/
def firstRun (a x : Int) (k : Nat) : Run :=
  if x = 0 ∧ 11 ≤ k then (18, (min k 138 : Nat) - 11) else if x = 0 ∧ 3 ≤ k then (17, (min k 10 : Nat) - 3)
  else if x ≠ 0 ∧ a = x ∧ 3 ≤ k then (16, (min k 6 : Nat) - 3) else (x, 0)
theorem first_many (a x : Int) (k : Nat) (hx : 0 ≤ x ∧ x ≤ 15) (hk : 1 ≤ k) : 1 ≤ many (firstRun a x k) ∧ many (firstRun a x k) ≤ k := by
  unfold firstRun many
  by_cases h1 : x = 0 ∧ 11 ≤ k
  · rw [if_pos h1]; simp; omega
  rw [if_neg h1]
  by_cases h2 : x = 0 ∧ 3 ≤ k
  · rw [if_pos h2]; simp; omega
  rw [if_neg h2]
  by_cases h3 : x ≠ 0 ∧ a = x ∧ 3 ≤ k
  · rw [if_pos h3]; simp; omega
  rw [if_neg h3, if_neg (by simp; omega), if_neg (by simp; omega)]; omega
theorem first_fine (a x : Int) (k : Nat) (hx : 0 ≤ x ∧ x ≤ 15) (_hk : 1 ≤ k) : fine (firstRun a x k) = true := by
  unfold firstRun fine extra
  rw [decide_eq_true_eq]
  by_cases h1 : x = 0 ∧ 11 ≤ k
  · rw [if_pos h1]; simp; omega
  rw [if_neg h1]
  by_cases h2 : x = 0 ∧ 3 ≤ k
  · rw [if_pos h2]; simp; omega
  rw [if_neg h2]
  by_cases h3 : x ≠ 0 ∧ a = x ∧ 3 ≤ k
  · rw [if_pos h3]; simp; omega
  rw [if_neg h3, if_neg (by simp; omega), if_neg (by simp; omega), if_neg (by simp; omega)]; simp; omega
theorem first_what (a x : Int) (k : Nat) (hx : 0 ≤ x ∧ x ≤ 15) : what a (firstRun a x k) = x := by
  unfold firstRun what
  by_cases h1 : x = 0 ∧ 11 ≤ k
  · rw [if_pos h1]; simp; omega
  rw [if_neg h1]
  by_cases h2 : x = 0 ∧ 3 ≤ k
  · rw [if_pos h2]; simp; omega
  rw [if_neg h2]
  by_cases h3 : x ≠ 0 ∧ a = x ∧ 3 ≤ k
  · rw [if_pos h3]; simp; omega
  rw [if_neg h3, if_neg (by simp; omega), if_neg (by simp; omega)]
/-- The runs of lengths from 0 to 15, behind the length ahead. -/
def packF : Nat → Int → List Int → List Run
  | 0, _, _ => []
  | _ + 1, _, [] => []
  | f + 1, a, x :: l => firstRun a x (same x (x :: l)) :: packF f x ((x :: l).drop (many (firstRun a x (same x (x :: l)))))
theorem unp_pack (n : Nat) (f : Nat) (out : List Int) (a a' : Int) (l : List Int) (hf : l.length ≤ f) (hl : ∀ x ∈ l, 0 ≤ x ∧ x ≤ 15) (hn : out.length + l.length = n)
    (ha : a' = a ∨ (a = -1)) : unp n out a' (packF f a l) = (0, out ++ l) := by
  induction f generalizing out a a' l with
  | zero =>
    obtain rfl := List.eq_nil_of_length_eq_zero (l := l) (by omega)
    simp only [packF, unp]; rw [if_neg (by simp at hn; omega)]; simp
  | succ f ih =>
    cases l with
    | nil => simp only [packF, unp]; rw [if_neg (by simp at hn; omega)]; simp
    | cons x l =>
      have hx := hl x (List.mem_cons_self ..)
      have hs : same x (x :: l) = same x l + 1 := by simp [same]
      have hs1 : 1 ≤ same x (x :: l) := by omega
      obtain ⟨m1, m2⟩ := first_many a x (same x (x :: l)) hx hs1
      have hle := same_le x (x :: l)
      have hw : what a' (firstRun a x (same x (x :: l))) = x := by
        rcases ha with rfl | rfl
        · exact first_what _ x _ hx
        · unfold firstRun what
          by_cases h1 : x = 0 ∧ 11 ≤ same x (x :: l)
          · rw [if_pos h1]; simp; omega
          rw [if_neg h1]
          by_cases h2 : x = 0 ∧ 3 ≤ same x (x :: l)
          · rw [if_pos h2]; simp; omega
          have h3 : ¬ (x ≠ 0 ∧ (-1 : Int) = x ∧ 3 ≤ same x (x :: l)) := by omega
          rw [if_neg h2, if_neg h3, if_neg (by simp; omega), if_neg (by simp; omega)]
      have ht := same_few x (x :: l) (many (firstRun a x (same x (x :: l)))) m2
      simp only [packF, unp]
      rw [first_fine a x _ hx hs1, hw]
      generalize hm : many (firstRun a x (same x (x :: l))) = m at *
      simp only [Bool.true_eq_false, if_false]
      rw [if_neg (by omega)]
      have hd : ((x :: l).drop m).length = (x :: l).length - m := List.length_drop ..
      rw [ih (out ++ List.replicate m x) x x ((x :: l).drop m) (by rw [hd]; omega) (fun y hy => hl y (List.mem_of_mem_drop hy)) (by rw [hd, List.length_append, List.length_replicate]; omega) (.inl rfl)]
      rw [List.append_assoc, ← ht, List.take_append_drop]
theorem pack_length (f : Nat) (a : Int) (l : List Int) (hf : l.length ≤ f) (hl : ∀ x ∈ l, 0 ≤ x ∧ x ≤ 15) : (packF f a l).length ≤ l.length := by
  induction f generalizing a l with
  | zero => simp [packF]
  | succ f ih =>
    cases l with
    | nil => simp [packF]
    | cons x l =>
      have hx := hl x (List.mem_cons_self ..)
      have hs : same x (x :: l) = same x l + 1 := by simp [same]
      obtain ⟨m1, m2⟩ := first_many a x (same x (x :: l)) hx (by omega)
      have hle := same_le x (x :: l)
      simp only [packF, List.length_cons]
      generalize hm : many (firstRun a x (same x (x :: l))) = m at *
      have := ih x ((x :: l).drop m) (by rw [List.length_drop]; simp only [List.length_cons] at *; omega) (fun y hy => hl y (List.mem_of_mem_drop hy))
      rw [List.length_drop] at this
      simp only [List.length_cons] at *
      omega
end Go.Proofs.YtipcdkemokkdfaaGreat.RunsMath

/- Layer 12: single runs. -/
namespace Go.Proofs.YtipcdkemokkdfaaGreat
open Go.ChangeShapes Go.WideShapes Go.ChangeAt Go.RowKit
set_option linter.unusedVariables false
set_option maxRecDepth 100000
open RunsMath

def runV (r : Run) : Value := .agg #[.int .i64 r.1, .int .i64 r.2]
theorem rExtra (s : Int) (E : Int) (hE : (extra s : Nat) = E) (w : World) : Calls Tryz.prog 44 #[.int .i64 s] w fun e w' => e = .returned (.int .i64 E) ∧ w' = w := by
  unfold extra at hE
  by_cases h1 : s = 16
  · subst h1; simp at hE; subst hE
    go_enter Tryz.func44, Tryz.ntmps44
    go_wp2
    go_ret
    exact ⟨rfl, rfl⟩
  by_cases h2 : s = 17
  · subst h2; simp at hE; subst hE
    go_enter Tryz.func44, Tryz.ntmps44
    go_wp2
    go_ret
    exact ⟨rfl, rfl⟩
  by_cases h3 : s = 18
  · subst h3; simp at hE; subst hE
    go_enter Tryz.func44, Tryz.ntmps44
    go_wp2
    go_ret
    exact ⟨rfl, rfl⟩
  rw [if_neg h1, if_neg h2, if_neg h3] at hE
  have e1 : (s == 16) = false := by rw [beq_eq_false_iff_ne]; exact h1
  have e2 : (s == 17) = false := by rw [beq_eq_false_iff_ne]; exact h2
  have e3 : (s == 18) = false := by rw [beq_eq_false_iff_ne]; exact h3
  subst hE
  clear h1 h2 h3
  go_enter Tryz.func44, Tryz.ntmps44
  go_wp2
  go_ret
  exact ⟨rfl, rfl⟩
theorem extra_le (s : Int) : extra s ≤ 7 := by unfold extra; split; omega; split; omega; split <;> omega
theorem fine_cases (s m : Int) (B : Bool) (hB : fine (s, m) = B) : (s < 0 ∧ B = false) ∨ (0 ≤ s ∧ 18 < s ∧ B = false) ∨ (0 ≤ s ∧ s ≤ 18 ∧ m < 0 ∧ B = false) ∨ (0 ≤ s ∧ s ≤ 18 ∧ 0 ≤ m ∧ B = decide (m < (2 : Int) ^ (extra s))) := by
  unfold fine at hB
  simp only at hB
  by_cases h1 : s < 0
  · exact .inl ⟨h1, by rw [← hB]; simp; omega⟩
  by_cases h2 : 18 < s
  · exact .inr (.inl ⟨by omega, h2, by rw [← hB]; simp; omega⟩)
  by_cases h3 : m < 0
  · exact .inr (.inr (.inl ⟨by omega, by omega, h3, by rw [← hB]; simp; omega⟩))
  refine .inr (.inr (.inr ⟨by omega, by omega, by omega, ?_⟩))
  rw [← hB, decide_eq_decide]
  constructor
  · rintro ⟨_, _, _, h⟩; exact h
  · intro h; exact ⟨by omega, by omega, by omega, h⟩
theorem wrap_p2 (E : Nat) (h : E ≤ 40) : wrap64 ((2 : Int) ^ E) = (2 : Int) ^ E := by
  have hp : 2 ^ E ≤ 2 ^ 40 := Nat.pow_le_pow_right (by decide) h
  have e : ((2 ^ E : Nat) : Int) = (2 : Int) ^ E := by simp
  rw [← e]
  have hp2 : 2 ^ E ≤ 1099511627776 := hp
  generalize 2 ^ E = P at hp2
  rw [IntWalk.wrap64_in _ (by omega)]
set_option maxHeartbeats 1600000 in
theorem rMayBe (s m : Int) (B : Bool) (hB : fine (s, m) = B) (w : World) : Calls Tryz.prog 121 #[.agg #[.int .i64 s, .int .i64 m]] w fun e w' => e = .returned (.bool B) ∧ Below w.heap.size w w' := by
  rcases fine_cases s m B hB with ⟨h1, rfl⟩ | ⟨h1, h2, rfl⟩ | ⟨h1, h2, h3, rfl⟩ | ⟨h1, h2, h3, hb⟩
  · clear hB
    have e1 : decide (0 ≤ s) = false := by simpa using h1
    go_enter Tryz.func121, Tryz.ntmps121
    go_wp2
    go_quiet (fail)
    go_wp2
    go_ret
    exact ⟨rfl, below_dn ((Below.refl _ _).alloc (Nat.le_refl _) _) _⟩
  · clear hB
    have e1 : decide (0 ≤ s) = true := by simpa using h1
    have e2 : decide (s ≤ 18) = false := by simpa using h2
    go_enter Tryz.func121, Tryz.ntmps121
    go_wp2
    go_quiet (fail)
    go_wp2
    go_ret
    exact ⟨rfl, below_dn ((Below.refl _ _).alloc (Nat.le_refl _) _) _⟩
  · clear hB
    have e1 : decide (0 ≤ s) = true := by simpa using h1
    have e2 : decide (s ≤ 18) = true := by simpa using h2
    have e3 : decide (0 ≤ m) = false := by simpa using h3
    go_enter Tryz.func121, Tryz.ntmps121
    go_wp2
    go_quiet (fail)
    go_wp2
    go_ret
    exact ⟨rfl, below_dn ((Below.refl _ _).alloc (Nat.le_refl _) _) _⟩
  · clear hB
    have e1 : decide (0 ≤ s) = true := by simpa using h1
    have e2 : decide (s ≤ 18) = true := by simpa using h2
    have e3 : decide (0 ≤ m) = true := by simpa using h3
    have C := rExtra s _ rfl
    have hl := extra_le s
    obtain ⟨E, hE⟩ : ∃ E, extra s = E := ⟨_, rfl⟩
    rw [hE] at C hb hl
    have hw := wrap_p2 E (by omega)
    have HB := Lib.hid hb; have C := Lib.hid C
    clear hE hb
    go_enter Tryz.func121, Tryz.ntmps121
    go_wp2
    go_quiet ((go_at_call 44; exact Calls.quiet_of_same (C.out _)))
    go_wp2
    go_ret
    exact ⟨ret_b (by rw [HB.out]), below_dn ((Below.refl _ _).alloc (Nat.le_refl _) _) _⟩
theorem rMeaning (s m a : Int) (W : Int) (n : Nat) (hW : what a (s, m) = W) (hn : many (s, m) = n) (hm : 0 ≤ m ∧ m ≤ 1000) (w : World) : Calls Tryz.prog 122 #[.agg #[.int .i64 s, .int .i64 m], .int .i64 a] w fun e w' => e = .returned (.tuple #[.int .i64 W, .int .i64 n]) ∧ Below w.heap.size w w' := by
  unfold many at hn
  unfold what at hW
  simp only at hn hW
  by_cases h1 : s = 16
  · subst h1; rw [if_pos (by decide)] at hn
    rw [if_neg (by decide), if_pos rfl] at hW
    have HN := Lib.hid (show 3 + m = (n : Int) by omega)
    subst hW
    clear hn
    go_enter Tryz.func122, Tryz.ntmps122
    go_wp2
    go_ret2
    exact ⟨by show Ending.returned (.tuple #[.int .i64 a, .int .i64 (1 + (2 + m))]) = _; rw [show (1 + (2 + m)) = (n : Int) by have := HN.out; omega], (Below.refl _ _).alloc (Nat.le_refl _) _⟩
  by_cases h2 : s = 17
  · subst h2; rw [if_pos (by decide)] at hn
    rw [if_pos (by decide)] at hW
    have HN := Lib.hid (show 3 + m = (n : Int) by omega)
    subst hW
    clear hn
    go_enter Tryz.func122, Tryz.ntmps122
    go_wp2
    go_ret2
    exact ⟨by show Ending.returned (.tuple #[.int .i64 0, .int .i64 (1 + (2 + m))]) = _; rw [show (1 + (2 + m)) = (n : Int) by have := HN.out; omega], (Below.refl _ _).alloc (Nat.le_refl _) _⟩
  rw [if_neg (by omega)] at hn
  by_cases h3 : s = 18
  · subst h3; rw [if_pos rfl] at hn
    rw [if_pos (by decide)] at hW
    have HN := Lib.hid (show 11 + m = (n : Int) by omega)
    subst hW
    clear hn
    go_enter Tryz.func122, Tryz.ntmps122
    go_wp2
    go_ret2
    exact ⟨by show Ending.returned (.tuple #[.int .i64 0, .int .i64 (9 + (2 + m))]) = _; rw [show (9 + (2 + m)) = (n : Int) by have := HN.out; omega], (Below.refl _ _).alloc (Nat.le_refl _) _⟩
  rw [if_neg h3] at hn
  rw [if_neg (by omega), if_neg h1] at hW
  have e1 : (s == 16) = false := by rw [beq_eq_false_iff_ne]; exact h1
  have e2 : (s == 17) = false := by rw [beq_eq_false_iff_ne]; exact h2
  have e3 : (s == 18) = false := by rw [beq_eq_false_iff_ne]; exact h3
  subst hn; subst hW
  clear h1 h2 h3
  go_enter Tryz.func122, Tryz.ntmps122
  go_wp2
  go_ret2
  exact ⟨rfl, (Below.refl _ _).alloc (Nat.le_refl _) _⟩
end Go.Proofs.YtipcdkemokkdfaaGreat

/- Layer 12: rows of runs. -/
namespace Go.Proofs.YtipcdkemokkdfaaGreat
open Go.ChangeShapes Go.WideShapes Go.ChangeAt Go.RowKit
set_option linter.unusedVariables false
set_option maxRecDepth 100000
open RunsMath

def IsRuns (w : World) (a : Option Addr) (l : List Run) : Prop := l.length ≤ 70368744177664 ∧ (l = [] ∨ ∃ x, a = some x ∧ ∀ i, i < l.length → w.cell? (x.add (i * 2)) = some (.int .i64 (l.getD i (0, 0)).1) ∧ w.cell? ⟨(x.add (i * 2)).block, (x.add (i * 2)).off + 1, none⟩ = some (.int .i64 (l.getD i (0, 0)).2))
def IsR (w : World) (v : Value) (l : List Run) : Prop := ∃ a cap, v = .slice a l.length cap ∧ IsRuns w a l
theorem IsRuns.at {w : World} {a : Option Addr} {l : List Run} (h : IsRuns w a l) (k : Nat) (hk : k < l.length) : ∃ x : Addr, a = some x ∧ x.block < w.heap.size ∧ ∀ i, i < l.length → w.cell? (x.add (i * 2)) = some (.int .i64 (l.getD i (0, 0)).1) ∧ w.cell? ⟨(x.add (i * 2)).block, (x.add (i * 2)).off + 1, none⟩ = some (.int .i64 (l.getD i (0, 0)).2) := by
  rcases h.2 with rfl | ⟨x, rfl, hc⟩
  · simp at hk
  · have := cell_block (hc 0 (by omega)).1
    exact ⟨x, rfl, by simpa [Addr.add] using this, hc⟩
theorem IsRuns.kept {w w' : World} {a : Option Addr} {l : List Run} (h : IsRuns w a l) (hb : Below w.heap.size w w') : IsRuns w' a l := by
  refine ⟨h.1, ?_⟩
  rcases h.2 with rfl | ⟨x, rfl, hc⟩
  · exact .inl rfl
  · refine .inr ⟨x, rfl, fun i hi => ?_⟩
    obtain ⟨h1, h2⟩ := hc i hi
    rw [hb.cell (cell_block h1), hb.cell (cell_block h2)]; exact ⟨h1, h2⟩
theorem IsR.kept {w w' : World} {v : Value} {l : List Run} (h : IsR w v l) (hb : Below w.heap.size w w') : IsR w' v l := by
  obtain ⟨a, cap, e, h⟩ := h
  exact ⟨a, cap, e, h.kept hb⟩
theorem IsR.nil (w : World) : IsR w (.slice none 0 0) [] := ⟨none, 0, rfl, by simp, .inl rfl⟩
theorem IsR.alloc {w : World} {v : Value} {l : List Run} (h : IsR w v l) (o : Obj) : IsR (w.alloc o) v l := h.kept ((Below.refl _ _).alloc (Nat.le_refl _) o)
def fR (r : Run) : List Value := [.int .i64 r.1, .int .i64 r.2]
theorem flatR : Flat fR 2 := fun x => ⟨rfl, by intro u hu; simp [fR] at hu; rcases hu with rfl | rfl <;> rfl⟩
abbrev OwnR (B : Nat) (w : World) (v : Value) (l : List Run) : Prop := OwnS fR 97 2 B w v l
theorem info_run : (Tryz.prog.info? 97).map (fun i => (i.zero, i.size, i.bytes)) = some (some (.agg #[.int .i64 0, .int .i64 0]), 2, 16) := by kernel_rfl
theorem OwnS.isR {B : Nat} {w : World} {v : Value} {l : List Run} (h : OwnR B w v l) (hl : l.length ≤ 70368744177664) : IsR w v l := by
  by_cases h0 : 0 < l.length
  · obtain ⟨g, cap, rfl, -, -⟩ := h.form h0 (by decide)
    refine ⟨_, cap, rfl, hl, .inr ⟨_, rfl, fun i hi => ?_⟩⟩
    have h1 := h.cell flatR i 0 l[i] (by simp [hi]) (by decide)
    have h2 := h.cell flatR i 1 l[i] (by simp [hi]) (by decide)
    have e1 : (⟨g, 0, none⟩ : Addr).add (i * 2) = ⟨g, i * 2 + 0, none⟩ := by unfold Addr.add; split <;> simp_all
    rw [e1]
    show w.cell? ⟨g, i * 2 + 0, none⟩ = _ ∧ w.cell? ⟨g, i * 2 + 1, none⟩ = _
    rw [h1, h2]
    simp [fR, List.getD_eq_getElem?_getD, hi]
  · obtain ⟨a, cap, rfl⟩ := h.slice
    exact ⟨a, cap, rfl, hl, .inl (List.eq_nil_of_length_eq_zero (by omega))⟩
/-- How often the length at a place comes from there on. -/
def rowN (l : List Int) (i : Nat) : Nat := same (l.getD i 0) (l.drop i)
theorem same_at (x : Int) (l : List Int) (i k : Nat) (hk : k ≤ same x (l.drop i)) (hik : i + k < l.length) : (l.getD (i + k) 0 = x → k + 1 ≤ same x (l.drop i)) ∧ (l.getD (i + k) 0 ≠ x → same x (l.drop i) = k) := by
  have key : ∀ (m : List Int) (k : Nat), k ≤ same x m → k < m.length → (m.getD k 0 = x → k + 1 ≤ same x m) ∧ (m.getD k 0 ≠ x → same x m = k) := by
    intro m
    induction m with
    | nil => intro k _ h; simp at h
    | cons y m ih =>
      intro k hk hl
      cases k with
      | zero =>
        simp only [List.getD_cons_zero, same]
        by_cases h : y = x
        · rw [if_pos h]; exact ⟨fun _ => by omega, fun h' => absurd h h'⟩
        · rw [if_neg h]; exact ⟨fun h' => absurd h' h, fun _ => rfl⟩
      | succ k =>
        simp only [same] at hk ⊢
        by_cases h : y = x
        · rw [if_pos h] at hk ⊢
          have := ih k (by omega) (by simpa using hl)
          rw [List.getD_cons_succ]
          exact ⟨fun h' => by have := this.1 h'; omega, fun h' => by have := this.2 h'; omega⟩
        · rw [if_neg h] at hk; omega
  have h1 : (l.drop i).getD k 0 = l.getD (i + k) 0 := by simp [List.getD_eq_getElem?_getD, List.getElem?_drop]
  have := key (l.drop i) k hk (by rw [List.length_drop]; omega)
  rwa [h1] at this
set_option maxHeartbeats 1600000 in
theorem rRow (a : Option Addr) (c : Nat) (l : List Int) (i : Nat) (hi : i < l.length) (w : World) (h : IsInts w a l) :
    Calls Tryz.prog 86 #[.slice a l.length c, .int .i64 i] w fun e w' => e = .returned (.int .i64 (min (rowN l i) 138 : Nat)) ∧ ∃ q, w' = w.drewN q := by
  have hl := h.1
  obtain ⟨x, rfl, -, hx⟩ := h.at i hi
  have cx := hx i hi
  have HX := Lib.hid hx
  have HA := Lib.hid (fun k => same_at (l.getD i 0) l i k)
  have h1 := (same_at (l.getD i 0) l i 0 (Nat.zero_le _) (by omega)).1 rfl
  have hle : Hid (same (l.getD i 0) (l.drop i) ≤ l.length - i) := by have := same_le (l.getD i 0) (l.drop i); rwa [List.length_drop] at this
  obtain ⟨S, hS⟩ : ∃ S, same (l.getD i 0) (l.drop i) = S := ⟨_, rfl⟩
  have HR : Hid (rowN l i = S) := hS
  rw [hS] at HA h1 hle
  obtain ⟨X, hXX⟩ : ∃ X, l.getD i 0 = X := ⟨_, rfl⟩
  rw [hXX] at cx HA
  clear hx h hS hXX
  go_enter Tryz.func86, Tryz.ntmps86
  go_wp2
  go_loopw [5] (fun u wr => ∃ k : Nat, 1 ≤ k ∧ k ≤ S ∧ k ≤ 138 ∧ u = .int .i64 k ∧ ∃ q, wr = w.drewN q) (fun u _ => 138 - (intOf u).toNat)
  case atStart => exact ⟨1, by omega, h1, by omega, rfl, 0, rfl⟩
  case round =>
    obtain ⟨k, hk1, hkS, hk, rfl, q, rfl⟩ := hrel
    by_cases g1 : i + k < l.length
    · have e1 : decide ((i : Int) + (k : Int) < (l.length : Int)) = true := by simp; omega
      have e1n : decide (i + k < l.length) = true := by simpa using g1
      by_cases g2 : k < 138
      · have e2 : decide ((k : Int) < 138) = true := by simp; omega
        have e2n : decide (k < 138) = true := by simpa using g2
        have ci := HX.out (i + k) g1
        have hA := HA.out k hkS g1
        have htn : ((i : Int) + (k : Int)).toNat = i + k := by omega
        have hi64 : IntKind.i64.wrap ((i : Int) + (k : Int)) = (i : Int) + (k : Int) := IntWalk.i64_in _ (by omega)
        obtain ⟨Y, hY⟩ : ∃ Y, l.getD (i + k) 0 = Y := ⟨_, rfl⟩
        rw [hY] at ci hA
        by_cases g3 : Y = X
        · have HK := Lib.hid (hA.1 g3)
          subst g3
          clear hA hY
          go_wp2
          go_quiet (fail)
          go_wp2
          go_roundw
          case rel => exact ⟨k + 1, by omega, HK.out, by omega, by go_num, _, rfl⟩
          case measure => simp [intOf]; omega
        · have HK := Lib.hid (show (k : Int) = (min (rowN l i) 138 : Nat) by rw [HR.out, hA.2 g3]; omega)
          have g3' : (Y == X) = false := by rw [beq_eq_false_iff_ne]; exact g3
          clear hA hY g3
          go_wp2
          go_quiet (fail)
          go_wp2
          go_ret
          exact ⟨ret_i HK.out, _, World.drewN_drewN ..⟩
      · have HK := Lib.hid (show (k : Int) = (min (rowN l i) 138 : Nat) by rw [HR.out]; omega)
        have e2 : decide ((k : Int) < 138) = false := by simp; omega
        have e2n : decide (k < 138) = false := by simpa using g2
        go_wp2
        go_quiet (fail)
        go_wp2
        go_ret
        exact ⟨ret_i HK.out, _, World.drewN_drewN ..⟩
    · have HK := Lib.hid (show (k : Int) = (min (rowN l i) 138 : Nat) by have := hle.out; rw [HR.out]; omega)
      have e1 : decide ((i : Int) + (k : Int) < (l.length : Int)) = false := by simp; omega
      have e1n : decide (i + k < l.length) = false := by simpa using g1
      go_wp2
      go_quiet (fail)
      go_wp2
      go_ret
      exact ⟨ret_i HK.out, _, World.drewN_drewN ..⟩
/-- The length ahead of a place. -/
def aheadL (l : List Int) (i : Nat) : Int := if i = 0 then -1 else l.getD (i - 1) 0
theorem first_min (a x : Int) (k : Nat) : firstRun a x (min k 138) = firstRun a x k := by
  unfold firstRun
  by_cases h1 : x = 0 ∧ 11 ≤ k
  · rw [if_pos h1, if_pos ⟨h1.1, by omega⟩]; simp
  rw [if_neg h1, if_neg (by omega)]
  by_cases h2 : x = 0 ∧ 3 ≤ k
  · rw [if_pos h2, if_pos ⟨h2.1, by omega⟩]; congr 2; omega
  rw [if_neg h2, if_neg (by omega)]
  by_cases h3 : x ≠ 0 ∧ a = x ∧ 3 ≤ k
  · rw [if_pos h3, if_pos ⟨h3.1, h3.2.1, by omega⟩]; congr 2; omega
  rw [if_neg h3, if_neg (by omega)]
end Go.Proofs.YtipcdkemokkdfaaGreat

/- Layer 12: the first run from a place on. -/
namespace Go.Proofs.YtipcdkemokkdfaaGreat
open Go.ChangeShapes Go.WideShapes Go.ChangeAt Go.RowKit
set_option linter.unusedVariables false
set_option maxRecDepth 100000
open RunsMath

def FirstPost (r : Run) (w : World) (e : Ending) (w' : World) : Prop := e = .returned (.tuple #[runV r, .int .i64 (many r : Nat)]) ∧ Below w.heap.size w w'
theorem firstPost_of {r : Run} {s m t : Int} {w w' : World} (hr : r = (s, m)) (ht : (many (s, m) : Int) = t) (hb : Below w.heap.size w w') : FirstPost r w (.returned (.tuple #[.agg #[.int .i64 s, .int .i64 m], .int .i64 t])) w' := by
  subst hr; subst ht; exact ⟨rfl, hb⟩
set_option maxHeartbeats 3200000 in
theorem rFirst (a : Option Addr) (c : Nat) (l : List Int) (i : Nat) (hi : i < l.length) (w : World) (h : IsInts w a l) (hx0 : ∀ x ∈ l, 0 ≤ x ∧ x ≤ 15) :
    Calls Tryz.prog 66 #[.slice a l.length c, .int .i64 i] w (FirstPost (firstRun (aheadL l i) (l.getD i 0) (rowN l i)) w) := by
  have hl := h.1
  have C := fun w h => rRow a c l i hi w h
  obtain ⟨x, rfl, hxb, hx⟩ := h.at i hi
  have cx := hx i hi
  have g0 := hx0 (l.getD i 0) (by simp [List.getD_eq_getElem?_getD, hi])
  have hrow1 : 1 ≤ rowN l i := by unfold rowN; exact (same_at (l.getD i 0) l i 0 (Nat.zero_le _) (by omega)).1 rfl
  rw [← first_min]
  obtain ⟨K, hK⟩ : ∃ K, min (rowN l i) 138 = K := ⟨_, rfl⟩
  rw [hK] at C ⊢
  have hK1 : 1 ≤ K := by omega
  have hK2 : K ≤ 138 := by omega
  have HP : Hid (0 < i → aheadL l i = l.getD (i - 1) 0) := by intro h0; unfold aheadL; rw [if_neg (by omega)]
  have HQ : Hid (i = 0 → aheadL l i = -1) := by intro h0; unfold aheadL; rw [if_pos h0]
  have HA : Hid (0 < i → w.cell? (x.add (i - 1)) = some (.int .i64 (l.getD (i - 1) 0))) := fun h0 => hx (i - 1) (by omega)
  obtain ⟨AH, hAH⟩ : ∃ AH, aheadL l i = AH := ⟨_, rfl⟩
  rw [hAH] at HP HQ ⊢
  obtain ⟨X, hX⟩ : ∃ X, l.getD i 0 = X := ⟨_, rfl⟩
  rw [hX] at cx g0 ⊢
  have hi0 := h
  have C_ := Lib.hid C
  have h_ := Lib.hid h
  clear C h
  clear hx hAH hK hX hx0 hrow1 hi0
  have hbI : Hid (IsInts (w.alloc (.cells #[.int .i64 0, .int .i64 0] 97)) (some x) l) := h_.out.alloc _
  have cxA : (w.alloc (.cells #[.int .i64 0, .int .i64 0] 97)).cell? (x.add i) = some (.int .i64 X) := (World.cell?_alloc_lt _ _ _ (by rw [add_block]; exact hxb)).trans cx
  have HAA : Hid (0 < i → (w.alloc (.cells #[.int .i64 0, .int .i64 0] 97)).cell? (x.add (i - 1)) = some (.int .i64 (l.getD (i - 1) 0))) := fun h0 => (World.cell?_alloc_lt _ _ _ (by rw [add_block]; exact hxb)).trans (HA.out h0)
  by_cases hx0 : X = 0
  · subst hx0
    by_cases h11 : 11 ≤ K
    · have HR := Lib.hid (show firstRun AH 0 K = (18, (K : Int) - 11) by unfold firstRun; rw [if_pos ⟨rfl, h11⟩, Nat.min_eq_left hK2])
      have HM := Lib.hid (show ((many (18, (K : Int) - 11) : Nat) : Int) = K by unfold many; simp; omega)
      have e1 : decide (11 ≤ (K : Int)) = true := by simp; omega
      go_enter Tryz.func66, Tryz.ntmps66
      go_wp2_with fail
      refine (C_.out _ hbI.out).mono ?_; rintro e w1 ⟨rfl, q, rfl⟩
      go_wp2_with fail
      exact bodyPost_ret (v := .tuple #[.agg #[_, _], _]) (by simp [results, Tryz.results66, go_sem]) rfl (firstPost_of HR.out HM.out (((below_dn ((Below.refl _ _).alloc (Nat.le_refl _) _) _).setCell (by simp) _).setCell (by simp) _))
    · have e1 : decide (11 ≤ (K : Int)) = false := by simp; omega
      by_cases h3 : 3 ≤ K
      · have HR := Lib.hid (show firstRun AH 0 K = (17, (K : Int) - 3) by unfold firstRun; rw [if_neg (by omega), if_pos ⟨rfl, h3⟩, Nat.min_eq_left (by omega)])
        have HM := Lib.hid (show ((many (17, (K : Int) - 3) : Nat) : Int) = K by unfold many; simp; omega)
        have e2 : decide (3 ≤ (K : Int)) = true := by simp; omega
        go_enter Tryz.func66, Tryz.ntmps66
        go_wp2_with fail
        refine (C_.out _ hbI.out).mono ?_; rintro e w1 ⟨rfl, q, rfl⟩
        go_wp2_with fail
        exact bodyPost_ret (v := .tuple #[.agg #[_, _], _]) (by simp [results, Tryz.results66, go_sem]) rfl (firstPost_of HR.out HM.out (((below_dn ((Below.refl _ _).alloc (Nat.le_refl _) _) _).setCell (by simp) _).setCell (by simp) _))
      · have HR := Lib.hid (show firstRun AH 0 K = (0, 0) by unfold firstRun; rw [if_neg (by omega), if_neg (by omega), if_neg (by omega)])
        have HM := Lib.hid (show ((many (0, 0) : Nat) : Int) = 1 by decide)
        have e2 : decide (3 ≤ (K : Int)) = false := by simp; omega
        go_enter Tryz.func66, Tryz.ntmps66
        go_wp2_with fail
        refine (C_.out _ hbI.out).mono ?_; rintro e w1 ⟨rfl, q, rfl⟩
        go_wp2_with fail
        go_quiet (fail)
        go_wp2_with fail
        exact bodyPost_ret (v := .tuple #[.agg #[_, _], _]) (by simp [results, Tryz.results66, go_sem]) rfl (firstPost_of HR.out HM.out (((below_dn ((Below.refl _ _).alloc (Nat.le_refl _) _) _).setCell (by simp) _).setCell (by simp) _))
  · have e0 : (X == 0) = false := by rw [beq_eq_false_iff_ne]; exact hx0
    have e0' : (X != 0) = true := by rw [bne, e0]; rfl
    by_cases hi0 : i = 0
    · subst hi0
      have HAH := Lib.hid (HQ.out rfl)
      rw [show x.add 0 = x from by simp [Addr.add]] at cx cxA
      have HR := Lib.hid (show firstRun AH X K = (X, 0) by unfold firstRun; rw [if_neg (by omega), if_neg (by omega), if_neg (by have := HAH.out; omega)])
      have HM := Lib.hid (show ((many (X, 0) : Nat) : Int) = 1 by unfold many; rw [if_neg (by simp; omega), if_neg (by simp; omega)]; rfl)
      clear hx0
      go_enter Tryz.func66, Tryz.ntmps66
      go_wp2_with fail
      refine (C_.out _ hbI.out).mono ?_; rintro e w1 ⟨rfl, q, rfl⟩
      go_wp2_with fail
      go_quiet (fail)
      go_wp2_with fail
      exact bodyPost_ret (v := .tuple #[.agg #[_, _], _]) (by simp [results, Tryz.results66, go_sem]) rfl (firstPost_of HR.out HM.out (((below_dn ((Below.refl _ _).alloc (Nat.le_refl _) _) _).setCell (by simp) _).setCell (by simp) _))
    · have hi1 : decide (0 < (i : Int)) = true := by simp; omega
      have hi1n : decide (0 < i) = true := by simp; omega
      have him : ((i : Int) - 1).toNat = i - 1 := by omega
      have hi64 : IntKind.i64.wrap ((i : Int) - 1) = (i : Int) - 1 := IntWalk.i64_in _ (by omega)
      have cy := HAA.out (by omega)
      have hp := HP.out (by omega)
      rw [← hp] at cy
      by_cases hy : AH = X
      · have e2 : (AH == X) = true := by rw [beq_iff_eq]; exact hy
        by_cases h3 : 3 ≤ K
        · have HR := Lib.hid (show firstRun AH X K = (16, ((min K 6 : Nat) : Int) - 3) by unfold firstRun; rw [if_neg (by omega), if_neg (by omega), if_pos ⟨hx0, hy, h3⟩])
          have HM := Lib.hid (show ((many (16, ((min K 6 : Nat) : Int) - 3) : Nat) : Int) = (min K 6 : Nat) by unfold many; simp; omega)
          have e3 : decide (3 ≤ (K : Int)) = true := by simp; omega
          subst hy
          clear hp hx0
          by_cases h6 : K ≤ 6
          · have hmn : min (K : Int) 6 = (K : Int) := by omega
            rw [show min K 6 = K by omega] at HR HM
            go_enter Tryz.func66, Tryz.ntmps66
            go_wp2_with fail
            refine (C_.out _ hbI.out).mono ?_; rintro e w1 ⟨rfl, q, rfl⟩
            go_wp2_with fail
            go_quiet (fail)
            go_wp2_with fail
            exact bodyPost_ret (v := .tuple #[.agg #[_, _], _]) (by simp [results, Tryz.results66, go_sem]) rfl (firstPost_of HR.out HM.out (((below_dn ((Below.refl _ _).alloc (Nat.le_refl _) _) _).setCell (by simp) _).setCell (by simp) _))
          · have hmn : min (K : Int) 6 = 6 := by omega
            rw [show min K 6 = 6 by omega] at HR HM
            go_enter Tryz.func66, Tryz.ntmps66
            go_wp2_with fail
            refine (C_.out _ hbI.out).mono ?_; rintro e w1 ⟨rfl, q, rfl⟩
            go_wp2_with fail
            go_quiet (fail)
            go_wp2_with fail
            exact bodyPost_ret (v := .tuple #[.agg #[_, _], _]) (by simp [results, Tryz.results66, go_sem]) rfl (firstPost_of HR.out HM.out (((below_dn ((Below.refl _ _).alloc (Nat.le_refl _) _) _).setCell (by simp) _).setCell (by simp) _))
        · have HR := Lib.hid (show firstRun AH X K = (X, 0) by unfold firstRun; rw [if_neg (by omega), if_neg (by omega), if_neg (by omega)])
          have HM := Lib.hid (show ((many (X, 0) : Nat) : Int) = 1 by unfold many; rw [if_neg (by simp; omega), if_neg (by simp; omega)]; rfl)
          have e3 : decide (3 ≤ (K : Int)) = false := by simp; omega
          subst hy
          clear hp hx0
          go_enter Tryz.func66, Tryz.ntmps66
          go_wp2_with fail
          refine (C_.out _ hbI.out).mono ?_; rintro e w1 ⟨rfl, q, rfl⟩
          go_wp2_with fail
          go_quiet (fail)
          go_wp2_with fail
          exact bodyPost_ret (v := .tuple #[.agg #[_, _], _]) (by simp [results, Tryz.results66, go_sem]) rfl (firstPost_of HR.out HM.out (((below_dn ((Below.refl _ _).alloc (Nat.le_refl _) _) _).setCell (by simp) _).setCell (by simp) _))
      · have e2 : (AH == X) = false := by rw [beq_eq_false_iff_ne]; exact hy
        have HR := Lib.hid (show firstRun AH X K = (X, 0) by unfold firstRun; rw [if_neg (by omega), if_neg (by omega), if_neg (by omega)])
        have HM := Lib.hid (show ((many (X, 0) : Nat) : Int) = 1 by unfold many; rw [if_neg (by simp; omega), if_neg (by simp; omega)]; rfl)
        clear hp hy hx0
        go_enter Tryz.func66, Tryz.ntmps66
        go_wp2_with fail
        refine (C_.out _ hbI.out).mono ?_; rintro e w1 ⟨rfl, q, rfl⟩
        go_wp2_with fail
        go_quiet (fail)
        go_wp2_with fail
        exact bodyPost_ret (v := .tuple #[.agg #[_, _], _]) (by simp [results, Tryz.results66, go_sem]) rfl (firstPost_of HR.out HM.out (((below_dn ((Below.refl _ _).alloc (Nat.le_refl _) _) _).setCell (by simp) _).setCell (by simp) _))
end Go.Proofs.YtipcdkemokkdfaaGreat
