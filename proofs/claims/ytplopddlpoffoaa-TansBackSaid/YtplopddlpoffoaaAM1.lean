/- Layer 59: norms: mathematics; greatest, sum. -/
import Derived.Test.YtplopddlpoffoaaK3
import Derived.Test.YtplopddlpoffoaaK4
namespace Go.Proofs.Ytplopddlpoffoaa
open Go.ChangeShapes Go.WideShapes Go.ChangeAt Go.RowKit
set_option linter.unusedVariables false
set_option linter.unusedSimpArgs false
set_option maxRecDepth 100000
def totL : List Int → Int → Int → Option (Int × Int)
  | [], all, used => some (all, used)
  | f :: l, all, used => if f < 0 ∨ 4294967295 - all < f then none else totL l (all + f) (if 0 < f then used + 1 else used)
def totE (q : Int) : Option (Int × Int) → Int × Int
  | none => (0, 2)
  | some (all, used) => if used = 0 then (0, 7) else if q < used then (0, 6) else (all, 0)
def totV (l : List Int) (n : Int) : Int × Int :=
  if n < 5 ∨ 12 < n then (0, 1) else if 256 < l.length then (0, 5) else totE (2 ^ n.toNat) (totL l 0 0)
def grTo (l : List Int) : Nat → Nat
  | 0 => 0
  | k + 1 => if l.getD (grTo l k) 0 < l.getD k 0 then k else grTo l k
theorem grTo_lt (l : List Int) (k : Nat) : grTo l k < k ∨ grTo l k = 0 := by
  induction k with
  | zero => right; rfl
  | succ k ih => simp only [grTo]; split <;> omega
abbrev grL (l : List Int) : Nat := grTo l l.length
theorem grL_lt {l : List Int} (h : 0 < l.length) : grL l < l.length := by have := grTo_lt l l.length; unfold grL; omega
theorem gr_max (l : List Int) (k : Nat) : ∀ i, i < k → l.getD i 0 ≤ l.getD (grTo l k) 0 := by
  induction k with
  | zero => intro i hi; omega
  | succ k ih =>
    intro i hi
    simp only [grTo]
    split
    · rename_i h
      by_cases e : i = k
      · subst e; exact Int.le_refl _
      · have := ih i (by omega); omega
    · rename_i h
      by_cases e : i = k
      · subst e; omega
      · exact ih i (by omega)
def sumI : List Int → Int
  | [] => 0
  | x :: l => x + sumI l
theorem sumI_set (l : List Int) (i : Nat) (x : Int) (h : i < l.length) : sumI (l.set i x) = sumI l - l.getD i 0 + x := by
  induction l generalizing i with
  | nil => simp at h
  | cons y l ih =>
    cases i with
    | zero => simp [sumI]; omega
    | succ i =>
      have := ih i (by simpa using h)
      simp [sumI] at this ⊢; omega
theorem sumI_take (l : List Int) (k : Nat) (h : k < l.length) : sumI (l.take (k + 1)) = sumI (l.take k) + l.getD k 0 := by
  induction l generalizing k with
  | nil => simp at h
  | cons y l ih =>
    cases k with
    | zero => simp [sumI]
    | succ k =>
      have := ih k (by simpa using h)
      simp [sumI] at this ⊢; omega
theorem sumI_bd (l : List Int) (lo hi : Int) (h : ∀ i, i < l.length → lo ≤ l.getD i 0 ∧ l.getD i 0 ≤ hi) : ∀ k, k ≤ l.length → lo * k ≤ sumI (l.take k) ∧ sumI (l.take k) ≤ hi * k := by
  intro k
  induction k with
  | zero => intro _; simp [sumI]
  | succ k ih =>
    intro hk
    have h1 := ih (by omega)
    have h2 := h k (by omega)
    rw [sumI_take l k (by omega)]
    have e1 : lo * ((k + 1 : Nat) : Int) = lo * k + lo := by rw [Int.natCast_add, Int.mul_add]; simp
    have e2 : hi * ((k + 1 : Nat) : Int) = hi * k + hi := by rw [Int.natCast_add, Int.mul_add]; simp
    omega
def decs : Nat → List Int → List Int
  | 0, l => l
  | j + 1, l => (decs j l).set (grL (decs j l)) ((decs j l).getD (grL (decs j l)) 0 - 1)
theorem decs_len (j : Nat) (l : List Int) : (decs j l).length = l.length := by
  induction j with
  | zero => rfl
  | succ j ih => simp [decs, ih]
theorem decs_sum (j : Nat) (l : List Int) (h : 0 < l.length) : sumI (decs j l) = sumI l - j := by
  induction j with
  | zero => simp [decs]
  | succ j ih =>
    simp only [decs]
    rw [sumI_set _ _ _ (grL_lt (by rw [decs_len]; exact h)), ih]
    omega
def inB (l : List Int) (lo hi : Int) : Prop := ∀ i, i < l.length → lo ≤ l.getD i 0 ∧ l.getD i 0 ≤ hi
theorem set_get0 (o : List Int) (t i : Nat) (v : Int) (ht : t < o.length) : (o.set t v).getD i 0 = if t = i then v else o.getD i 0 := by
  simp only [List.getD_eq_getElem?_getD, List.getElem?_set]
  by_cases e : t = i
  · subst e; simp [ht]
  · simp [e]
theorem decs_bd (j : Nat) (l : List Int) (h : 0 < l.length) (hi : Int) (h0 : 0 ≤ hi) (hb : inB l 0 hi) : inB (decs j l) (-(j : Int)) hi := by
  induction j with
  | zero => simpa [decs] using hb
  | succ j ih =>
    intro i hi2
    rw [decs_len] at hi2
    simp only [decs]
    have hg := grL_lt (l := decs j l) (by rw [decs_len]; exact h)
    rw [set_get0 _ _ _ _ hg]
    have h1 := ih i (by rw [decs_len]; exact hi2)
    have h2 := ih _ hg
    split <;> omega
def norm0 (l : List Int) (q all : Int) : List Int := l.map fun f => if 0 < f then max 1 (f * q / all) else 0
theorem norm0_get (l : List Int) (q all : Int) (i : Nat) (h : i < l.length) : (norm0 l q all).getD i 0 = if 0 < l.getD i 0 then max 1 (l.getD i 0 * q / all) else 0 := by
  simp [norm0, List.getD_eq_getElem?_getD, h]
def normL (l : List Int) (q all : Int) : List Int :=
  let o := decs (sumI (norm0 l q all) - q).toNat (norm0 l q all)
  o.set (grL o) (o.getD (grL o) 0 + q - sumI o)
theorem normL_len (l : List Int) (q all : Int) : (normL l q all).length = l.length := by
  unfold normL
  simp only [List.length_set, decs_len]
  simp [norm0]
set_option maxHeartbeats 1600000 in
theorem cGreatest (a : Option Addr) (c : Nat) (l : List Int) (w : World) (h : IsInts w a l) (hl : l.length ≤ 1000) : Calls Try.prog 24 #[.slice a l.length c] w fun e w' => e = .returned (.int .i64 ((grL l : Nat) : Int)) ∧ w' = w := by
  have HI := Lib.hid h
  have HG := Lib.hid (fun k => grTo_lt l k)
  clear h
  go_enter Try.func24, Try.ntmps24
  go_wp2_with fail
  go_loopw [3, 8] (fun av iv wr => ∃ k : Nat, k ≤ l.length ∧ iv = .int .i64 k ∧ av = .int .i64 ((grTo l k : Nat) : Int) ∧ wr = w) (fun _ iv _ => l.length - (intOf iv).toNat)
  case atStart => exact ⟨0, Nat.zero_le _, rfl, rfl, rfl⟩
  case round =>
    obtain ⟨k, hk, rfl, rfl, rfl⟩ := hrel
    by_cases hlt : k < l.length
    · obtain ⟨x, rfl, -, cx0⟩ := HI.out.at k hlt
      have hg := HG.out k
      have cx := cx0 k hlt
      have cg := cx0 (grTo l k) (by omega)
      clear cx0
      obtain ⟨G, hGe⟩ : ∃ G, grTo l k = G := ⟨_, rfl⟩
      have HST := Lib.hid (show grTo l (k + 1) = if l.getD (grTo l k) 0 < l.getD k 0 then k else grTo l k from rfl)
      rw [hGe] at cg hg HST ⊢
      obtain ⟨U, hU⟩ : ∃ U, l.getD G 0 = U := ⟨_, rfl⟩
      obtain ⟨V, hV⟩ : ∃ V, l.getD k 0 = V := ⟨_, rfl⟩
      rw [hU, hV] at HST
      rw [hU] at cg
      rw [hV] at cx
      have hGl : (G : Int) < (l.length : Int) := by omega
      have hG0 : (0 : Int) ≤ (G : Int) := by omega
      clear hU hV hGe
      by_cases hlt2 : U < V
      · rw [if_pos hlt2] at HST
        go_wp2_with fail
        go_roundw
        case rel => exact ⟨k + 1, by omega, by go_num, by rw [HST.out], by first | rfl | trivial⟩
        case measure => simp [intOf]; omega
      · rw [if_neg hlt2] at HST
        go_wp2_with fail
        go_roundw
        case rel => exact ⟨k + 1, by omega, by go_num, by rw [HST.out], by first | rfl | trivial⟩
        case measure => simp [intOf]; omega
    · obtain rfl : k = l.length := by omega
      go_wp2_with fail
      go_ret
      exact ⟨rfl, rfl⟩
set_option maxHeartbeats 1600000 in
theorem dGreatest (a : Option Addr) (c : Nat) (l : List Int) (w : World) (h : IsInts w a l) (hl : l.length ≤ 1000) : Calls Try.prog 27 #[.slice a l.length c] w fun e w' => e = .returned (.int .i64 ((grL l : Nat) : Int)) ∧ ∃ j, w' = w.drewN j := by
  have HI := Lib.hid h
  have HG := Lib.hid (fun k => grTo_lt l k)
  clear h
  go_enter Try.func27, Try.ntmps27
  go_wp2_with fail
  go_loopw [3, 4] (fun av iv wr => ∃ k : Nat, k ≤ l.length ∧ iv = .int .i64 k ∧ av = .int .i64 ((grTo l k : Nat) : Int) ∧ ∃ j, wr = w.drewN j) (fun _ iv _ => l.length - (intOf iv).toNat)
  case atStart => exact ⟨0, Nat.zero_le _, rfl, rfl, 0, rfl⟩
  case round =>
    obtain ⟨k, hk, rfl, rfl, j, rfl⟩ := hrel
    by_cases hlt : k < l.length
    · obtain ⟨x, rfl, -, cx0⟩ := HI.out.at k hlt
      have hg := HG.out k
      have cx := cx0 k hlt
      have cg := cx0 (grTo l k) (by omega)
      clear cx0
      obtain ⟨G, hGe⟩ : ∃ G, grTo l k = G := ⟨_, rfl⟩
      have HST := Lib.hid (show grTo l (k + 1) = if l.getD (grTo l k) 0 < l.getD k 0 then k else grTo l k from rfl)
      rw [hGe] at cg hg HST ⊢
      obtain ⟨U, hU⟩ : ∃ U, l.getD G 0 = U := ⟨_, rfl⟩
      obtain ⟨V, hV⟩ : ∃ V, l.getD k 0 = V := ⟨_, rfl⟩
      rw [hU, hV] at HST
      rw [hU] at cg
      rw [hV] at cx
      have hGl : (G : Int) < (l.length : Int) := by omega
      have hG0 : (0 : Int) ≤ (G : Int) := by omega
      have hkl : (k : Int) < (l.length : Int) := by omega
      clear hU hV hGe
      by_cases hlt2 : U < V
      · rw [if_pos hlt2] at HST
        go_wp2_with fail
        go_quiet (fail)
        go_wp2_with fail
        go_roundw
        case rel => exact ⟨k + 1, by omega, by go_num, by rw [HST.out], _, rfl⟩
        case measure => simp [intOf]; omega
      · rw [if_neg hlt2] at HST
        go_wp2_with fail
        go_quiet (fail)
        go_wp2_with fail
        go_roundw
        case rel => exact ⟨k + 1, by omega, by go_num, by rw [HST.out], _, rfl⟩
        case measure => simp [intOf]; omega
    · obtain rfl : k = l.length := by omega
      go_wp2_with fail
      go_ret
      exact ⟨rfl, j, rfl⟩
set_option maxHeartbeats 1600000 in
theorem dSum (a : Option Addr) (c : Nat) (l : List Int) (w : World) (h : IsInts w a l) (hl : l.length ≤ 1000) (hb : inB l (-4294967296) 4294967296) : Calls Try.prog 26 #[.slice a l.length c] w fun e w' => e = .returned (.int .i64 (sumI l)) ∧ w' = w := by
  have HI := Lib.hid h
  have HS := Lib.hid (fun k hk => sumI_take l k hk)
  have HB := Lib.hid (sumI_bd l _ _ hb)
  have HBB := Lib.hid hb
  have HT := Lib.hid (show l.take l.length = l from List.take_length)
  clear h hb
  go_enter Try.func26, Try.ntmps26
  go_wp2_with fail
  go_loopw [3, 4] (fun av iv wr => ∃ k : Nat, k ≤ l.length ∧ iv = .int .i64 k ∧ av = .int .i64 (sumI (l.take k)) ∧ wr = w) (fun _ iv _ => l.length - (intOf iv).toNat)
  case atStart => exact ⟨0, Nat.zero_le _, rfl, rfl, rfl⟩
  case round =>
    obtain ⟨k, hk, rfl, rfl, rfl⟩ := hrel
    by_cases hlt : k < l.length
    · obtain ⟨x, rfl, -, cx0⟩ := HI.out.at k hlt
      have cx := cx0 k hlt
      have h1 := HB.out k hk
      have h2 := HBB.out k hlt
      have HST := Lib.hid (HS.out k hlt)
      clear cx0
      obtain ⟨U, hU⟩ : ∃ U, sumI (l.take k) = U := ⟨_, rfl⟩
      obtain ⟨V, hV⟩ : ∃ V, l.getD k 0 = V := ⟨_, rfl⟩
      rw [hU, hV] at HST
      rw [hU] at h1 ⊢
      rw [hV] at cx h2
      have hw : IntKind.i64.wrap (U + V) = U + V := by rw [IntKind.wrap_i64]; omega
      clear hU hV h1 h2
      go_wp2_with fail
      go_roundw
      case rel => exact ⟨k + 1, by omega, by go_num, by rw [HST.out], by first | rfl | trivial⟩
      case measure => simp [intOf]; omega
    · obtain rfl : k = l.length := by omega
      go_wp2_with fail
      go_ret
      exact ⟨by rw [HT.out]; rfl, rfl⟩
end Go.Proofs.Ytplopddlpoffoaa
