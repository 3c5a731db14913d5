/- The contract of layer 52's Entropy, and the chapter's examples. -/
import Derived.Test.YtlcdjilmfjdmhaaA1
namespace Go.Proofs.Ytlcdjilmfjdmhaa
open Go.ChangeShapes Go.WideShapes Go.ChangeAt Go.RowKit
set_option linter.unusedVariables false
set_option maxRecDepth 100000

/-- A row of numbers in memory. -/
def RowAt (k : IntKind) (w : World) (a : Option Addr) (zs : List Int) : Prop := zs = [] ∨ ∃ x, a = some x ∧ ∀ i, i < zs.length → w.cell? (x.add i) = some (.int k (zs.getD i 0))

/-- All together, if they may be. -/
def okF : Int → List Int → Option Int
  | all, [] => some all
  | all, f :: l => if f < 0 ∨ 4294967295 - all < f then none else okF (all + f) l
/-- What they need, all together being A. -/
def needF (A : Nat) : List Int → Int
  | [] => 0
  | f :: l => (if 0 < f then f * ((lg A : Int) - (lg f.toNat : Int)) else 0) + needF A l

theorem drop_cons (zs : List Int) (k : Nat) (h : k < zs.length) : zs.drop k = zs.getD k 0 :: zs.drop (k + 1) := by
  rw [List.drop_eq_getElem_cons h]; simp [List.getD, h]
theorem needF_append (A : Nat) (a b : List Int) : needF A (a ++ b) = needF A a + needF A b := by
  induction a with
  | nil => simp [needF]
  | cons f a ih => simp only [List.cons_append, needF, ih]; omega
theorem needF_snoc (A : Nat) (zs : List Int) (k : Nat) (h : k < zs.length) : needF A (zs.take (k + 1)) = needF A (zs.take k) + (if 0 < zs.getD k 0 then zs.getD k 0 * ((lg A : Int) - (lg (zs.getD k 0).toNat : Int)) else 0) := by
  rw [List.take_succ_eq_append_getElem h, needF_append]; simp [needF, List.getD, h]

theorem stepL_bdp (p : Nat × Nat) (h0 : 2147483648 ≤ p.2) (h1 : p.2 < 4294967296) : 2147483648 ≤ (stepL p).2 ∧ (stepL p).2 < 4294967296 ∧ (stepL p).1 ≤ 2 * p.1 + 1 := stepL_bd p.1 p.2 h0 h1
theorem lg_le (n : Nat) (h0 : 1 ≤ n) (h : n ≤ 4294967295) : lg n ≤ 511 := by
  obtain ⟨k, hk, hk1, hlo, hhi⟩ := bitLen_facts n h0 h
  have hx := norm_bd n k hk1 hlo hhi
  have hg : lg n = (itL (k, n * 2 ^ (31 - k)) 4).1 := by unfold lg; rw [hk]; rfl
  have b1 := stepL_bdp (k, n * 2 ^ (31 - k)) hx.1 hx.2
  have b2 := stepL_bdp _ b1.1 b1.2.1
  have b3 := stepL_bdp _ b2.1 b2.2.1
  have b4 := stepL_bdp _ b3.1 b3.2.1
  have e : itL (k, n * 2 ^ (31 - k)) 4 = stepL (stepL (stepL (stepL (k, n * 2 ^ (31 - k))))) := rfl
  rw [hg, e]
  have h1 := b1.2.2; have h2 := b2.2.2; have h3 := b3.2.2; have h4 := b4.2.2
  simp only at h1
  omega

theorem okF_some (zs : List Int) : ∀ all A, okF all zs = some A → all ≤ 4294967295 → (∀ f, f ∈ zs → 0 ≤ f) ∧ all + zs.sum = A ∧ A ≤ 4294967295 := by
  induction zs with
  | nil => intro all A h ha; simp [okF] at h; subst h; simp; exact ha
  | cons f l ih =>
    intro all A h ha
    simp only [okF] at h
    split at h
    · cases h
    · rename_i hc
      obtain ⟨h1, h2, h3⟩ := ih _ _ h (by omega)
      refine ⟨fun g hg => ?_, by rw [List.sum_cons]; omega, h3⟩
      rcases List.mem_cons.1 hg with rfl | hg
      · omega
      · exact h1 g hg

theorem mul_bd (f d : Int) (h0 : 0 ≤ f) (h1 : -511 ≤ d) (h2 : d ≤ 511) : -(511 * f) ≤ f * d ∧ f * d ≤ 511 * f := by
  have a := Int.mul_le_mul_of_nonneg_left h1 h0
  have b := Int.mul_le_mul_of_nonneg_left h2 h0
  omega
theorem mem_sum_le (zs : List Int) (h : ∀ f, f ∈ zs → 0 ≤ f) : 0 ≤ zs.sum ∧ ∀ f, f ∈ zs → f ≤ zs.sum := by
  induction zs with
  | nil => simp
  | cons g l ih =>
    have hi := ih (fun f hf => h f (List.mem_cons_of_mem _ hf))
    have hg := h g List.mem_cons_self
    refine ⟨by rw [List.sum_cons]; omega, fun f hf => ?_⟩
    rw [List.sum_cons]
    rcases List.mem_cons.1 hf with rfl | hf
    · omega
    · have := hi.2 f hf; omega
theorem needF_bd (A : Nat) (hA : A ≤ 4294967295) (zs : List Int) (h : ∀ f, f ∈ zs → 0 ≤ f ∧ f ≤ A) : -(511 * zs.sum) ≤ needF A zs ∧ needF A zs ≤ 511 * zs.sum := by
  induction zs with
  | nil => simp [needF]
  | cons f l ih =>
    have hi := ih (fun g hg => h g (List.mem_cons_of_mem _ hg))
    have hf := h f List.mem_cons_self
    simp only [needF, List.sum_cons]
    split
    · have h1 := lg_le A (by omega) hA
      have h2 := lg_le f.toNat (by omega) (by omega)
      have := mul_bd f ((lg A : Int) - (lg f.toNat : Int)) hf.1 (by omega) (by omega)
      omega
    · omega
theorem sum_take_le (zs : List Int) (k : Nat) (h : ∀ f, f ∈ zs → 0 ≤ f) : (zs.take k).sum ≤ zs.sum := by
  have e : zs.sum = (zs.take k).sum + (zs.drop k).sum := by rw [← List.sum_append, List.take_append_drop]
  have := (mem_sum_le (zs.drop k) (fun f hf => h f (List.mem_of_mem_drop hf))).1
  omega

def EntPost (zs : List Int) (w : World) (e : Ending) (w' : World) : Prop :=
  w = w' ∧ match okF 0 zs with
    | none => e = .returned (.tuple #[.int .i64 0, .int .i64 2])
    | some A => e = .returned (.tuple #[.int .i64 (needF A.toNat zs), .int .i64 0])

set_option maxHeartbeats 1600000 in
theorem Entropy_any (a : Option Addr) (n c : Nat) (zs : List Int) (w : World) (hn : zs.length = n) (hm : n ≤ 9223372036854775807) (hr : RowAt .i64 w a zs) :
    Calls Try.prog 53 #[.slice a n c] w (EntPost zs w) := by
  subst hn
  go_enter Try.func53, Try.ntmps53
  go_wp2
  go_loop [4, 12] (fun s i => ∃ (k : Nat) (all : Int), k ≤ zs.length ∧ i = .int .i64 k ∧ s = .int .i64 all ∧ 0 ≤ all ∧ all ≤ 4294967295 ∧ okF 0 zs = okF all (zs.drop k)) (fun _ i => zs.length - (intOf i).toNat)
  case atStart => exact ⟨0, 0, Nat.zero_le _, rfl, rfl, by omega, by omega, rfl⟩
  case round =>
    obtain ⟨k, all, hk, rfl, rfl, h0, h1, ho⟩ := hrel
    by_cases hlt : k < zs.length
    · obtain ⟨x, rfl, hcell⟩ : ∃ x, a = some x ∧ ∀ i, i < zs.length → w.cell? (x.add i) = some (.int .i64 (zs.getD i 0)) := by
        rcases hr with h | h
        · subst h; simp at hlt
        · exact h
      have hc := hcell k hlt
      rw [drop_cons zs k hlt] at ho
      obtain ⟨f, hf⟩ : ∃ f, zs.getD k 0 = f := ⟨_, rfl⟩
      rw [hf] at hc ho
      have HC := Lib.hid hcell; have HF := Lib.hid hf; clear hcell hf
      by_cases c1 : f < 0
      · have hq : okF 0 zs = none := by rw [ho]; simp only [okF, if_pos (Or.inl c1)]
        have HQ := Lib.hid hq; clear hq ho
        go_wp2
        go_ret2
        exact ⟨rfl, by rw [HQ.out]; rfl⟩
      · by_cases c2 : 4294967295 - all < f
        · have hq : okF 0 zs = none := by rw [ho]; simp only [okF, if_pos (Or.inr c2)]
          have HQ := Lib.hid hq; clear hq ho
          go_wp2
          go_ret2
          exact ⟨rfl, by rw [HQ.out]; rfl⟩
        · have hq : okF 0 zs = okF (all + f) (zs.drop (k + 1)) := by rw [ho, okF, if_neg (by omega)]
          have HQ := Lib.hid hq; clear hq ho
          go_wp2
          go_round
          case rel => exact ⟨k + 1, all + f, by omega, by go_num, rfl, by omega, by omega, HQ.out⟩
          case measure => simp [intOf]; omega
    · obtain rfl : k = zs.length := by omega
      have hA : okF 0 zs = some all := by rw [ho, List.drop_length]; rfl
      obtain ⟨A, rfl⟩ := Int.eq_ofNat_of_zero_le h0
      have hs := okF_some zs 0 A hA (by omega)
      have hsum : zs.sum = (A : Int) := by omega
      have hm2 := mem_sum_le zs hs.1
      have hmem : ∀ f, f ∈ zs → 0 ≤ f ∧ f ≤ (A : Int) := fun f hf => ⟨hs.1 f hf, by have := hm2.2 f hf; omega⟩
      have HA := Lib.hid hA; have HM := Lib.hid hmem; have HS := Lib.hid hs.1; have HSUM := Lib.hid hsum
      clear hA ho hs hsum hm2 hmem
      go_wp2_with fail
      go_loop [7, 30] (fun s i => ∃ k : Nat, k ≤ zs.length ∧ i = .int .i64 k ∧ s = .int .i64 (needF A (zs.take k))) (fun _ i => zs.length - (intOf i).toNat)
      case atStart => exact ⟨0, Nat.zero_le _, rfl, rfl⟩
      case round =>
        obtain ⟨k, hk, rfl, rfl⟩ := hrel
        by_cases hlt : k < zs.length
        · obtain ⟨x, rfl, hcell⟩ : ∃ x, a = some x ∧ ∀ i, i < zs.length → w.cell? (x.add i) = some (.int .i64 (zs.getD i 0)) := by
            rcases hr with h | h
            · subst h; simp at hlt
            · exact h
          have hc := hcell k hlt
          have hsn := needF_snoc A zs k hlt
          have hfm := HM.out (zs.getD k 0) (by simp [List.getD, hlt])
          have hb := needF_bd A (by omega) (zs.take k) (fun f hf => HM.out f (List.mem_of_mem_take hf))
          have hst := sum_take_le zs k HS.out
          have hsum := HSUM.out
          have hs0 := (mem_sum_le (zs.take k) (fun f hf => HS.out f (List.mem_of_mem_take hf))).1
          obtain ⟨f, hf⟩ : ∃ f, zs.getD k 0 = f := ⟨_, rfl⟩
          rw [hf] at hc hsn hfm
          obtain ⟨q, hq⟩ : ∃ q, needF A (zs.take k) = q := ⟨_, rfl⟩
          rw [hq] at hsn hb
          have hq0 : -2194728288000 ≤ q := by omega
          have hq1 : q ≤ 2194728288000 := by omega
          obtain ⟨hf0, hf1⟩ := hfm
          have HC := Lib.hid hcell; have HF := Lib.hid hf; have HQ := Lib.hid hq; have HSN := Lib.hid hsn; have HB := Lib.hid hb
          clear hcell hf hq hsn hb hst hsum hs0
          rw [HQ.out]
          by_cases c1 : 0 < f
          · obtain ⟨g, rfl⟩ := Int.eq_ofNat_of_zero_le hf0
            have l1 := lg_le A (by omega) (by omega)
            have l2 := lg_le g (by omega) (by omega)
            have C1 := Lib.hid (log_any A (by omega) (by omega)); have C2 := Lib.hid (log_any g (by omega) (by omega))
            have hmul := mul_bd g ((lg A : Int) - (lg g : Int)) hf0 (by omega) (by omega)
            obtain ⟨X, hX⟩ : ∃ X, lg A = X := ⟨_, rfl⟩
            obtain ⟨Y, hY⟩ : ∃ Y, lg g = Y := ⟨_, rfl⟩
            have e : needF A (zs.take (k + 1)) = q + g * ((X : Int) - (Y : Int)) := by
              have := HSN.out; rw [if_pos c1] at this; rw [this, ← hX, ← hY]; rfl
            have c1' := C1.out; have c2' := C2.out
            rw [hX] at c1' l1 hmul; rw [hY] at c2' l2 hmul
            have D1 := Lib.hid c1'; have D2 := Lib.hid c2'; have E := Lib.hid e
            obtain ⟨hm0, hm1⟩ := hmul
            clear C1 C2 c1' c2' e hX hY
            go_wp2_with fail
            refine (D1.out _).mono ?_; rintro e w' ⟨rfl, rfl⟩
            go_wp2_with fail
            refine (D2.out _).mono ?_; rintro e w' ⟨rfl, rfl⟩
            go_wp2_with fail
            go_round
            case rel => exact ⟨k + 1, by omega, by go_num, by rw [E.out]⟩
            case measure => simp [intOf]; omega
          · have e : needF A (zs.take (k + 1)) = q := by
              have := HSN.out; rw [if_neg c1] at this; omega
            have E := Lib.hid e
            clear e
            go_wp2
            go_round
            case rel => exact ⟨k + 1, by omega, by go_num, by rw [E.out]⟩
            case measure => simp [intOf]; omega
        · have ht : zs.take k = zs := List.take_of_length_le (by omega)
          rw [ht]
          go_wp2
          go_ret2
          exact ⟨rfl, by rw [HA.out]; rfl⟩

theorem Entropy_at (a : Option Addr) (n c : Nat) (zs : List Int) (v e : Int) (w : World) (hn : zs.length = n) (hm : n ≤ 9223372036854775807) (hr : RowAt .i64 w a zs)
    (h : (match okF 0 zs with | none => ((0 : Int), (2 : Int)) | some A => (needF A.toNat zs, 0)) = (v, e)) :
    Calls Try.prog 53 #[.slice a n c] w fun en w' => en = .returned (.tuple #[.int .i64 v, .int .i64 e]) ∧ w = w' :=
  (Entropy_any a n c zs w hn hm hr).mono fun en w' ⟨hw, hp⟩ => ⟨by
    cases ho : okF 0 zs with
    | none => rw [ho] at hp h; simp only [Prod.mk.injEq] at h; obtain ⟨rfl, rfl⟩ := h; exact hp
    | some A => rw [ho] at hp h; simp only [Prod.mk.injEq] at h; obtain ⟨rfl, rfl⟩ := h; exact hp, hw⟩

theorem rowAt_new (w : World) (t : TypeId) (k : IntKind) (zs : List Int) : RowAt k (w.alloc (.cells (zs.map (Value.int k)).toArray t)) (some ⟨w.heap.size, 0, none⟩) zs := by
  refine .inr ⟨_, rfl, fun i hi => ?_⟩
  have e : (⟨w.heap.size, 0, none⟩ : Addr).add i = ⟨w.heap.size, i, none⟩ := by unfold Addr.add; split <;> simp_all
  rw [e]
  simp [World.cell?_alloc_new, List.getD, hi]

theorem needF_zero (zs : List Int) (h : ∀ f, f ∈ zs → f = 0) : needF 0 zs = 0 := by
  induction zs with
  | nil => rfl
  | cons f l ih =>
    have hf := h f List.mem_cons_self
    simp only [needF, ih (fun g hg => h g (List.mem_cons_of_mem _ hg)), hf]; rfl

/-- The logarithm that the reference takes, and its error. -/
def lgE (A : Nat) : Int := if A = 0 then 2 else 0
def lg0 (A : Nat) : Nat := if A = 0 then 0 else lg A
theorem refLog_all (A : Nat) (hA : A ≤ 4294967295) (w : World) :
    Calls Try.prog 94 #[.int .i64 A] w fun e w' => e = .returned (.tuple #[.int .i64 (lg0 A), .int .i64 (lgE A)]) ∧ w = w' := by
  unfold lg0 lgE
  by_cases h : A = 0
  · subst h; exact refLog_out 0 (by decide) w
  · rw [if_neg h, if_neg h]; exact refLog_in A (by omega) hA w

set_option maxHeartbeats 3200000 in
theorem refEntropy_any (a : Option Addr) (n c : Nat) (zs : List Int) (w : World) (hn : zs.length = n) (hm : n ≤ 500) (hr : RowAt .i64 w a zs) :
    Calls Try.prog 54 #[.slice a n c] w (EntPost zs w) := by
  subst hn
  go_enter Try.func54, Try.ntmps54
  go_wp2
  go_loop [4, 5] (fun s i => ∃ (k : Nat) (all : Int), k ≤ zs.length ∧ i = .int .i64 k ∧ s = .int .i64 all ∧ 0 ≤ all ∧ all ≤ 4294967295 ∧ okF 0 zs = okF all (zs.drop k)) (fun _ i => zs.length - (intOf i).toNat)
  case atStart => exact ⟨0, 0, Nat.zero_le _, rfl, rfl, by omega, by omega, rfl⟩
  case round =>
    obtain ⟨k, all, hk, rfl, rfl, h0, h1, ho⟩ := hrel
    by_cases hlt : k < zs.length
    · obtain ⟨x, rfl, hcell⟩ : ∃ x, a = some x ∧ ∀ i, i < zs.length → w.cell? (x.add i) = some (.int .i64 (zs.getD i 0)) := by
        rcases hr with h | h
        · subst h; simp at hlt
        · exact h
      have hc := hcell k hlt
      rw [drop_cons zs k hlt] at ho
      obtain ⟨f, hf⟩ : ∃ f, zs.getD k 0 = f := ⟨_, rfl⟩
      rw [hf] at hc ho
      have HC := Lib.hid hcell; have HF := Lib.hid hf; clear hcell hf
      by_cases c1 : f < 0
      · have hq : okF 0 zs = none := by rw [ho]; simp only [okF, if_pos (Or.inl c1)]
        have HQ := Lib.hid hq; clear hq ho
        go_wp2
        go_ret2
        exact ⟨rfl, by rw [HQ.out]; rfl⟩
      · by_cases c2 : 4294967295 - all < f
        · have hq : okF 0 zs = none := by rw [ho]; simp only [okF, if_pos (Or.inr c2)]
          have HQ := Lib.hid hq; clear hq ho
          go_wp2
          go_ret2
          exact ⟨rfl, by rw [HQ.out]; rfl⟩
        · have hq : okF 0 zs = okF (all + f) (zs.drop (k + 1)) := by rw [ho, okF, if_neg (by omega)]
          have HQ := Lib.hid hq; clear hq ho
          go_wp2
          go_round
          case rel => exact ⟨k + 1, all + f, by omega, by go_num, rfl, by omega, by omega, HQ.out⟩
          case measure => simp [intOf]; omega
    · obtain rfl : k = zs.length := by omega
      have hA : okF 0 zs = some all := by rw [ho, List.drop_length]; rfl
      obtain ⟨A, rfl⟩ := Int.eq_ofNat_of_zero_le h0
      have hs := okF_some zs 0 A hA (by omega)
      have hsum : zs.sum = (A : Int) := by omega
      have hm2 := mem_sum_le zs hs.1
      have hmem : ∀ f, f ∈ zs → 0 ≤ f ∧ f ≤ (A : Int) := fun f hf => ⟨hs.1 f hf, by have := hm2.2 f hf; omega⟩
      have HA := Lib.hid hA; have HM := Lib.hid hmem; have HS := Lib.hid hs.1; have HSUM := Lib.hid hsum
      clear hA ho hs hsum hm2 hmem
      have C0 := Lib.hid (refLog_all A (by omega))
      obtain ⟨X0, hX0⟩ : ∃ X, lg0 A = X := ⟨_, rfl⟩
      obtain ⟨E0, hE0⟩ : ∃ X, lgE A = X := ⟨_, rfl⟩
      have c0 := C0.out
      rw [hX0, hE0] at c0
      have D0 := Lib.hid c0; have HX0 := Lib.hid hX0
      clear C0 c0 hX0 hE0
      go_wp2_with fail
      refine (D0.out _).mono ?_; rintro e w' ⟨rfl, rfl⟩
      go_wp2_with fail
      go_loop [6, 9] (fun s i => ∃ k : Nat, k ≤ zs.length ∧ i = .int .i64 k ∧ s = .int .i64 (needF A (zs.take k))) (fun _ i => zs.length - (intOf i).toNat)
      case atStart => exact ⟨0, Nat.zero_le _, rfl, rfl⟩
      case round =>
        obtain ⟨k, hk, rfl, rfl⟩ := hrel
        by_cases hlt : k < zs.length
        · obtain ⟨x, rfl, hcell⟩ : ∃ x, a = some x ∧ ∀ i, i < zs.length → w.cell? (x.add i) = some (.int .i64 (zs.getD i 0)) := by
            rcases hr with h | h
            · subst h; simp at hlt
            · exact h
          have hc := hcell k hlt
          have hsn := needF_snoc A zs k hlt
          have hfm := HM.out (zs.getD k 0) (by simp [List.getD, hlt])
          have hb := needF_bd A (by omega) (zs.take k) (fun f hf => HM.out f (List.mem_of_mem_take hf))
          have hst := sum_take_le zs k HS.out
          have hsum := HSUM.out
          have hs0 := (mem_sum_le (zs.take k) (fun f hf => HS.out f (List.mem_of_mem_take hf))).1
          obtain ⟨f, hf⟩ : ∃ f, zs.getD k 0 = f := ⟨_, rfl⟩
          rw [hf] at hc hsn hfm
          obtain ⟨q, hq⟩ : ∃ q, needF A (zs.take k) = q := ⟨_, rfl⟩
          rw [hq] at hsn hb
          have hq0 : -2194728288000 ≤ q := by omega
          have hq1 : q ≤ 2194728288000 := by omega
          obtain ⟨hf0, hf1⟩ := hfm
          have HC := Lib.hid hcell; have HF := Lib.hid hf; have HQ := Lib.hid hq; have HSN := Lib.hid hsn; have HB := Lib.hid hb
          clear hcell hf hq hsn hb hst hsum hs0
          rw [HQ.out]
          by_cases c1 : 0 < f
          · obtain ⟨g, rfl⟩ := Int.eq_ofNat_of_zero_le hf0
            have hA0 : lg0 A = lg A := by unfold lg0; rw [if_neg (by omega)]
            have hXX : lg A = X0 := by rw [← hA0]; exact HX0.out
            have l1 := lg_le A (by omega) (by omega)
            have l2 := lg_le g (by omega) (by omega)
            have C2 := Lib.hid (refLog_in g (by omega) (by omega))
            have hmul := mul_bd g ((lg A : Int) - (lg g : Int)) hf0 (by omega) (by omega)
            obtain ⟨Y, hY⟩ : ∃ Y, lg g = Y := ⟨_, rfl⟩
            have e : needF A (zs.take (k + 1)) = q + g * ((X0 : Int) - (Y : Int)) := by
              have := HSN.out; rw [if_pos c1] at this; rw [this, ← hXX, ← hY]; rfl
            have c2' := C2.out
            rw [hXX] at l1 hmul; rw [hY] at c2' l2 hmul
            have D2 := Lib.hid c2'; have E := Lib.hid e
            obtain ⟨hm0, hm1⟩ := hmul
            clear C2 c2' e hXX hY hA0
            go_wp2_with fail
            refine (D2.out _).mono ?_; rintro e w' ⟨rfl, rfl⟩
            go_wp2_with fail
            go_round
            case rel => exact ⟨k + 1, by omega, by go_num, by rw [E.out]⟩
            case measure => simp [intOf]; omega
          · have e : needF A (zs.take (k + 1)) = q := by
              have := HSN.out; rw [if_neg c1] at this; omega
            have E := Lib.hid e
            clear e
            go_wp2
            go_round
            case rel => exact ⟨k + 1, by omega, by go_num, by rw [E.out]⟩
            case measure => simp [intOf]; omega
        · have ht : zs.take k = zs := List.take_of_length_le (by omega)
          rw [ht]
          go_wp2
          go_ret2
          exact ⟨rfl, by rw [HA.out]; rfl⟩

end Go.Proofs.Ytlcdjilmfjdmhaa
