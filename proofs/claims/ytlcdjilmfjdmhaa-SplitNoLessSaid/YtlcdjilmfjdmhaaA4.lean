/- Layer 53: what the bytes of a text need (mathematics over layer 52's). -/
import Derived.Test.YtlcdjilmfjdmhaaA3
namespace Go.Proofs.Ytlcdjilmfjdmhaa
set_option linter.unusedVariables false
set_option linter.unusedSimpArgs false
set_option maxRecDepth 100000
def cn (L : List UInt8) (b : Nat) : Nat := L.countP (fun x => decide (x.toNat = b))
def wt (n : Nat) : Int := (n : Int) * (lg n : Int)
def sumR (f : Nat → Int) : Nat → Int
  | 0 => 0
  | n + 1 => sumR f n + f n
theorem sumR_congr {f g : Nat → Int} : ∀ n, (∀ b, b < n → f b = g b) → sumR f n = sumR g n
  | 0, _ => rfl
  | n + 1, h => by rw [sumR, sumR, sumR_congr n (fun b hb => h b (by omega)), h n (by omega)]
theorem sumR_upd {f g : Nat → Int} (x : Nat) (h : ∀ b, b ≠ x → g b = f b) : ∀ n, sumR g n = sumR f n + if x < n then g x - f x else 0
  | 0 => by simp [sumR]
  | n + 1 => by
    rw [sumR, sumR, sumR_upd x h n]
    by_cases e : x = n
    · subst e; simp; omega
    · rw [h n (fun h2 => e h2.symm)]
      by_cases e2 : x < n
      · rw [if_pos e2, if_pos (by omega)]; omega
      · rw [if_neg e2, if_neg (by omega)]; omega
theorem sumR_le {f g : Nat → Int} : ∀ n, (∀ b, b < n → f b ≤ g b) → sumR f n ≤ sumR g n
  | 0, _ => Int.le_refl _
  | n + 1, h => by
    have := sumR_le n (fun b hb => h b (by omega))
    have := h n (by omega)
    rw [sumR, sumR]; omega
theorem sumR_lin (u v : Nat → Int) (k : Int) : ∀ n, sumR (fun b => u b * k - v b) n = sumR u n * k - sumR v n
  | 0 => by simp [sumR]
  | n + 1 => by rw [sumR, sumR, sumR, sumR_lin u v k n, Int.add_mul]; omega
theorem sumR_zero (n : Nat) : sumR (fun _ => 0) n = 0 := by
  induction n with
  | zero => rfl
  | succ n ih => rw [sumR, ih]; rfl
theorem sumR_mul (u : Nat → Int) (k : Int) : ∀ n, sumR (fun b => k * u b) n = k * sumR u n
  | 0 => by simp [sumR]
  | n + 1 => by rw [sumR, sumR, sumR_mul u k n, Int.mul_add]
theorem cn_snoc (L : List UInt8) (x : UInt8) (b : Nat) : cn (L ++ [x]) b = cn L b + if x.toNat = b then 1 else 0 := by
  unfold cn
  rw [List.countP_append]
  by_cases h : x.toNat = b <;> simp [h]
theorem cn_le (L : List UInt8) (b : Nat) : cn L b ≤ L.length := List.countP_le_length
def esum (L : List UInt8) : Int := sumR (fun b => wt (cn L b)) 256
def ent (L : List UInt8) : Int := wt L.length - esum L
theorem wt_zero : wt 0 = 0 := by simp [wt]
theorem esum_nil : esum [] = 0 := by
  have : (fun b => wt (cn [] b)) = fun _ => (0 : Int) := by funext b; simp [cn, wt]
  unfold esum; rw [this, sumR_zero]
theorem esum_snoc (L : List UInt8) (x : UInt8) : esum (L ++ [x]) = esum L - wt (cn L x.toNat) + wt (cn L x.toNat + 1) := by
  unfold esum
  rw [sumR_upd (f := fun b => wt (cn L b)) (g := fun b => wt (cn (L ++ [x]) b)) x.toNat (fun b hb => by rw [cn_snoc, if_neg (fun h => hb h.symm), Nat.add_zero]) 256, if_pos x.toNat_lt]
  simp only [cn_snoc, if_pos rfl]
  simp; omega
theorem cn_sum : ∀ L : List UInt8, sumR (fun b => (cn L b : Int)) 256 = (L.length : Int) := by
  intro L
  induction L with
  | nil =>
    have : (fun b => (cn [] b : Int)) = fun _ => (0 : Int) := by funext b; simp [cn]
    rw [this, sumR_zero]; rfl
  | cons x t ih =>
    have hc : ∀ b, cn (x :: t) b = cn t b + if x.toNat = b then 1 else 0 := by
      intro b; unfold cn; rw [List.countP_cons]; simp
    rw [sumR_upd (f := fun b => (cn t b : Int)) (g := fun b => (cn (x :: t) b : Int)) x.toNat (fun b hb => by rw [hc, if_neg (fun h => hb h.symm), Nat.add_zero]) 256, if_pos x.toNat_lt, ih]
    simp only [hc, if_pos rfl, List.length_cons]
    simp; omega
def frq (L : List UInt8) : List Int := (List.range 256).map (fun b => (cn L b : Int))
theorem needF_range (A : Nat) (f : Nat → Int) : ∀ n, needF A ((List.range n).map f) = sumR (fun b => if 0 < f b then f b * ((lg A : Int) - (lg (f b).toNat : Int)) else 0) n
  | 0 => rfl
  | n + 1 => by
    rw [List.range_succ, List.map_append, needF_append, needF_range A f n]
    simp [needF, sumR]
theorem sum_range (f : Nat → Int) : ∀ n, ((List.range n).map f).sum = sumR f n
  | 0 => rfl
  | n + 1 => by
    rw [List.range_succ, List.map_append, List.sum_append, sum_range f n]
    simp [sumR]
theorem frq_term (L : List UInt8) (A b : Nat) : (if 0 < (cn L b : Int) then (cn L b : Int) * ((lg A : Int) - (lg (cn L b : Int).toNat : Int)) else 0) = (cn L b : Int) * (lg A : Int) - wt (cn L b) := by
  unfold wt
  by_cases h : 0 < (cn L b : Int)
  · rw [if_pos h, Int.toNat_natCast, Int.mul_sub]
  · have : cn L b = 0 := by omega
    rw [if_neg h, this]; simp
theorem need_frq (L : List UInt8) : needF L.length (frq L) = ent L := by
  unfold frq ent
  rw [needF_range, sumR_congr 256 (fun b _ => frq_term L L.length b), sumR_lin, cn_sum]
  rfl
theorem okF_all (zs : List Int) : ∀ all : Int, (∀ f ∈ zs, 0 ≤ f) → all + zs.sum ≤ 4294967295 → okF all zs = some (all + zs.sum) := by
  induction zs with
  | nil => intro all _ _; simp [okF]
  | cons f l ih =>
    intro all h hs
    rw [List.sum_cons] at hs
    have h0 := h f List.mem_cons_self
    have hl := mem_sum_le l (fun g hg => h g (List.mem_cons_of_mem _ hg))
    rw [okF, if_neg (by omega), ih (all + f) (fun g hg => h g (List.mem_cons_of_mem _ hg)) (by omega), List.sum_cons, Int.add_assoc]
theorem frq_nonneg (L : List UInt8) : ∀ f ∈ frq L, 0 ≤ f := by
  intro f hf
  obtain ⟨b, -, rfl⟩ := List.mem_map.1 hf
  omega
theorem ok_frq (L : List UInt8) (h : L.length ≤ 4294967295) : okF 0 (frq L) = some (L.length : Int) := by
  have hs : (frq L).sum = (L.length : Int) := by unfold frq; rw [sum_range, cn_sum]
  rw [okF_all _ 0 (frq_nonneg L) (by omega), hs]; simp
theorem ent_nonneg (L : List UInt8) (h : L.length ≤ 4294967295) : 0 ≤ ent L := by
  have hn : ∀ b, b < 256 → (0 : Int) ≤ (fun b => if 0 < (cn L b : Int) then (cn L b : Int) * ((lg L.length : Int) - (lg (cn L b : Int).toNat : Int)) else 0) b := by
    intro b _
    simp only
    split
    · rename_i hp
      have hl := cn_le L b
      have hm := lg_mono (cn L b) L.length (by omega) hl h
      rw [Int.toNat_natCast]
      exact Int.mul_nonneg (by omega) (by omega)
    · exact Int.le_refl _
  rw [← need_frq]
  unfold frq
  rw [needF_range]
  have := sumR_le 256 (f := fun _ => 0) hn
  rwa [sumR_zero] at this
theorem ent_one (L : List UInt8) (h : L.length = 1) : ent L = 0 := by
  match L, h with
  | [x], _ =>
    have e := esum_snoc [] x
    rw [List.nil_append, esum_nil] at e
    have hc : cn [] x.toNat = 0 := rfl
    rw [hc, wt_zero] at e
    unfold ent
    rw [e]
    show wt 1 - (0 - 0 + wt (0 + 1)) = 0
    rw [Nat.zero_add]; omega
theorem wt_bd (n : Nat) (h : n ≤ 67108864) : 0 ≤ wt n ∧ wt n ≤ 511 * (n : Int) := by
  by_cases h0 : n = 0
  · subst h0; simp [wt]
  · have hl := lg_le n (by omega) (by omega)
    unfold wt
    refine ⟨Int.mul_nonneg (by omega) (by omega), ?_⟩
    rw [Int.mul_comm]
    exact Int.mul_le_mul_of_nonneg_right (by omega) (by omega)
theorem esum_bd (L : List UInt8) (h : L.length ≤ 67108864) : 0 ≤ esum L ∧ esum L ≤ 511 * (L.length : Int) := by
  have hb : ∀ b, 0 ≤ wt (cn L b) ∧ wt (cn L b) ≤ 511 * (cn L b : Int) := fun b => wt_bd _ (Nat.le_trans (cn_le L b) h)
  have h1 := sumR_le 256 (f := fun _ => 0) (g := fun b => wt (cn L b)) (fun b _ => (hb b).1)
  have h2 := sumR_le 256 (f := fun b => wt (cn L b)) (g := fun b => 511 * (cn L b : Int)) (fun b _ => (hb b).2)
  rw [sumR_zero] at h1
  rw [sumR_mul, cn_sum] at h2
  exact ⟨h1, h2⟩
/-- What a part costs. -/
def costF (fee : Int) (L : List UInt8) : Int := ent L + fee
end Go.Proofs.Ytlcdjilmfjdmhaa
