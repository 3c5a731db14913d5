/- Layer 59: where symbols lie: mathematics. -/
import Derived.Test.YtplopddlpoffoaaAM5
namespace Go.Proofs.Ytplopddlpoffoaa
set_option linter.unusedVariables false
set_option maxRecDepth 100000
theorem nodup_sub59 : ∀ (a b : List Nat), a.Nodup → (∀ x ∈ a, x ∈ b) → a.length ≤ b.length
  | [], b, _, _ => by simp
  | x :: a, b, hn, h => by
    have hn2 := List.nodup_cons.1 hn
    have h1 := nodup_sub59 a (b.erase x) hn2.2 (fun y hy => by
      refine (List.mem_erase_of_ne (fun e => ?_)).2 (h y (by simp [hy]))
      subst e; exact hn2.1 hy)
    have h2 := List.length_erase_of_mem (h x (by simp))
    have h3 := List.length_pos_of_mem (h x (by simp))
    simp only [List.length_cons]; omega
def Inj (step q : Nat) : Prop := ∀ i j, i < q → j < q → i * step % q = j * step % q → i = j
theorem inj_of {step q m : Nat} (hq : q = 2 ^ m) (hs : step % 2 = 1) : Inj step q := by
  have hcop : Nat.Coprime (2 ^ m) step := by
    apply Nat.Coprime.pow_left
    rw [Nat.coprime_comm, Nat.Coprime, Nat.gcd_comm, Nat.gcd_rec, hs]
    rfl
  have aux : ∀ i j, i ≤ j → j < q → i * step % q = j * step % q → i = j := by
    intro i j hij hj h
    have hd : q ∣ (j - i) * step := by
      rw [Nat.sub_mul]
      exact Nat.dvd_of_mod_eq_zero (Nat.sub_mod_eq_zero_of_mod_eq h.symm)
    rw [hq] at hd
    have h2 := Nat.Coprime.dvd_of_dvd_mul_right hcop hd
    rw [← hq] at h2
    rcases Nat.eq_zero_or_pos (j - i) with h0 | h0
    · omega
    · have := Nat.le_of_dvd h0 h2; omega
  intro i j hi hj h
  rcases Nat.le_total i j with hij | hij
  · exact aux i j hij hj h
  · exact (aux j i hij hi h.symm).symm
theorem set_getX (o : List Int) (t i : Nat) (v : Int) (ht : t < o.length) : (o.set t v).getD i 0 = if t = i then v else o.getD i 0 := by
  simp only [List.getD_eq_getElem?_getD, List.getElem?_set]
  by_cases e : t = i
  · subst e; simp [ht]
  · simp [e]
theorem place_get (step q : Nat) (hq : 0 < q) (hinj : Inj step q) : ∀ (r : List Int) (k0 : Nat) (out : List Int), k0 + r.length ≤ q → out.length = q →
    (∀ j, j < r.length → (placeL step q r (k0 * step % q) out).getD ((k0 + j) * step % q) 0 = r.getD j 0) ∧
    (∀ x, (∀ j, j < r.length → (k0 + j) * step % q ≠ x) → (placeL step q r (k0 * step % q) out).getD x 0 = out.getD x 0)
  | [], k0, out, _, _ => ⟨fun j hj => by simp at hj, fun x _ => rfl⟩
  | s :: r, k0, out, hk, ho => by
    simp only [List.length_cons] at hk
    have hp : (k0 * step % q + step) % q = (k0 + 1) * step % q := by rw [Nat.mod_add_mod, Nat.add_mul, Nat.one_mul]
    have hlt : k0 * step % q < out.length := by rw [ho]; exact Nat.mod_lt _ hq
    have ih := place_get step q hq hinj r (k0 + 1) (out.set (k0 * step % q) s) (by omega) (by simp [ho])
    simp only [placeL]
    rw [hp]
    refine ⟨fun j hj => ?_, fun x hx => ?_⟩
    · cases j with
      | zero =>
        rw [show k0 + 0 = k0 from rfl]
        rw [ih.2 (k0 * step % q) (fun j hj e => by
          have := hinj (k0 + 1 + j) k0 (by omega) (by omega) e
          omega), set_getX _ _ _ _ hlt, if_pos rfl]
        rfl
      | succ j =>
        simp only [List.length_cons] at hj
        have := ih.1 j (by omega)
        rw [show k0 + (j + 1) = k0 + 1 + j by omega, this]
        simp
    · rw [ih.2 x (fun j hj e => hx (j + 1) (by simp; omega) (by rw [show k0 + (j + 1) = k0 + 1 + j by omega]; exact e)), set_getX _ _ _ _ hlt, if_neg (by have := hx 0 (by simp); simpa using this)]
theorem pos_onto (step q : Nat) (hq : 0 < q) (hinj : Inj step q) (x : Nat) (hx : x < q) : ∃ k, k < q ∧ k * step % q = x := by
  apply Classical.byContradiction
  intro h
  have h1 := nodup_sub59 ((List.range q).map (fun k => k * step % q)) ((List.range q).erase x) ?_ ?_
  · have h2 := List.length_erase_of_mem (List.mem_range.2 hx)
    simp at h1 h2; omega
  · rw [List.Nodup, List.pairwise_map]
    refine List.Pairwise.imp_of_mem (fun {a b} ha hb hab => ?_) (List.nodup_range (n := q))
    exact fun e => hab (hinj a b (List.mem_range.1 ha) (List.mem_range.1 hb) e)
  · intro y hy
    obtain ⟨k, hk, rfl⟩ := List.mem_map.1 hy
    have hk := List.mem_range.1 hk
    refine (List.mem_erase_of_ne (fun e => h ⟨k, hk, e⟩)).2 (List.mem_range.2 (Nat.mod_lt _ hq))
theorem symF_len : ∀ (l : List Int) (s : Nat), (∀ x ∈ l, 0 ≤ x) → ((symF l s).length : Int) = sumI l
  | [], _, _ => rfl
  | x :: l, s, h => by
    have ih := symF_len l (s + 1) (fun y hy => h y (by simp [hy]))
    have := h x (by simp)
    simp only [symF, List.length_append, List.length_replicate, sumI]
    omega
theorem symF_mem : ∀ (l : List Int) (s : Nat) (y : Int), y ∈ symF l s → ∃ i, i < l.length ∧ y = ((s + i : Nat) : Int) ∧ 0 < l.getD i 0
  | [], _, y, h => by simp [symF] at h
  | x :: l, s, y, h => by
    simp only [symF] at h
    rcases List.mem_append.1 h with h | h
    · have h1 := List.mem_replicate.1 h
      exact ⟨0, by simp, by simpa using h1.2, by simp; omega⟩
    · obtain ⟨i, h1, h2, h3⟩ := symF_mem l (s + 1) y h
      exact ⟨i + 1, by simp; omega, by rw [h2]; congr 1; omega, by simpa using h3⟩
theorem symF_at : ∀ (l : List Int) (s i : Nat), (∀ x ∈ l, 0 ≤ x) → i < l.length → ∀ j : Nat, (j : Int) < l.getD i 0 → (symF l s).getD ((sumI (l.take i)).toNat + j) 0 = ((s + i : Nat) : Int)
  | [], s, i, _, hi, j, _ => by simp at hi
  | x :: l, s, 0, h, _, j, hj => by
    simp at hj
    simp only [symF, List.take_zero, sumI, Int.toNat_zero, Nat.zero_add, Nat.add_zero]
    rw [List.getD_eq_getElem?_getD, List.getElem?_append_left (by simp; omega), List.getElem?_replicate, if_pos (by omega)]
    rfl
  | x :: l, s, i + 1, h, hi, j, hj => by
    have hn : ∀ y ∈ l, 0 ≤ y := fun y hy => h y (by simp [hy])
    have ih := symF_at l (s + 1) i hn (by simpa using hi) j (by simpa using hj)
    have hx := h x (by simp)
    have hs := sumI_nn (l.take i) (fun y hy => hn y (List.mem_of_mem_take hy))
    simp only [symF, List.take_succ_cons, sumI]
    rw [List.getD_eq_getElem?_getD, List.getElem?_append_right (by simp; omega), ← List.getD_eq_getElem?_getD]
    rw [show (x + sumI (l.take i)).toNat + j - (List.replicate x.toNat (s : Int)).length = (sumI (l.take i)).toNat + j by simp; omega, ih]
    congr 1; omega
/-- What the table of symbols is. -/
structure Sp (l : List Int) (q : Nat) : Prop where
  len : (sprL l q).length = q
  sym : ∀ x, x < q → ∃ i : Nat, i < l.length ∧ (sprL l q).getD x 0 = i ∧ 0 < l.getD i 0
  cnt : ∀ i, i < l.length → ∃ xs : List Nat, xs.Nodup ∧ (xs.length : Int) = l.getD i 0 ∧ ∀ x ∈ xs, x < q ∧ (sprL l q).getD x 0 = i
theorem sp_of {l : List Int} {m : Nat} (hm : 5 ≤ m) (hv : norV l ((2 ^ m : Nat) : Int) = true) : Sp l (2 ^ m) := by
  obtain ⟨h256, hf, hsum⟩ := norV_facts hv
  have hq : 0 < 2 ^ m := Nat.pow_pos (by decide)
  have hst : stepN (2 ^ m) % 2 = 1 := by
    obtain ⟨k, rfl⟩ : ∃ k, m = k + 4 := ⟨m - 4, by omega⟩
    unfold stepN
    rw [Nat.pow_add]
    omega
  have hinj := inj_of (q := 2 ^ m) rfl hst
  have hnn : ∀ x ∈ l, 0 ≤ x := fun x hx => by
    obtain ⟨i, hi, e⟩ := List.mem_iff_getElem.1 hx
    have := (hf i hi).1
    rw [List.getD_eq_getElem?_getD, List.getElem?_eq_getElem hi] at this
    simpa [e] using this
  have hlen : (symF l 0).length = 2 ^ m := by have := symF_len l 0 hnn; omega
  generalize hqq : 2 ^ m = q at *
  have hpl := place_get (stepN q) q hq hinj (symF l 0) 0 (List.replicate q 0) (by omega) (by simp)
  rw [Nat.zero_mul, Nat.zero_mod] at hpl
  have hget : ∀ k, k < q → (sprL l q).getD (k * stepN q % q) 0 = (symF l 0).getD k 0 := fun k hk => by
    have := hpl.1 k (by omega)
    rw [Nat.zero_add] at this
    exact this
  refine ⟨by unfold sprL; rw [placeL_len]; simp, fun x hx => ?_, fun i hi => ?_⟩
  · obtain ⟨k, hk, e⟩ := pos_onto (stepN q) q hq hinj x hx
    have hg := hget k hk
    rw [e] at hg
    have hmem : (symF l 0).getD k 0 ∈ symF l 0 := by
      rw [List.getD_eq_getElem?_getD, List.getElem?_eq_getElem (by omega)]
      exact List.getElem_mem _
    obtain ⟨i, h1, h2, h3⟩ := symF_mem l 0 _ hmem
    exact ⟨i, h1, by rw [hg, h2, Nat.zero_add], h3⟩
  · have hfi := hf i hi
    have hoff := sumI_nn (l.take i) (fun y hy => hnn y (List.mem_of_mem_take hy))
    have hoff2 : sumI (l.take i) + l.getD i 0 ≤ q := by
      rw [← sumI_take l i hi]
      have h3 : sumI l = sumI (l.take (i + 1)) + sumI (l.drop (i + 1)) := by
        have : ∀ (a b : List Int), sumI (a ++ b) = sumI a + sumI b := by
          intro a b
          induction a with
          | nil => simp [sumI]
          | cons x a ih => simp [sumI, ih]; omega
        rw [← this, List.take_append_drop]
      have h4 := sumI_nn (l.drop (i + 1)) (fun y hy => hnn y (List.mem_of_mem_drop hy))
      omega
    obtain ⟨o, ho⟩ : ∃ o, (sumI (l.take i)).toNat = o := ⟨_, rfl⟩
    refine ⟨(List.range (l.getD i 0).toNat).map (fun j => (o + j) * stepN q % q), ?_, by rw [List.length_map, List.length_range]; omega, fun x hx => ?_⟩
    · rw [List.Nodup, List.pairwise_map]
      refine List.Pairwise.imp_of_mem (fun {a b} ha hb hab => ?_) (List.nodup_range (n := (l.getD i 0).toNat))
      have ha := List.mem_range.1 ha
      have hb := List.mem_range.1 hb
      exact fun e => hab (by have := hinj (o + a) (o + b) (by omega) (by omega) e; omega)
    · obtain ⟨j, hj, rfl⟩ := List.mem_map.1 hx
      have hj := List.mem_range.1 hj
      refine ⟨Nat.mod_lt _ hq, ?_⟩
      rw [hget (o + j) (by omega), ← ho, symF_at l 0 i hnn hi j (by omega), Nat.zero_add]
end Go.Proofs.Ytplopddlpoffoaa
