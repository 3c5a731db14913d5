import Derived.Test.YtipcdkemokkdfaaGreatK13
/- The library's stable sort: two rows merged, whatever their lengths; SortStableFunc. -/
namespace Go.Proofs.YtipcdkemokkdfaaGreat
open Go.ChangeShapes Go.WideShapes Go.ChangeAt Go.RowKit
set_option linter.unusedVariables false
set_option linter.unusedSimpArgs false
set_option maxRecDepth 100000
theorem sMerge (bx B g n cap : Nat) (fr : Int → Int) (D : Int → Prop) (w0 : World) (CC : CmpC w0 g bx fr D) (hn : n ≤ 1000000) : ∀ N, MergeC bx B g n cap fr D w0 N
  | 0 => fun a m b p x y q w h => by omega
  | N + 1 => fun a m b p x y q w h hK hO ha hm hb hx hy hs ht hxy hDx hDy => by
    have IH : MergeC bx B g n cap fr D w0 (b - a) := fun a' m' b' p' x' y' q' w' h' => sMerge bx B g n cap fr D w0 CC hn N a' m' b' p' x' y' q' w' (by omega)
    by_cases h1 : x.length = 1
    · obtain ⟨u, rfl⟩ := List.length_eq_one_iff.1 h1
      exact sMerge1 bx B g n cap a m b fr D p y q u w0 w CC hK hO ha hm hb ht (fun v hv => hxy u (by simp) v hv) (hDx u (by simp)) hDy hn
    · by_cases h2 : y.length = 1
      · obtain ⟨u, rfl⟩ := List.length_eq_one_iff.1 h2
        exact sMerge2 bx B g n cap a m b fr D p x q u w0 w CC hK hO ha hm hb (by omega) hs (fun v hv => hxy v hv u (by simp)) (hDy u (by simp)) hDx hn
      · exact sMergeG bx B g n cap a m b fr D p x y q w0 w CC IH hK hO ha hm hb (by omega) (by omega) hs ht hxy hDx hDy hn
def blk (s j : Nat) (l : List Int) : List Int := (l.drop (j * s)).take s
/-- The first k blocks of s are sorted. -/
def PG (fr : Int → Int) (s k : Nat) (o l : List Int) : Prop := l.length = o.length ∧ ∀ j, j < k → St.Srt fr (blk s j l) ∧ (blk s j l).Perm (blk s j o)
theorem pg_step {fr : Int → Int} {s k : Nat} {o l : List Int} (h : PG fr s k o l) (hk : k * s ≤ l.length) (z q : List Int) (hz : (z ++ q).take s = z) (hs : St.Srt fr z) (hp : z.Perm (blk s k o)) (hl : (l.take (k * s) ++ z ++ q).length = o.length) : PG fr s (k + 1) o (l.take (k * s) ++ z ++ q) := by
  refine ⟨hl, fun j hj => ?_⟩
  have hpl : (l.take (k * s)).length = k * s := List.length_take_of_le hk
  by_cases e : j = k
  · subst e
    have e2 : blk s j (l.take (j * s) ++ z ++ q) = z := by
      unfold blk
      rw [List.append_assoc, List.drop_left' hpl, hz]
    rw [e2]; exact ⟨hs, hp⟩
  · have hjk : j < k := by omega
    have hmul : j * s + s ≤ k * s := by
      calc j * s + s = (j + 1) * s := by rw [Nat.add_mul, Nat.one_mul]
        _ ≤ k * s := Nat.mul_le_mul_right _ hjk
    have e2 : blk s j (l.take (k * s) ++ z ++ q) = blk s j l := by
      unfold blk
      rw [List.append_assoc, List.drop_append_of_le_length (by omega), List.take_append_of_le_length (by rw [List.length_drop]; omega), List.drop_take, List.take_take, Nat.min_eq_left (by omega)]
    rw [e2]; exact h.2 j hjk
theorem pg_zero (fr : Int → Int) (s : Nat) (o l : List Int) (h : l.length = o.length) : PG fr s 0 o l := ⟨h, fun j h => by omega⟩
theorem blk_two (s k : Nat) (o : List Int) : blk (2 * s) k o = blk s (2 * k) o ++ blk s (2 * k + 1) o := by
  unfold blk
  rw [show k * (2 * s) = 2 * k * s by rw [Nat.mul_comm 2 k, Nat.mul_assoc], show (2 * k + 1) * s = 2 * k * s + s by rw [Nat.add_mul, Nat.one_mul], ← List.drop_drop, show 2 * s = s + s by omega, List.take_add]
theorem blk_val {s i j : Nat} {o : List Int} (ho : o.Pairwise (· < ·)) (hij : i < j) : ∀ u ∈ blk s i o, ∀ v ∈ blk s j o, u < v := by
  intro u hu v hv
  have hmul : i * s + s ≤ j * s := by
    calc i * s + s = (i + 1) * s := by rw [Nat.add_mul, Nat.one_mul]
      _ ≤ j * s := Nat.mul_le_mul_right _ hij
  have h1 : u ∈ o.take (i * s + s) := by
    unfold blk at hu
    rw [List.take_add]; exact List.mem_append_right _ hu
  have h2 : v ∈ o.drop (i * s + s) := by
    unfold blk at hv
    have := List.mem_of_mem_take hv
    rw [show j * s = (i * s + s) + (j * s - (i * s + s)) by omega, ← List.drop_drop] at this
    exact List.mem_of_mem_drop this
  have h := ho
  rw [← List.take_append_drop (i * s + s) o] at h
  exact (List.pairwise_append.1 h).2.2 u h1 v h2
theorem blk_mem {s i : Nat} {o : List Int} : ∀ u ∈ blk s i o, u ∈ o := fun u hu => List.mem_of_mem_drop (List.mem_of_mem_take hu)
theorem pg_perm {fr : Int → Int} {s : Nat} {o l : List Int} (h : ∀ k, PG fr s k o l) (hs : o.length ≤ s) : l = St.sortF fr o ∨ ¬ o.Nodup := by
  by_cases hn : o.Nodup
  · left
    obtain ⟨h1, h2⟩ := h 1
    obtain ⟨a, b⟩ := h2 0 (by omega)
    unfold blk at a b
    rw [Nat.zero_mul, List.drop_zero, List.take_of_length_le (by omega)] at a b
    rw [List.drop_zero, List.take_of_length_le hs] at b
    exact St.srt_unique _ _ a (St.sortF_srt fr o hn) (b.trans (St.sortF_perm fr o).symm)
  · exact .inr hn
/-- All blocks: those behind the end are empty. -/
theorem pg_all {fr : Int → Int} {s k : Nat} {o l : List Int} (h : PG fr s k o l) (hk : o.length ≤ k * s) : ∀ j, PG fr s j o l := by
  intro j
  refine ⟨h.1, fun i hi => ?_⟩
  by_cases hik : i < k
  · exact h.2 i hik
  · have hmul : k * s ≤ i * s := Nat.mul_le_mul_right _ (by omega)
    have e1 : blk s i l = [] := by unfold blk; rw [List.drop_of_length_le (by rw [h.1]; omega), List.take_nil]
    have e2 : blk s i o = [] := by unfold blk; rw [List.drop_of_length_le (by omega), List.take_nil]
    rw [e1, e2]; exact ⟨by simp [St.Srt], List.Perm.refl _⟩
end Go.Proofs.YtipcdkemokkdfaaGreat

/- The library's stable sort, whole. -/
namespace Go.Proofs.YtipcdkemokkdfaaGreat
open Go.ChangeShapes Go.WideShapes Go.ChangeAt Go.RowKit
set_option linter.unusedVariables false
set_option linter.unusedSimpArgs false
set_option maxRecDepth 100000
/-- The rest of a row behind k blocks, parted. -/
theorem rest_parts (s k : Nat) (o : List Int) : o.drop (k * s) = blk s k o ++ o.drop ((k + 1) * s) := by
  unfold blk
  rw [Nat.add_mul, Nat.one_mul, ← List.drop_drop, List.take_append_drop]
theorem blk_len (s k : Nat) (o : List Int) (h : (k + 1) * s ≤ o.length) : (blk s k o).length = s := by
  unfold blk
  rw [Nat.add_mul, Nat.one_mul] at h
  rw [List.length_take, List.length_drop]; omega
theorem drop_app (p z q : List Int) (n : Nat) (h : (p ++ z).length = n) : (p ++ z ++ q).drop n = q := List.drop_left' h
theorem phase {fr : Int → Int} {s : Nat} {o l : List Int} (hall : ∀ j, PG fr s j o l) (ho : o.Pairwise (· < ·)) (k : Nat) :
    St.Srt fr (blk s (2 * k) l) ∧ St.Srt fr (blk s (2 * k + 1) l) ∧ (∀ u ∈ blk s (2 * k) l, ∀ v ∈ blk s (2 * k + 1) l, u < v) ∧ (∀ u ∈ blk s (2 * k) l, u ∈ o) ∧ (∀ u ∈ blk s (2 * k + 1) l, u ∈ o) ∧ (blk s (2 * k) l ++ blk s (2 * k + 1) l).Perm (blk (2 * s) k o) := by
  obtain ⟨a1, a2⟩ := (hall (2 * k + 1)).2 (2 * k) (by omega)
  obtain ⟨b1, b2⟩ := (hall (2 * k + 2)).2 (2 * k + 1) (by omega)
  refine ⟨a1, b1, fun u hu v hv => blk_val ho (show 2 * k < 2 * k + 1 by omega) u (a2.mem_iff.1 hu) v (b2.mem_iff.1 hv), fun u hu => blk_mem u (a2.mem_iff.1 hu), fun u hu => blk_mem u (b2.mem_iff.1 hu), ?_⟩
  rw [blk_two]; exact a2.append b2
set_option maxHeartbeats 6400000 in
theorem sStableAll (bx B g n cap : Nat) (fr : Int → Int) (D : Int → Prop) (o : List Int) (w0 w : World) (CC : CmpC w0 g bx fr D) (hK : Keeps (fun j => j = g) w0 w) (hO : OwnI B w (.slice (some ⟨g, 0, none⟩) n cap) o) (ho : o.Pairwise (· < ·)) (hD : ∀ u ∈ o, D u) (hn : n ≤ 1000000) :
    Calls Tryz.prog 103 #[.slice (some ⟨g, 0, none⟩) n cap, .int .i64 n, FV bx] w fun e w' => e = .returned (.tuple #[]) ∧ OwnI B w' (.slice (some ⟨g, 0, none⟩) n cap) (St.sortF fr o) ∧ Keeps (fun j => j = g) w w' := by
  have hN := own_n hO
  have CI := Lib.hid (fun a b p s q W h1 h2 h3 h4 h5 h6 => sInsert bx B g n cap a b fr D p s q w0 W CC h1 h2 h3 h4 h5 h6 hn)
  have CM := Lib.hid (fun N => sMerge bx B g n cap fr D w0 CC hn N)
  have HK0 := Lib.hid hK
  have HO := Lib.hid hO
  have HA := Lib.hid ho; have HD := Lib.hid hD; have HN := Lib.hid hN
  have HW := Lib.hid (Keeps.refl (fun j => j = g) w)
  clear hK hO ho hD hN CC
  go_enter Tryz.func103, Tryz.ntmps103
  go_wp2_with fail
  go_loopw [7, 8] (fun av bv wr => ∃ (k A Bv : Nat) (l : List Int), k * 20 ≤ A ∧ A ≤ k * 20 ∧ A ≤ n ∧ A + 20 ≤ Bv ∧ Bv ≤ A + 20 ∧ av = .int .i64 A ∧ bv = .int .i64 Bv ∧ Hid (PG fr 20 k o l ∧ l.drop (k * 20) = o.drop (k * 20)) ∧ Hid (OwnI B wr (.slice (some ⟨g, 0, none⟩) n cap) l) ∧ Hid (Keeps (fun j => j = g) w wr)) (fun av _ _ => n - (intOf av).toNat)
  case atStart => exact ⟨0, 0, 20, o, Nat.le_refl _, Nat.le_refl _, Nat.zero_le _, Nat.le_refl _, Nat.le_refl _, by go_num, by go_num, Lib.hid ⟨pg_zero fr 20 o o rfl, rfl⟩, HO, HW⟩
  case round =>
    clear HO HW
    obtain ⟨k, A, Bv, l, k1, k2, hAn, b1, b2, rfl, rfl, HP, HO, HW⟩ := hrel
    have hkA : k * 20 = A := by omega
    have HKA := Lib.hid hkA
    have hlo : l.length = n := by rw [HP.out.1.1, HN.out]
    have HL := Lib.hid hlo
    have HTL := Lib.hid (show (l.take (k * 20)).length = A by rw [List.length_take_of_le (by omega)]; exact hkA)
    clear hkA hlo
    by_cases hlt : Bv ≤ n
    · have hlti : (Bv : Int) ≤ n := by omega
      have HB := Lib.hid (show (blk 20 k o).length = 20 from blk_len 20 k o (by have := HN.out; omega))
      have HE := Lib.hid (show l = l.take (k * 20) ++ blk 20 k o ++ o.drop ((k + 1) * 20) by
        have := rest_parts 20 k o
        rw [List.append_assoc, ← this, ← HP.out.2, List.take_append_drop])
      have HI := Lib.hid (CI.out A Bv (l.take (k * 20)) (blk 20 k o) (o.drop ((k + 1) * 20)) wr (HK0.out.trans HW.out) (by rw [← HE.out]; exact HO.out) HTL.out (by rw [List.length_append, HTL.out, HB.out]; omega) (List.Pairwise.sublist ((List.take_sublist _ _).trans (List.drop_sublist _ _)) HA.out) (fun u hu => HD.out u (blk_mem u hu)))
      go_wp2_with fail
      refine HI.out.mono ?_; rintro e w2 ⟨rfl, ho2, hk2⟩
      have HZL := Lib.hid (show (St.sortF fr (blk 20 k o)).length = 20 by rw [(St.sortF_perm fr _).length_eq, HB.out])
      have HP2 := Lib.hid (show PG fr 20 (k + 1) o (l.take (k * 20) ++ St.sortF fr (blk 20 k o) ++ o.drop ((k + 1) * 20)) ∧ (l.take (k * 20) ++ St.sortF fr (blk 20 k o) ++ o.drop ((k + 1) * 20)).drop ((k + 1) * 20) = o.drop ((k + 1) * 20) from ⟨pg_step HP.out.1 (by have := HL.out; omega) _ _ (by rw [List.take_left' HZL.out]) (St.sortF_srt fr _ (St.asc_nodup (List.Pairwise.sublist ((List.take_sublist _ _).trans (List.drop_sublist _ _)) HA.out))) (St.sortF_perm fr _) (by rw [List.length_append, List.length_append, HTL.out, HZL.out, List.length_drop]; have := HN.out; omega), drop_app _ _ _ _ (by rw [List.length_append, HTL.out, HZL.out]; omega)⟩)
      have HO2 := Lib.hid ho2
      have HW2 := Lib.hid (HW.out.trans hk2)
      obtain ⟨B2, hB2⟩ : ∃ B2, Bv + 20 = B2 := ⟨_, rfl⟩
      have eB2 : (Bv : Int) + 20 = B2 := by omega
      clear ho2 hk2 HO HW HI
      go_wp2_with fail
      go_roundw
      case rel => exact ⟨k + 1, Bv, B2, _, by omega, by omega, hlt, by omega, by omega, by go_num, by go_num, HP2, HO2, HW2⟩
      case measure => simp [intOf] <;> omega
    · have hlti : ¬ (Bv : Int) ≤ n := by omega
      have HE := Lib.hid (show l = l.take (k * 20) ++ o.drop (k * 20) ++ [] by rw [List.append_nil, ← HP.out.2, List.take_append_drop])
      have HDL := Lib.hid (show (o.drop (k * 20)).length = n - A by rw [List.length_drop]; have := HN.out; omega)
      have HBE := Lib.hid (show blk 20 k o = o.drop (k * 20) by unfold blk; exact List.take_of_length_le (by have := HDL.out; omega))
      have HI := Lib.hid (CI.out A n (l.take (k * 20)) (o.drop (k * 20)) [] wr (HK0.out.trans HW.out) (by rw [← HE.out]; exact HO.out) HTL.out (by rw [List.length_append, HTL.out, HDL.out]; omega) (List.Pairwise.sublist (List.drop_sublist _ _) HA.out) (fun u hu => HD.out u (List.mem_of_mem_drop hu)))
      go_wp2_with fail
      refine HI.out.mono ?_; rintro e w2 ⟨rfl, ho2, hk2⟩
      have HP2 := Lib.hid (show ∀ j, PG fr 20 j o (l.take (k * 20) ++ St.sortF fr (o.drop (k * 20)) ++ []) from pg_all (pg_step HP.out.1 (by have := HL.out; omega) _ _ (by rw [List.append_nil]; exact List.take_of_length_le (by rw [(St.sortF_perm fr _).length_eq]; have := HDL.out; omega)) (St.sortF_srt fr _ (St.asc_nodup (List.Pairwise.sublist (List.drop_sublist _ _) HA.out))) (by rw [HBE.out]; exact St.sortF_perm fr _) (by rw [List.length_append, List.length_append, HTL.out, (St.sortF_perm fr _).length_eq, HDL.out]; have := HN.out; simp; omega)) (by have := HN.out; omega))
      have HO2 := Lib.hid ho2
      have HW2 := Lib.hid (HW.out.trans hk2)
      obtain ⟨l2, hl2⟩ : ∃ l2, l.take (k * 20) ++ St.sortF fr (o.drop (k * 20)) ++ [] = l2 := ⟨_, rfl⟩
      rw [hl2] at HP2 HO2
      clear ho2 hk2 HO HW HI hl2 HE HP HTL HL HDL HBE HKA k1 k2 b1 b2 hlti hlt
      go_wp2_with fail
      clear CI
      go_loopw [6] (fun sv wr => ∃ (s : Nat) (l : List Int), sv = .int .i64 s ∧ 0 < s ∧ s ≤ 2000000 ∧ Hid (∀ j, PG fr s j o l) ∧ Hid (OwnI B wr (.slice (some ⟨g, 0, none⟩) n cap) l) ∧ Hid (Keeps (fun j => j = g) w wr)) (fun sv _ => n - (intOf sv).toNat)
      case atStart => exact ⟨20, l2, by go_num, by decide, by decide, HP2, HO2, HW2⟩
      case round =>
        clear HP2 HO2 HW2
        obtain ⟨s, l0, rfl, hs0, hs1, HP, HO, HW⟩ := hrel
        by_cases hlt : s < n
        · have hlti : (s : Int) < n := by omega
          obtain ⟨S2, hS2⟩ : ∃ S2, 2 * s = S2 := ⟨_, rfl⟩
          have eS2 : 2 * (s : Int) = S2 := by omega
          have eS3 : (s : Int) * 2 = S2 := by omega
          have HS2 := Lib.hid hS2
          have hs2a : S2 ≤ s + s := by omega
          have hs2b : s + s ≤ S2 := by omega
          have HPH := Lib.hid (fun k => phase HP.out HA.out k)
          have HL0 := Lib.hid (show l0.length = n by rw [(HP.out 0).1, HN.out])
          clear hS2
          obtain ⟨w3, hw3⟩ : ∃ w3, w3 = wr := ⟨_, rfl⟩
          rw [← hw3] at HO HW ⊢
          clear hw3
          go_wp2_with fail
          go_loopw [7, 8] (fun av bv wr => ∃ (k A Bv : Nat) (l : List Int), A ≤ n ∧ A + S2 ≤ Bv ∧ Bv ≤ A + S2 ∧ av = .int .i64 A ∧ bv = .int .i64 Bv ∧ Hid (k * S2 = A) ∧ Hid (PG fr S2 k o l ∧ l.drop (k * S2) = l0.drop (k * S2)) ∧ Hid (OwnI B wr (.slice (some ⟨g, 0, none⟩) n cap) l) ∧ Hid (Keeps (fun j => j = g) w wr)) (fun av _ _ => n - (intOf av).toNat)
          case atStart => exact ⟨0, 0, S2, l0, Nat.zero_le _, by omega, by omega, by go_num, by go_num, Lib.hid (Nat.zero_mul _), Lib.hid ⟨pg_zero fr S2 o l0 (HP.out 0).1, rfl⟩, HO, HW⟩
          case round =>
            clear HO HW
            obtain ⟨k, A, Bv, l, hAn, b1, b2, rfl, rfl, HKA, HQ, HO, HW⟩ := hrel
            have HL := Lib.hid (show l.length = n by rw [HQ.out.1.1, HN.out])
            have HTL := Lib.hid (show (l.take (k * S2)).length = A by rw [List.length_take_of_le (by rw [HKA.out, HL.out]; omega)]; exact HKA.out)
            have HK1 := Lib.hid (show (k + 1) * S2 = Bv by have := HKA.out; rw [Nat.add_mul, Nat.one_mul]; omega)
            have HX0 := Lib.hid (show 2 * k * s = A by rw [← HKA.out, ← HS2.out, Nat.mul_comm 2 k, Nat.mul_assoc])
            have HRST := Lib.hid (show l0.drop (k * S2) = blk s (2 * k) l0 ++ blk s (2 * k + 1) l0 ++ l0.drop ((k + 1) * S2) from by
              rw [rest_parts S2 k l0]
              have := blk_two s k l0
              rw [HS2.out] at this
              rw [this])
            have HE := Lib.hid (show l = l.take (k * S2) ++ (blk s (2 * k) l0 ++ blk s (2 * k + 1) l0) ++ l0.drop ((k + 1) * S2) by
              rw [List.append_assoc, ← HRST.out, ← HQ.out.2, List.take_append_drop])
            obtain ⟨M, hM⟩ : ∃ M, A + s = M := ⟨_, rfl⟩
            have eM : (A : Int) + s = M := by omega
            have hM1 : M ≤ A + s := by omega
            have hM2 : A + s ≤ M := by omega
            clear hM
            by_cases hlt : Bv ≤ n
            · have hlti2 : (Bv : Int) ≤ n := by omega
              have HX := Lib.hid (show (blk s (2 * k) l0).length = s from blk_len s (2 * k) l0 (by rw [HL0.out, Nat.add_mul, HX0.out]; omega))
              have HY := Lib.hid (show (blk s (2 * k + 1) l0).length = s from blk_len s (2 * k + 1) l0 (by rw [HL0.out, show 2 * k + 1 + 1 = 2 * k + 2 by omega, Nat.add_mul, HX0.out]; omega))
              have HI := Lib.hid (CM.out (Bv - A + 1) A M Bv (l.take (k * S2)) (blk s (2 * k) l0) (blk s (2 * k + 1) l0) (l0.drop ((k + 1) * S2)) wr (by omega) (HK0.out.trans HW.out) (by rw [← HE.out]; exact HO.out) HTL.out (by rw [HX.out]; omega) (by rw [HY.out]; omega) (by rw [HX.out]; omega) (by rw [HY.out]; omega) (HPH.out k).1 (HPH.out k).2.1 (HPH.out k).2.2.1 (fun u hu => HD.out u ((HPH.out k).2.2.2.1 u hu)) (fun u hu => HD.out u ((HPH.out k).2.2.2.2.1 u hu)))
              go_wp2_with fail
              refine HI.out.mono ?_; rintro e w4 ⟨rfl, z, hz1, hz2, ho2, hk2⟩
              have hzl : z.length = S2 := by rw [hz2.length_eq, List.length_append, HX.out, HY.out]; omega
              have HQ2 := Lib.hid (show PG fr S2 (k + 1) o (l.take (k * S2) ++ z ++ l0.drop ((k + 1) * S2)) ∧ (l.take (k * S2) ++ z ++ l0.drop ((k + 1) * S2)).drop ((k + 1) * S2) = l0.drop ((k + 1) * S2) from ⟨pg_step HQ.out.1 (by rw [HKA.out, HL.out]; omega) _ _ (by rw [List.take_left' hzl]) hz1 (by have := hz2.trans (HPH.out k).2.2.2.2.2; rw [HS2.out] at this; exact this) (by rw [List.length_append, List.length_append, HTL.out, hzl, List.length_drop, HK1.out, HL0.out]; have := HN.out; omega), drop_app _ _ _ _ (by rw [List.length_append, HTL.out, hzl, HK1.out]; omega)⟩)
              have HO2 := Lib.hid ho2
              have HW2 := Lib.hid (HW.out.trans hk2)
              obtain ⟨B2, hB2⟩ : ∃ B2, Bv + S2 = B2 := ⟨_, rfl⟩
              have eB2 : (Bv : Int) + S2 = B2 := by omega
              clear ho2 hk2 hz1 hz2 hzl HO HW HI
              go_wp2_with fail
              go_roundw
              case rel => exact ⟨k + 1, Bv, B2, _, hlt, by omega, by omega, by go_num, by go_num, HK1, HQ2, HO2, HW2⟩
              case measure => simp [intOf] <;> omega
            · have hlti2 : ¬ (Bv : Int) ≤ n := by omega
              have HQE := Lib.hid (show l0.drop ((k + 1) * S2) = [] from List.drop_of_length_le (by rw [HK1.out, HL0.out]; omega))
              have hnk : n ≤ (k + 1) * S2 := by rw [HK1.out]; omega
              have HNK := Lib.hid hnk
              clear hnk
              by_cases hm : M < n
              · have hmi : (M : Int) < n := by omega
                have HX := Lib.hid (show (blk s (2 * k) l0).length = s from blk_len s (2 * k) l0 (by rw [HL0.out, Nat.add_mul, HX0.out]; omega))
                have HY := Lib.hid (show (blk s (2 * k + 1) l0).length = n - M from by
                  unfold blk
                  rw [Nat.add_mul, HX0.out, List.length_take, List.length_drop, HL0.out]; omega)
                have HI := Lib.hid (CM.out (n - A + 1) A M n (l.take (k * S2)) (blk s (2 * k) l0) (blk s (2 * k + 1) l0) (l0.drop ((k + 1) * S2)) wr (by omega) (HK0.out.trans HW.out) (by rw [← HE.out]; exact HO.out) HTL.out (by rw [HX.out]; omega) (by rw [HY.out]; omega) (by rw [HX.out]; omega) (by rw [HY.out]; omega) (HPH.out k).1 (HPH.out k).2.1 (HPH.out k).2.2.1 (fun u hu => HD.out u ((HPH.out k).2.2.2.1 u hu)) (fun u hu => HD.out u ((HPH.out k).2.2.2.2.1 u hu)))
                go_wp2_with fail
                refine HI.out.mono ?_; rintro e w4 ⟨rfl, z, hz1, hz2, ho2, hk2⟩
                have hzl : z.length = n - A := by rw [hz2.length_eq, List.length_append, HX.out, HY.out]; omega
                have HQ2 := Lib.hid (show ∀ j, PG fr S2 j o (l.take (k * S2) ++ z ++ l0.drop ((k + 1) * S2)) from pg_all (pg_step HQ.out.1 (by rw [HKA.out, HL.out]; omega) _ _ (by rw [HQE.out, List.append_nil]; exact List.take_of_length_le (by omega)) hz1 (by have := hz2.trans (HPH.out k).2.2.2.2.2; rw [HS2.out] at this; exact this) (by rw [HQE.out, List.append_nil, List.length_append, HTL.out, hzl]; have := HN.out; omega)) (by rw [← HN.out]; exact HNK.out))
                have HO2 := Lib.hid ho2
                have HW2 := Lib.hid (HW.out.trans hk2)
                clear ho2 hk2 hz1 hz2 hzl HO HW HI
                go_wp2_with fail
                go_roundw
                case rel => exact ⟨S2, _, by go_num, by omega, by omega, HQ2, HO2, HW2⟩
                case measure => simp [intOf] <;> omega
              · have hmi : ¬ (M : Int) < n := by omega
                have HYE := Lib.hid (show blk s (2 * k + 1) l0 = [] from by
                  unfold blk
                  rw [List.drop_of_length_le (by rw [HL0.out, Nat.add_mul, HX0.out]; omega), List.take_nil])
                have HXL := Lib.hid (show (blk s (2 * k) l0).length ≤ s from by unfold blk; exact List.length_take_le _ _)
                have HQ2 := Lib.hid (show ∀ j, PG fr S2 j o l from by
                  have h1 := HE.out
                  rw [HYE.out, HQE.out, List.append_nil (blk s (2 * k) l0)] at h1
                  have h2 := (HPH.out k).2.2.2.2.2
                  rw [HYE.out, HS2.out, List.append_nil] at h2
                  have h3 := pg_step HQ.out.1 (by rw [HKA.out, HL.out]; omega) (blk s (2 * k) l0) [] (by rw [List.append_nil]; exact List.take_of_length_le (by have := HXL.out; omega)) (HPH.out k).1 h2 (by rw [← h1]; exact HQ.out.1.1)
                  rw [← h1] at h3
                  exact pg_all h3 (by rw [← HN.out]; exact HNK.out))
                go_wp2_with fail
                go_roundw
                case rel => exact ⟨S2, _, by go_num, by omega, by omega, HQ2, HO, HW⟩
                case measure => simp [intOf] <;> omega
        · have hlti : ¬ (s : Int) < n := by omega
          have HF := Lib.hid (show l0 = St.sortF fr o from by
            rcases pg_perm HP.out (by rw [← HN.out]; omega) with h | h
            · exact h
            · exact absurd (St.asc_nodup HA.out) h)
          have hO2 := HO.out
          rw [HF.out] at hO2
          have HO2 := Lib.hid hO2
          clear hO2 HO
          go_wp2_with fail
          go_end0
          exact ⟨rfl, HO2.out, HW.out⟩
end Go.Proofs.YtipcdkemokkdfaaGreat
