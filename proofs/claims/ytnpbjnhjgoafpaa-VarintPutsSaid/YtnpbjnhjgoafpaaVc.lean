/- Layer 3: the contract of the document's Read. -/
import Derived.Test.YtnpbjnhjgoafpaaVb
import Derived.WalkSmall
namespace Go.Proofs.Ytnpbjnhjgoafpaa
open Go.ChangeShapes Go.WideShapes Go.ChangeAt Go.RowKit
set_option linter.unusedVariables false
set_option maxRecDepth 100000

theorem take_extract (s : ByteArray) (k : Nat) : (⟨(s.data.toList.take k).toArray⟩ : ByteArray) = s.extract 0 k := by
  apply ByteArray.ext
  rw [← Array.toList_inj]
  simp

def RfPost (s : ByteArray) (w : World) (e : Ending) (w' : World) : Prop :=
  Below w.heap.size w w' ∧ e = .returned (.tuple #[.int .i64 (rd s.data.toList).2.1, .string (if (rd s.data.toList).1 = 0 then s.extract (rd s.data.toList).2.2 s.size else ⟨#[]⟩), .int .i64 (rd s.data.toList).1])
theorem rfPost_mk (s : ByteArray) (w w' : World) (e n c : Nat) (v : ByteArray) (n' : Int) (hw : Below w.heap.size w w') (h : rd s.data.toList = (e, n, c)) (hv : v = if e = 0 then s.extract c s.size else ⟨#[]⟩) (hn : n' = n) :
    RfPost s w (.returned (.tuple #[.int .i64 n', .string v, .int .i64 e])) w' := ⟨hw, by rw [h, hv, hn]⟩
theorem refPut_int (n : Int) (m : Nat) (v : ByteArray) (e : n = m) (h : m ≤ 4294967295) (hv : (⟨(vb m).toArray⟩ : ByteArray) = v) (w : World) :
    Calls Try.prog 35 #[.int .i64 n] w fun e w' => e = .returned (.tuple #[.string v, .int .i64 0]) ∧ Below w.heap.size w w' := by
  subst e; rw [← hv]; exact refPut_in m h w

/-- What was read so far: all bear the sign, and acc is what they stand for. -/
def Sofar (s : ByteArray) (k acc : Nat) : Prop := k ≤ s.size ∧ acc = val (s.data.toList.take k) ∧ ∀ x, x ∈ s.data.toList.take k → 128 ≤ x.toNat
theorem sofar_zero (s : ByteArray) : Sofar s 0 0 := ⟨Nat.zero_le _, by simp [val], by simp⟩
theorem take_succ' (s : ByteArray) (k : Nat) (h : k < s.size) : s.data.toList.take (k + 1) = s.data.toList.take k ++ [s[k]] := by
  rw [List.take_succ_eq_append_getElem (by simpa using h)]; rfl
theorem val_snoc (s : ByteArray) (k : Nat) (h : k < s.size) : val (s.data.toList.take (k + 1)) = val (s.data.toList.take k) + s[k].toNat % 128 * 128 ^ k := by
  rw [take_succ' s k h, val_append]; simp [val, Nat.mul_comm, Nat.min_eq_left (Nat.le_of_lt h)]
theorem sofar_succ (s : ByteArray) (k acc : Nat) (h : Sofar s k acc) (hk : k < s.size) (hb : 128 ≤ s[k].toNat) : Sofar s (k + 1) (acc + s[k].toNat % 128 * 128 ^ k) := by
  refine ⟨hk, by rw [val_snoc s k hk, ← h.2.1], fun x hx => ?_⟩
  rw [take_succ' s k hk] at hx
  rcases List.mem_append.1 hx with hx | hx
  · exact h.2.2 x hx
  · rw [List.mem_singleton.1 hx]; exact hb
theorem vb_take (acc : Nat) (s : ByteArray) (k : Nat) (hk : k < s.size) (h : Sofar s k acc) (hb : ¬ 128 ≤ s[k].toNat) (hl : (vb (acc + s[k].toNat % 128 * 128 ^ k)).length = k + 1) :
    vb (acc + s[k].toNat % 128 * 128 ^ k) = s.data.toList.take (k + 1) := by
  have e : acc + s[k].toNat % 128 * 128 ^ k = val (s.data.toList.take (k + 1)) := by rw [val_snoc s k hk, ← h.2.1]
  rw [e] at hl ⊢
  refine vb_of_length _ ?_ (by rw [hl]; simp; omega)
  rw [take_succ' s k hk]
  exact signed_snoc _ _ h.2.2 (by omega)
theorem ba_inj {a b : ByteArray} (h : a.toList = b.toList) : a = b := by
  rw [ByteArray.toList_eq, ByteArray.toList_eq] at h; exact bytes_inj h

def RfRel (s : ByteArray) (n p i : Value) : Prop := ∃ k acc : Nat, n = .int .i64 acc ∧ p = .int .i64 ((128 ^ k : Nat) : Int) ∧ i = .int .i64 k ∧ k ≤ 5 ∧ acc < 128 ^ k ∧ Sofar s k acc ∧ rdF (5 - k) k (128 ^ k) acc (s.data.toList.drop k) = rd s.data.toList
theorem rfRel_mk (s : ByteArray) (k acc : Nat) (n p i : Int) (hn : n = acc) (hp : p = ((128 ^ k : Nat) : Int)) (hi : i = k) (hk : k ≤ 5) (ha : acc < 128 ^ k) (hs : Sofar s k acc) (hr : rdF (5 - k) k (128 ^ k) acc (s.data.toList.drop k) = rd s.data.toList) :
    RfRel s (.int .i64 n) (.int .i64 p) (.int .i64 i) := ⟨k, acc, by rw [hn], by rw [hp], by rw [hi], hk, ha, hs, hr⟩

set_option maxHeartbeats 3200000 in
theorem refRead_any (s : ByteArray) (hs : s.size ≤ maxLen) (w : World) :
    Calls Try.prog 39 #[.string s] w (RfPost s w) := by
  unfold maxLen at hs
  have HR := Lib.hid (rd_start s)
  go_enter Try.func39, Try.ntmps39
  go_wp2
  go_loop [5, 6, 7] (RfRel s) (fun _ _ i => 5 - (intOf i).toNat)
  case atStart => exact ⟨0, 0, rfl, rfl, rfl, by omega, by omega, sofar_zero s, HR.out⟩
  case round =>
    clear HR
    obtain ⟨k, acc, rfl, rfl, rfl, hk, ha, hp, hr⟩ := hrel
    have HR := Lib.hid hr; have HP := Lib.hid hp; clear hr hp
    rcases (show k = 0 ∨ k = 1 ∨ k = 2 ∨ k = 3 ∨ k = 4 ∨ k = 5 by omega) with rfl | rfl | rfl | rfl | rfl | rfl
    · obtain rfl : acc = 0 := by omega
      by_cases h0 : 0 < s.size
      · have hb : s[0].toNat < 256 := s[0].toNat_lt
        have hne : ¬ s = ByteArray.empty := by intro h; subst h; exact absurd h0 (by decide)
        by_cases h1 : 128 ≤ s[0].toNat
        · have HN := Lib.hid ((rd_goto 4 0 (128 ^ 0) 0 s h0 h1).symm.trans HR.out)
          have HS := Lib.hid (sofar_succ s 0 0 HP.out h0 h1)
          go_wp2
          exact ⟨rfRel_mk s 1 (0 + s[0].toNat % 128 * 128 ^ 0) _ _ _ (by simp; try omega) (by simp) (by simp) (by omega) (by omega) HS.out HN.out, by simp [intOf]⟩
        · by_cases hm : (0 + s[0].toNat % 128 * 128 ^ 0) ≤ 4294967295
          · by_cases hq : vb (0 + s[0].toNat % 128 * 128 ^ 0) = s.data.toList.take 1
            · have HZ := Lib.hid (show rd s.data.toList = (0, (0 + s[0].toNat % 128 * 128 ^ 0), 1) from HR.out.symm.trans (rd_good 4 0 (128 ^ 0) 0 s h0 h1 ⟨hm, by rw [hq]; simp; omega⟩))
              have hx : (⟨(vb (0 + s[0].toNat % 128 * 128 ^ 0)).toArray⟩ : ByteArray) = s.extract 0 1 := by rw [hq]; exact take_extract s _
              have HX := Lib.hid hx; clear hx hq
              have h2 : (1 : Int) ≤ (s.size : Int) := by omega
              go_wp2_with fail
              refine (refPut_int _ (0 + s[0].toNat % 128 * 128 ^ 0) (s.extract 0 1) (by first | omega | (simp; omega)) hm HX.out _).mono ?_; rintro e w1 ⟨rfl, hb1⟩
              go_wp2_with fail
              go_quiet (fail)
              go_wp2
              go_ret3
              exact rfPost_mk s w _ 0 (0 + s[0].toNat % 128 * 128 ^ 0) 1 _ _ (below_drewN hb1 _) HZ.out rfl (by simp; try omega)
            · have HZ := Lib.hid (show rd s.data.toList = (4, 0, 0) from HR.out.symm.trans (rd_bad 4 0 (128 ^ 0) 0 s h0 h1 (fun hh => hq (vb_take 0 s 0 h0 HP.out h1 hh.2))))
              have hx : ((⟨(vb (0 + s[0].toNat % 128 * 128 ^ 0)).toArray⟩ : ByteArray).toList == (s.extract 0 1).toList) = false := by
                rw [beq_eq_false_iff_ne]; intro hh; exact hq (by have := ba_inj hh; rw [← take_extract s] at this; injection this with this; simpa using this)
              obtain ⟨V, hV⟩ : ∃ V, (⟨(vb (0 + s[0].toNat % 128 * 128 ^ 0)).toArray⟩ : ByteArray) = V := ⟨_, rfl⟩
              rw [hV] at hx
              have HV := Lib.hid hV; clear hV hq
              have h2 : (1 : Int) ≤ (s.size : Int) := by omega
              go_wp2_with fail
              refine (refPut_int _ (0 + s[0].toNat % 128 * 128 ^ 0) V (by first | omega | (simp; omega)) hm HV.out _).mono ?_; rintro e w1 ⟨rfl, hb1⟩
              go_wp2
              go_ret3
              exact rfPost_mk s w _ 4 0 0 _ _ hb1 HZ.out rfl rfl
          · exact absurd (show (0 + s[0].toNat % 128 * 128 ^ 0) ≤ 4294967295 by omega) hm
      · obtain rfl : s = ByteArray.empty := ByteArray.ext (Array.eq_empty_of_size_eq_zero (by have : s.data.size = s.size := rfl; omega))
        have HZ := Lib.hid (show rd (ByteArray.empty).data.toList = (3, 0, 0) from rfl)
        go_wp2
        go_ret3
        exact rfPost_mk _ w w 3 0 0 _ _ (Below.refl _ _) HZ.out rfl rfl
    · by_cases h0 : 1 < s.size
      · have hb : s[1].toNat < 256 := s[1].toNat_lt
        
        by_cases h1 : 128 ≤ s[1].toNat
        · have HN := Lib.hid ((rd_goto 3 1 (128 ^ 1) acc s h0 h1).symm.trans HR.out)
          have HS := Lib.hid (sofar_succ s 1 acc HP.out h0 h1)
          go_wp2
          exact ⟨rfRel_mk s 2 (acc + s[1].toNat % 128 * 128 ^ 1) _ _ _ (by simp; try omega) (by simp) (by simp) (by omega) (by omega) HS.out HN.out, by simp [intOf]⟩
        · by_cases hm : (acc + s[1].toNat % 128 * 128 ^ 1) ≤ 4294967295
          · by_cases hq : vb (acc + s[1].toNat % 128 * 128 ^ 1) = s.data.toList.take 2
            · have HZ := Lib.hid (show rd s.data.toList = (0, (acc + s[1].toNat % 128 * 128 ^ 1), 2) from HR.out.symm.trans (rd_good 3 1 (128 ^ 1) acc s h0 h1 ⟨hm, by rw [hq]; simp; omega⟩))
              have hx : (⟨(vb (acc + s[1].toNat % 128 * 128 ^ 1)).toArray⟩ : ByteArray) = s.extract 0 2 := by rw [hq]; exact take_extract s _
              have HX := Lib.hid hx; clear hx hq
              have h2 : (2 : Int) ≤ (s.size : Int) := by omega
              go_wp2_with fail
              refine (refPut_int _ (acc + s[1].toNat % 128 * 128 ^ 1) (s.extract 0 2) (by first | omega | (simp; omega)) hm HX.out _).mono ?_; rintro e w1 ⟨rfl, hb1⟩
              go_wp2_with fail
              go_quiet (fail)
              go_wp2
              go_ret3
              exact rfPost_mk s w _ 0 (acc + s[1].toNat % 128 * 128 ^ 1) 2 _ _ (below_drewN hb1 _) HZ.out rfl (by simp; try omega)
            · have HZ := Lib.hid (show rd s.data.toList = (4, 0, 0) from HR.out.symm.trans (rd_bad 3 1 (128 ^ 1) acc s h0 h1 (fun hh => hq (vb_take acc s 1 h0 HP.out h1 hh.2))))
              have hx : ((⟨(vb (acc + s[1].toNat % 128 * 128 ^ 1)).toArray⟩ : ByteArray).toList == (s.extract 0 2).toList) = false := by
                rw [beq_eq_false_iff_ne]; intro hh; exact hq (by have := ba_inj hh; rw [← take_extract s] at this; injection this with this; simpa using this)
              obtain ⟨V, hV⟩ : ∃ V, (⟨(vb (acc + s[1].toNat % 128 * 128 ^ 1)).toArray⟩ : ByteArray) = V := ⟨_, rfl⟩
              rw [hV] at hx
              have HV := Lib.hid hV; clear hV hq
              have h2 : (2 : Int) ≤ (s.size : Int) := by omega
              go_wp2_with fail
              refine (refPut_int _ (acc + s[1].toNat % 128 * 128 ^ 1) V (by first | omega | (simp; omega)) hm HV.out _).mono ?_; rintro e w1 ⟨rfl, hb1⟩
              go_wp2
              go_ret3
              exact rfPost_mk s w _ 4 0 0 _ _ hb1 HZ.out rfl rfl
          · exact absurd (show (acc + s[1].toNat % 128 * 128 ^ 1) ≤ 4294967295 by omega) hm
      · 
        have HZ := Lib.hid (show rd s.data.toList = (3, 0, 0) from HR.out.symm.trans (rd_none 3 1 (128 ^ 1) acc s h0))
        go_wp2
        go_ret3
        exact rfPost_mk _ w w 3 0 0 _ _ (Below.refl _ _) HZ.out rfl rfl
    · by_cases h0 : 2 < s.size
      · have hb : s[2].toNat < 256 := s[2].toNat_lt
        
        by_cases h1 : 128 ≤ s[2].toNat
        · have HN := Lib.hid ((rd_goto 2 2 (128 ^ 2) acc s h0 h1).symm.trans HR.out)
          have HS := Lib.hid (sofar_succ s 2 acc HP.out h0 h1)
          go_wp2
          exact ⟨rfRel_mk s 3 (acc + s[2].toNat % 128 * 128 ^ 2) _ _ _ (by simp; try omega) (by simp) (by simp) (by omega) (by omega) HS.out HN.out, by simp [intOf]⟩
        · by_cases hm : (acc + s[2].toNat % 128 * 128 ^ 2) ≤ 4294967295
          · by_cases hq : vb (acc + s[2].toNat % 128 * 128 ^ 2) = s.data.toList.take 3
            · have HZ := Lib.hid (show rd s.data.toList = (0, (acc + s[2].toNat % 128 * 128 ^ 2), 3) from HR.out.symm.trans (rd_good 2 2 (128 ^ 2) acc s h0 h1 ⟨hm, by rw [hq]; simp; omega⟩))
              have hx : (⟨(vb (acc + s[2].toNat % 128 * 128 ^ 2)).toArray⟩ : ByteArray) = s.extract 0 3 := by rw [hq]; exact take_extract s _
              have HX := Lib.hid hx; clear hx hq
              have h2 : (3 : Int) ≤ (s.size : Int) := by omega
              go_wp2_with fail
              refine (refPut_int _ (acc + s[2].toNat % 128 * 128 ^ 2) (s.extract 0 3) (by first | omega | (simp; omega)) hm HX.out _).mono ?_; rintro e w1 ⟨rfl, hb1⟩
              go_wp2_with fail
              go_quiet (fail)
              go_wp2
              go_ret3
              exact rfPost_mk s w _ 0 (acc + s[2].toNat % 128 * 128 ^ 2) 3 _ _ (below_drewN hb1 _) HZ.out rfl (by simp; try omega)
            · have HZ := Lib.hid (show rd s.data.toList = (4, 0, 0) from HR.out.symm.trans (rd_bad 2 2 (128 ^ 2) acc s h0 h1 (fun hh => hq (vb_take acc s 2 h0 HP.out h1 hh.2))))
              have hx : ((⟨(vb (acc + s[2].toNat % 128 * 128 ^ 2)).toArray⟩ : ByteArray).toList == (s.extract 0 3).toList) = false := by
                rw [beq_eq_false_iff_ne]; intro hh; exact hq (by have := ba_inj hh; rw [← take_extract s] at this; injection this with this; simpa using this)
              obtain ⟨V, hV⟩ : ∃ V, (⟨(vb (acc + s[2].toNat % 128 * 128 ^ 2)).toArray⟩ : ByteArray) = V := ⟨_, rfl⟩
              rw [hV] at hx
              have HV := Lib.hid hV; clear hV hq
              have h2 : (3 : Int) ≤ (s.size : Int) := by omega
              go_wp2_with fail
              refine (refPut_int _ (acc + s[2].toNat % 128 * 128 ^ 2) V (by first | omega | (simp; omega)) hm HV.out _).mono ?_; rintro e w1 ⟨rfl, hb1⟩
              go_wp2
              go_ret3
              exact rfPost_mk s w _ 4 0 0 _ _ hb1 HZ.out rfl rfl
          · exact absurd (show (acc + s[2].toNat % 128 * 128 ^ 2) ≤ 4294967295 by omega) hm
      · 
        have HZ := Lib.hid (show rd s.data.toList = (3, 0, 0) from HR.out.symm.trans (rd_none 2 2 (128 ^ 2) acc s h0))
        go_wp2
        go_ret3
        exact rfPost_mk _ w w 3 0 0 _ _ (Below.refl _ _) HZ.out rfl rfl
    · by_cases h0 : 3 < s.size
      · have hb : s[3].toNat < 256 := s[3].toNat_lt
        
        by_cases h1 : 128 ≤ s[3].toNat
        · have HN := Lib.hid ((rd_goto 1 3 (128 ^ 3) acc s h0 h1).symm.trans HR.out)
          have HS := Lib.hid (sofar_succ s 3 acc HP.out h0 h1)
          go_wp2
          exact ⟨rfRel_mk s 4 (acc + s[3].toNat % 128 * 128 ^ 3) _ _ _ (by simp; try omega) (by simp) (by simp) (by omega) (by omega) HS.out HN.out, by simp [intOf]⟩
        · by_cases hm : (acc + s[3].toNat % 128 * 128 ^ 3) ≤ 4294967295
          · by_cases hq : vb (acc + s[3].toNat % 128 * 128 ^ 3) = s.data.toList.take 4
            · have HZ := Lib.hid (show rd s.data.toList = (0, (acc + s[3].toNat % 128 * 128 ^ 3), 4) from HR.out.symm.trans (rd_good 1 3 (128 ^ 3) acc s h0 h1 ⟨hm, by rw [hq]; simp; omega⟩))
              have hx : (⟨(vb (acc + s[3].toNat % 128 * 128 ^ 3)).toArray⟩ : ByteArray) = s.extract 0 4 := by rw [hq]; exact take_extract s _
              have HX := Lib.hid hx; clear hx hq
              have h2 : (4 : Int) ≤ (s.size : Int) := by omega
              go_wp2_with fail
              refine (refPut_int _ (acc + s[3].toNat % 128 * 128 ^ 3) (s.extract 0 4) (by first | omega | (simp; omega)) hm HX.out _).mono ?_; rintro e w1 ⟨rfl, hb1⟩
              go_wp2_with fail
              go_quiet (fail)
              go_wp2
              go_ret3
              exact rfPost_mk s w _ 0 (acc + s[3].toNat % 128 * 128 ^ 3) 4 _ _ (below_drewN hb1 _) HZ.out rfl (by simp; try omega)
            · have HZ := Lib.hid (show rd s.data.toList = (4, 0, 0) from HR.out.symm.trans (rd_bad 1 3 (128 ^ 3) acc s h0 h1 (fun hh => hq (vb_take acc s 3 h0 HP.out h1 hh.2))))
              have hx : ((⟨(vb (acc + s[3].toNat % 128 * 128 ^ 3)).toArray⟩ : ByteArray).toList == (s.extract 0 4).toList) = false := by
                rw [beq_eq_false_iff_ne]; intro hh; exact hq (by have := ba_inj hh; rw [← take_extract s] at this; injection this with this; simpa using this)
              obtain ⟨V, hV⟩ : ∃ V, (⟨(vb (acc + s[3].toNat % 128 * 128 ^ 3)).toArray⟩ : ByteArray) = V := ⟨_, rfl⟩
              rw [hV] at hx
              have HV := Lib.hid hV; clear hV hq
              have h2 : (4 : Int) ≤ (s.size : Int) := by omega
              go_wp2_with fail
              refine (refPut_int _ (acc + s[3].toNat % 128 * 128 ^ 3) V (by first | omega | (simp; omega)) hm HV.out _).mono ?_; rintro e w1 ⟨rfl, hb1⟩
              go_wp2
              go_ret3
              exact rfPost_mk s w _ 4 0 0 _ _ hb1 HZ.out rfl rfl
          · exact absurd (show (acc + s[3].toNat % 128 * 128 ^ 3) ≤ 4294967295 by omega) hm
      · 
        have HZ := Lib.hid (show rd s.data.toList = (3, 0, 0) from HR.out.symm.trans (rd_none 1 3 (128 ^ 3) acc s h0))
        go_wp2
        go_ret3
        exact rfPost_mk _ w w 3 0 0 _ _ (Below.refl _ _) HZ.out rfl rfl
    · by_cases h0 : 4 < s.size
      · have hb : s[4].toNat < 256 := s[4].toNat_lt
        
        by_cases h1 : 128 ≤ s[4].toNat
        · have HN := Lib.hid ((rd_goto 0 4 (128 ^ 4) acc s h0 h1).symm.trans HR.out)
          have HS := Lib.hid (sofar_succ s 4 acc HP.out h0 h1)
          go_wp2
          exact ⟨rfRel_mk s 5 (acc + s[4].toNat % 128 * 128 ^ 4) _ _ _ (by simp; try omega) (by simp) (by simp) (by omega) (by omega) HS.out HN.out, by simp [intOf]⟩
        · by_cases hm : (acc + s[4].toNat % 128 * 128 ^ 4) ≤ 4294967295
          · by_cases hq : vb (acc + s[4].toNat % 128 * 128 ^ 4) = s.data.toList.take 5
            · have HZ := Lib.hid (show rd s.data.toList = (0, (acc + s[4].toNat % 128 * 128 ^ 4), 5) from HR.out.symm.trans (rd_good 0 4 (128 ^ 4) acc s h0 h1 ⟨hm, by rw [hq]; simp; omega⟩))
              have hx : (⟨(vb (acc + s[4].toNat % 128 * 128 ^ 4)).toArray⟩ : ByteArray) = s.extract 0 5 := by rw [hq]; exact take_extract s _
              have HX := Lib.hid hx; clear hx hq
              have h2 : (5 : Int) ≤ (s.size : Int) := by omega
              go_wp2_with fail
              refine (refPut_int _ (acc + s[4].toNat % 128 * 128 ^ 4) (s.extract 0 5) (by first | omega | (simp; omega)) hm HX.out _).mono ?_; rintro e w1 ⟨rfl, hb1⟩
              go_wp2_with fail
              go_quiet (fail)
              go_wp2
              go_ret3
              exact rfPost_mk s w _ 0 (acc + s[4].toNat % 128 * 128 ^ 4) 5 _ _ (below_drewN hb1 _) HZ.out rfl (by simp; try omega)
            · have HZ := Lib.hid (show rd s.data.toList = (4, 0, 0) from HR.out.symm.trans (rd_bad 0 4 (128 ^ 4) acc s h0 h1 (fun hh => hq (vb_take acc s 4 h0 HP.out h1 hh.2))))
              have hx : ((⟨(vb (acc + s[4].toNat % 128 * 128 ^ 4)).toArray⟩ : ByteArray).toList == (s.extract 0 5).toList) = false := by
                rw [beq_eq_false_iff_ne]; intro hh; exact hq (by have := ba_inj hh; rw [← take_extract s] at this; injection this with this; simpa using this)
              obtain ⟨V, hV⟩ : ∃ V, (⟨(vb (acc + s[4].toNat % 128 * 128 ^ 4)).toArray⟩ : ByteArray) = V := ⟨_, rfl⟩
              rw [hV] at hx
              have HV := Lib.hid hV; clear hV hq
              have h2 : (5 : Int) ≤ (s.size : Int) := by omega
              go_wp2_with fail
              refine (refPut_int _ (acc + s[4].toNat % 128 * 128 ^ 4) V (by first | omega | (simp; omega)) hm HV.out _).mono ?_; rintro e w1 ⟨rfl, hb1⟩
              go_wp2
              go_ret3
              exact rfPost_mk s w _ 4 0 0 _ _ hb1 HZ.out rfl rfl
          · have HZ := Lib.hid (show rd s.data.toList = (4, 0, 0) from HR.out.symm.trans (rd_bad 0 4 (128 ^ 4) acc s h0 h1 (fun hh => hm hh.1)))
            have h2 : (5 : Int) ≤ (s.size : Int) := by omega
            go_wp2_with fail
            refine (refPut_out _ (by omega) _).mono ?_; rintro e w1 ⟨rfl, rfl⟩
            go_wp2
            go_ret3
            exact rfPost_mk s w _ 4 0 0 _ _ (Below.refl _ _) HZ.out rfl rfl
      · 
        have HZ := Lib.hid (show rd s.data.toList = (3, 0, 0) from HR.out.symm.trans (rd_none 0 4 (128 ^ 4) acc s h0))
        go_wp2
        go_ret3
        exact rfPost_mk _ w w 3 0 0 _ _ (Below.refl _ _) HZ.out rfl rfl
    · have HZ := Lib.hid (show rd s.data.toList = (4, 0, 0) from HR.out.symm)
      go_wp2
      go_ret3
      exact rfPost_mk s w w 4 0 0 _ _ (Below.refl _ _) HZ.out rfl rfl

end Go.Proofs.Ytnpbjnhjgoafpaa
