/- Layer 29: one deed. -/
import Derived.Test.YtjpmfaodkldobaaW8
namespace Go.Proofs.Ytjpmfaodkldobaa
open Go.ChangeShapes Go.WideShapes Go.ChangeAt Go.RowKit
set_option linter.unusedVariables false
set_option maxRecDepth 100000
theorem sOf_size2 (l : List UInt8) : (sOf l).size = l.length := by unfold sOf; simp [ByteArray.size]
theorem sOf_list2 (l : List UInt8) : (sOf l).data.toList = l := by unfold sOf; simp
theorem dCopyBad1 (s : ByteArray) (n d : Int) (h : n < 0 ∨ 258 < n) (w : World) :
    Calls Try.prog 22 #[.string s, .int .i64 n, .int .i64 d, .int .i64 67108864] w fun e w' => e = .returned (.tuple #[.string (sOf []), .int .i64 1]) ∧ Below w.heap.size w w' := by
  by_cases h1 : n < 0
  · clear h
    go_enter Try.func22, Try.ntmps22
    go_wp2
    go_ret2
    exact ⟨rfl, Below.refl _ _⟩
  · have h2 : 258 < n := by omega
    have h3 : decide (n < 0) = false := decide_eq_false h1
    clear h
    go_enter Try.func22, Try.ntmps22
    go_wp2
    go_ret2
    exact ⟨rfl, Below.refl _ _⟩
theorem dCopyBad2 (s : ByteArray) (n d : Int) (hn : 0 ≤ n ∧ n ≤ 258) (h : d < 1 ∨ (s.size : Int) < d) (hs : s.size ≤ 1000000) (w : World) :
    Calls Try.prog 22 #[.string s, .int .i64 n, .int .i64 d, .int .i64 67108864] w fun e w' => e = .returned (.tuple #[.string (sOf []), .int .i64 10]) ∧ Below w.heap.size w w' := by
  obtain ⟨n1, n2⟩ := hn
  have q3 : decide ((n : Int) < 0) = false := decide_eq_false (by omega)
  have q4 : decide ((258 : Int) < n) = false := decide_eq_false (by omega)
  by_cases h1 : d < 1
  · clear h
    go_enter Try.func22, Try.ntmps22
    go_wp2
    go_ret2
    exact ⟨rfl, Below.refl _ _⟩
  · have h2 : (s.size : Int) < d := by omega
    have h3 : decide (d < 1) = false := decide_eq_false h1
    clear h
    by_cases h4 : 67108864 < d
    · go_enter Try.func22, Try.ntmps22
      go_wp2
      go_ret2
      exact ⟨rfl, Below.refl _ _⟩
    · have h5 : decide (67108864 < d) = false := decide_eq_false h4
      go_enter Try.func22, Try.ntmps22
      go_wp2
      go_ret2
      exact ⟨rfl, Below.refl _ _⟩
theorem dCopyT (H : List UInt8) (n d : Int) (hH : H.length ≤ 5000) (T : List UInt8) (E : Int) (hT : copyS H n d = (T, E)) (w : World) :
    Calls Try.prog 22 #[.string (sOf H), .int .i64 n, .int .i64 d, .int .i64 67108864] w fun e w' => e = .returned (.tuple #[.string (sOf (if E = 0 then H ++ T else [])), .int .i64 E]) ∧ Below w.heap.size w w' := by
  unfold copyS at hT
  by_cases c1 : n < 0 ∨ 258 < n
  · rw [if_pos c1] at hT
    obtain ⟨rfl, rfl⟩ := by simpa using hT
    exact dCopyBad1 _ n d c1 w
  · rw [if_neg c1] at hT
    by_cases c2 : d < 1 ∨ (H.length : Int) < d
    · rw [if_pos c2] at hT
      obtain ⟨rfl, rfl⟩ := by simpa using hT
      exact dCopyBad2 _ n d (by omega) (by rw [sOf_size2]; exact c2) (by rw [sOf_size2]; omega) w
    · rw [if_neg c2] at hT
      obtain ⟨N, rfl⟩ : ∃ m : Nat, n = m := ⟨n.toNat, by omega⟩
      obtain ⟨D, rfl⟩ : ∃ m : Nat, d = m := ⟨d.toNat, by omega⟩
      rw [Int.toNat_natCast, Int.toNat_natCast] at hT
      obtain ⟨rfl, rfl⟩ := by simpa using hT
      rw [if_pos rfl, ← copyL_told]
      have := dCopyIn (sOf H) N D (by rw [sOf_size2]; omega) (by omega) (by omega) (by rw [sOf_size2]; omega) w
      rw [sOf_list2] at this
      exact this
theorem Mine.later {w0 w w' : World} {size : Nat} {H : List UInt8} (h : Mine w0 w size H) (hb : Below w.heap.size w w') : Mine w0 w' size H := by
  obtain ⟨v, h1, h2, h3⟩ := h
  exact ⟨v, h1.keep (S := fun _ => False) (Keeps.of_below hb) (fun k _ h => h), h2, h3.trans (hb.mono h3.size)⟩
theorem sOf_app (A : ByteArray) (l : List UInt8) : (A ++ sOf l).data.toList = A.data.toList ++ l := by
  rw [show (A ++ sOf l).data.toList = A.data.toList ++ (sOf l).data.toList by simp, sOf_list2]
theorem mine_lt {w0 w : World} {size : Nat} {H : List UInt8} (h : Mine w0 w size H) : w0.heap.size < w.heap.size := by
  obtain ⟨v, h1, h2, h3⟩ := h
  exact h1.feet_lt _ (.inl rfl)
theorem box_kept {w w2 : World} {g : Nat} {v : Value} {x0 x1 x2 x3 : Value} {t : TypeId} (hf : ∀ k, feet g v k → k < w.heap.size) (hk : Keeps (feet g v) (w.alloc (.cells #[x0, x1, x2, x3] t)) w2) :
    w2.heap[w.heap.size]? = some (.cells #[x0, x1, x2, x3] t (0, 0)) := hk.heap (heap_alloc_new w _) (fun h => by have := hf _ h; omega)
def OneOk (w0 : World) (size : Nat) (A : ByteArray) (e : Ending) (w' : World) : Prop := ∃ A' : ByteArray, e = .returned (.tuple #[.string A', .bool true]) ∧ A'.size ≤ A.size + 1000 ∧ Mine w0 w' size (lastN size A'.data.toList)
set_option maxHeartbeats 3200000 in
theorem one0 (w0 w : World) (size : Nat) (A S : ByteArray) (K N D : Int) (hK : K ≠ 1) (h : Mine w0 w size (lastN size A.data.toList)) (hA : A.size ≤ 1000000) (hS : S.size ≤ 1000) :
    Calls Try.prog 31 #[.pointer (some ⟨w0.heap.size, 0, none⟩), .string A, .int .i64 size, .agg #[.int .i64 K, .int .i64 N, .int .i64 D, .string S]] w (OneOk w0 size A) := by
  have hKb : (K == 1) = false := by rw [beq_eq_false_iff_ne]; exact hK
  obtain ⟨v, h1, h2, h3⟩ := h
  have hfl := h1.feet_lt
  have h1' := h1.keep (S := fun _ => False) (Keeps.of_below ((Below.refl _ _).alloc (Nat.le_refl _) (.cells #[.int .i64 K, .int .i64 N, .int .i64 D, .string S] 61))) (fun k _ h => h)
  have HC := Lib.hid (hPut _ _ _ size v _ S h1' (by omega))
  have HE := Lib.hid (show lastN size (lastN size A.data.toList ++ S.data.toList) = lastN size (A ++ S).data.toList by rw [← lastN_append]; simp)
  have HH := Lib.hid (show _ ∧ _ ∧ _ from ⟨h2, h3.alloc h3.size (.cells #[.int .i64 K, .int .i64 N, .int .i64 D, .string S] 61), hfl⟩)
  clear h1 h2 h3 hfl h1' hK
  go_enter Try.func31, Try.ntmps31
  go_wp2_with fail
  refine HC.out.mono ?_; rintro e w2 ⟨rfl, hst⟩
  have hm := Lib.hid (mine_step HH.out.1 HH.out.2.1 hst)
  obtain ⟨v2, -, -, hk⟩ := hst
  have hb := box_kept HH.out.2.2 hk
  have c3 := cell_in hb 3
  simp only [List.getElem?_toArray, List.getElem?_cons_zero, List.getElem?_cons_succ] at c3
  have hlt := block_lt hb
  clear hk hb HC HH
  go_wp2_with fail
  go_ret2
  exact ⟨A ++ S, rfl, by simp; omega, by rw [← HE.out]; exact hm.out⟩
set_option maxHeartbeats 3200000 in
theorem one1 (w0 w : World) (size : Nat) (A S : ByteArray) (N D : Int) (h : Mine w0 w size (lastN size A.data.toList)) (hA : A.size ≤ 1000000) (hsz : 1 ≤ size ∧ size ≤ 5000) :
    Calls Try.prog 31 #[.pointer (some ⟨w0.heap.size, 0, none⟩), .string A, .int .i64 size, .agg #[.int .i64 1, .int .i64 N, .int .i64 D, .string S]] w (OneOk w0 size A) := by
  obtain ⟨v, h1, h2, h3⟩ := h
  have hfl := h1.feet_lt
  have hHl := h1.len
  have h1' := h1.keep (S := fun _ => False) (Keeps.of_below ((Below.refl _ _).alloc (Nat.le_refl _) (.cells #[.int .i64 1, .int .i64 N, .int .i64 D, .string S] 61))) (fun k _ h => h)
  obtain ⟨H, hH⟩ : ∃ H, lastN size A.data.toList = H := ⟨_, rfl⟩
  rw [hH] at h1' hHl
  obtain ⟨T, E, hTE⟩ : ∃ T E, copyS H N D = (T, E) := ⟨_, _, rfl⟩
  have HC := Lib.hid (hCopy _ _ _ size v H N D h1' T E hTE)
  have HD := Lib.hid (fun w => dCopyT H N D (by omega) T E hTE w)
  have HLst := Lib.hid (show lastI (size : Int) A.data.toList = H by unfold lastI; rw [if_neg (by omega), Int.toNat_natCast]; exact hH)
  have HE := Lib.hid (show lastN size (H ++ T) = lastN size (A.data.toList ++ T) by rw [← hH, ← lastN_append])
  have HT0 := Lib.hid (show E ≠ 0 → T = [] from fun hE => by
    unfold copyS at hTE
    split at hTE
    · simp at hTE; exact hTE.1
    · split at hTE
      · simp at hTE; exact hTE.1
      · simp at hTE; exact absurd hTE.2.symm hE)
  have HTl := Lib.hid (show T.length ≤ 258 by
    unfold copyS at hTE
    split at hTE
    · simp at hTE; rw [hTE.1]; simp
    · split at hTE
      · simp at hTE; rw [hTE.1]; simp
      · simp at hTE; rw [← hTE.1, toldL_len]; omega)
  have HH := Lib.hid (show _ ∧ _ ∧ _ from ⟨h2, h3.alloc h3.size (.cells #[.int .i64 1, .int .i64 N, .int .i64 D, .string S] 61), hfl⟩)
  clear h1 h2 h3 hfl h1' hH hTE
  go_enter Try.func31, Try.ntmps31
  go_wp2_with fail
  refine HC.out.mono ?_; rintro e w2 ⟨rfl, hst⟩
  have hm := Lib.hid (mine_step HH.out.1 HH.out.2.1 hst)
  obtain ⟨v2, -, -, hk⟩ := hst
  have hb := box_kept HH.out.2.2 hk
  have c1 := cell_in hb 1
  have c2 := cell_in hb 2
  simp only [List.getElem?_toArray, List.getElem?_cons_zero, List.getElem?_cons_succ] at c1 c2
  have hlt := block_lt hb
  clear hk hb HC HH
  go_wp2_with fail
  refine (lLast A size (by omega) _).mono ?_; rintro e w3 ⟨rfl, rfl⟩
  rw [HLst.out]
  go_wp2_with fail
  refine (HD.out _).mono ?_; rintro e w4 ⟨rfl, hb4⟩
  have hm := Lib.hid (hm.out.later hb4)
  have hsl := sOf_toList
  by_cases hE : E = 0
  · subst hE
    rw [if_pos rfl]
    clear hb4 HD HT0
    have hx0 : (sOf H).size ≤ (sOf (H ++ T)).size := by rw [sOf_size2, sOf_size2, List.length_append]; omega
    have hx1 : (sOf (H ++ T)).extract (sOf H).size (sOf (H ++ T)).size = sOf T := by
      refine sOf_eq ?_
      rw [sOf_size2, sOf_size2]
      simp [ByteArray.data_extract, sOf]
    have hx2 : (sOf T).size ≤ 258 := by rw [sOf_size2]; exact HTl.out
    go_wp2_with fail
    go_ret2
    exact ⟨A ++ sOf T, rfl, by simp [sOf_size2]; have := HTl.out; omega, by rw [sOf_app, ← HE.out]; exact hm.out⟩
  · rw [if_neg hE]
    have hT := HT0.out hE
    subst hT
    clear hb4 HD HT0
    go_wp2_with fail
    go_ret2
    have h7 := HE.out
    have h8 := hm.out
    simp only [List.append_nil] at h7 h8
    exact ⟨A, rfl, by omega, by rw [← h7]; exact h8⟩
theorem oneT (w0 w : World) (size : Nat) (A S : ByteArray) (K N D : Int) (h : Mine w0 w size (lastN size A.data.toList)) (hA : A.size ≤ 1000000) (hS : S.size ≤ 1000) (hsz : 1 ≤ size ∧ size ≤ 5000) :
    Calls Try.prog 31 #[.pointer (some ⟨w0.heap.size, 0, none⟩), .string A, .int .i64 size, .agg #[.int .i64 K, .int .i64 N, .int .i64 D, .string S]] w (OneOk w0 size A) := by
  by_cases hK : K = 1
  · subst hK; exact one1 w0 w size A S N D h hA hsz
  · exact one0 w0 w size A S K N D hK h hA hS
end Go.Proofs.Ytjpmfaodkldobaa
