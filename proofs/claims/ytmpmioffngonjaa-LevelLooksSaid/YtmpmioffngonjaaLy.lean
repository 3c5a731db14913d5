/- Layer 32: contracts of Head, whatever came in. -/
import Derived.Test.YtmpmioffngonjaaLx
namespace Go.Proofs.Ytmpmioffngonjaa
open Go.ChangeShapes Go.WideShapes Go.ChangeAt Go.RowKit
set_option linter.unusedVariables false
set_option maxRecDepth 100000

def Hd32 (f : Nat) (lv lg : Int) (s : ByteArray) (L : Int) (D : Bool) (I E : Int) : Prop := ∀ w, Calls Try.prog f #[.agg #[.int .i64 lv, .int .i64 lg, .string s]] w fun e w' => e = .returned (.tuple #[.agg #[.int .i64 L, .bool D, .int .u32 I], .int .i64 E]) ∧ Below w.heap.size w w'
/-- Two boxes of three cells each, seen behind a call. -/
theorem two_boxes {w w1 : World} {x0 x1 x2 y0 y1 y2 : Value} {t u : TypeId} (hb : Below ((w.alloc (.cells #[x0, x1, x2] t)).alloc (.cells #[y0, y1, y2] u)).heap.size ((w.alloc (.cells #[x0, x1, x2] t)).alloc (.cells #[y0, y1, y2] u)) w1) :
    (w1.cell? ⟨w.heap.size, 0, none⟩ = some x0 ∧ w1.cell? ⟨w.heap.size, 1, none⟩ = some x1 ∧ w1.cell? ⟨w.heap.size, 2, none⟩ = some x2) ∧
    (w1.cell? ⟨w.heap.size + 1, 0, none⟩ = some y0 ∧ w1.cell? ⟨w.heap.size + 1, 1, none⟩ = some y1 ∧ w1.cell? ⟨w.heap.size + 1, 2, none⟩ = some y2) ∧
    (w1.frozen? ⟨w.heap.size + 1, 0, none⟩ = false ∧ w1.frozen? ⟨w.heap.size + 1, 1, none⟩ = false ∧ w1.frozen? ⟨w.heap.size + 1, 2, none⟩ = false) ∧ w.heap.size < w1.heap.size ∧ w.heap.size + 1 < w1.heap.size ∧ Below w.heap.size w w1 := by
  have hs := hb.size
  simp at hs
  have a := heap_two_first w (.cells #[x0, x1, x2] t) (.cells #[y0, y1, y2] u)
  have b := heap_two_last w (.cells #[x0, x1, x2] t) (.cells #[y0, y1, y2] u)
  refine ⟨⟨?_, ?_, ?_⟩, ⟨?_, ?_, ?_⟩, ⟨?_, ?_, ?_⟩, by omega, by omega, ?_⟩
  · rw [hb.cell (by simp; omega)]; exact cell_lit a 0 _ rfl
  · rw [hb.cell (by simp; omega)]; exact cell_lit a 1 _ rfl
  · rw [hb.cell (by simp; omega)]; exact cell_lit a 2 _ rfl
  · rw [hb.cell (by simp)]; exact cell_lit b 0 _ rfl
  · rw [hb.cell (by simp)]; exact cell_lit b 1 _ rfl
  · rw [hb.cell (by simp)]; exact cell_lit b 2 _ rfl
  · rw [hb.frozen (by simp)]; exact free_in b 0
  · rw [hb.frozen (by simp)]; exact free_in b 1
  · rw [hb.frozen (by simp)]; exact free_in b 2
  · exact (((Below.refl _ _).alloc (Nat.le_refl _) _).alloc (by simp) _).trans (hb.mono (by simp; omega))
theorem full_of (s : ByteArray) (h : 0 < s.size) : (!s.toList.isEmpty) = true ∧ s.toList.isEmpty = false := by
  have h' : 0 < s.data.size := h
  have e : s.toList.isEmpty = false := by
    rw [ByteArray.toList_eq]
    rcases hq : s.data.toList with _ | _
    · have := congrArg List.length hq
      have e2 : s.data.size = 0 := by simpa using this
      omega
    · rfl
  exact ⟨by rw [e]; rfl, e⟩
set_option maxHeartbeats 800000 in
theorem hd44_err (lv lg E : Int) (s : ByteArray) (hE : E ≠ 0) (C : Ck32 46 lv lg s E) : Hd32 44 lv lg s 0 false 0 E := by
  intro w
  have C := Lib.hid C
  have e1 : (E == 0) = false := by rw [beq_eq_false_iff_ne]; exact hE
  have e2 : (E != 0) = true := by rw [bne, e1]; rfl
  clear hE
  go_enter Try.func44, Try.ntmps44
  go_wp2_with fail
  refine (C.out _).mono ?_; rintro e w1 ⟨rfl, hb⟩
  obtain ⟨⟨p0, p1, p2⟩, ⟨r0, r1, r2⟩, ⟨f0, f1, f2⟩, hs0, hsz, hbb⟩ := two_boxes hb
  have hn0 : w.heap.size ≠ w1.heap.size := by omega
  have hn1 : w.heap.size + 1 ≠ w1.heap.size := by omega
  clear hb
  go_wp2_with fail
  exact bodyPost_ret (v := .tuple #[_, _]) (by simp [results, Try.results44, go_sem, r0, r1, r2]) rfl ⟨rfl, by first | exact hbb | go_grown⟩
set_option maxHeartbeats 800000 in
theorem hd45_err (lv lg E : Int) (s : ByteArray) (hE : E ≠ 0) (C : Ck32 47 lv lg s E) : Hd32 45 lv lg s 0 false 0 E := by
  intro w
  have C := Lib.hid C
  have e1 : (E == 0) = false := by rw [beq_eq_false_iff_ne]; exact hE
  have e2 : (E != 0) = true := by rw [bne, e1]; rfl
  clear hE
  go_enter Try.func45, Try.ntmps45
  go_wp2_with fail
  refine (C.out _).mono ?_; rintro e w1 ⟨rfl, hb⟩
  obtain ⟨⟨p0, p1, p2⟩, ⟨r0, r1, r2⟩, ⟨f0, f1, f2⟩, hs0, hsz, hbb⟩ := two_boxes hb
  have hn0 : w.heap.size ≠ w1.heap.size := by omega
  have hn1 : w.heap.size + 1 ≠ w1.heap.size := by omega
  clear hb
  go_wp2_with fail
  exact bodyPost_ret (v := .tuple #[_, _]) (by simp [results, Try.results45, go_sem, r0, r1, r2]) rfl ⟨rfl, by first | exact hbb | go_grown⟩
set_option maxHeartbeats 1600000 in
theorem hd44_none (lv lg : Int) (C : Ck32 46 lv lg ⟨#[]⟩ 0) : Hd32 44 lv lg ⟨#[]⟩ lg false 0 0 := by
  intro w
  have C := Lib.hid C
  go_enter Try.func44, Try.ntmps44
  go_wp2_with fail
  refine (C.out _).mono ?_; rintro e w1 ⟨rfl, hb⟩
  obtain ⟨⟨p0, p1, p2⟩, ⟨r0, r1, r2⟩, ⟨f0, f1, f2⟩, hs0, hsz, hbb⟩ := two_boxes hb
  have hn0 : w.heap.size ≠ w1.heap.size := by omega
  have hn1 : w.heap.size + 1 ≠ w1.heap.size := by omega
  clear hb
  go_wp2_with fail
  exact bodyPost_ret (v := .tuple #[_, _]) (by simp [results, Try.results44, go_sem, r0, r1, r2, hsz, hs0, hn1]) rfl ⟨rfl, by first | exact hbb | go_grown⟩
set_option maxHeartbeats 1600000 in
theorem hd44_some (lv lg : Int) (s : ByteArray) (hs : 0 < s.size) (hm : s.size ≤ 100000) (C : Ck32 46 lv lg s 0) : Hd32 44 lv lg s lg true (addL 1 s.data.toList) 0 := by
  intro w
  have C := Lib.hid C
  have S := Lib.hid (fun w => sum_any s (by unfold maxLen; omega) w)
  obtain ⟨I, hI⟩ : ∃ I, addL 1 s.data.toList = I := ⟨_, rfl⟩
  rw [hI] at S
  rw [hI]
  obtain ⟨n1, n2⟩ := full_of s hs
  clear hI hs
  go_enter Try.func44, Try.ntmps44
  go_wp2_with fail
  refine (C.out _).mono ?_; rintro e w1 ⟨rfl, hb⟩
  obtain ⟨⟨p0, p1, p2⟩, ⟨r0, r1, r2⟩, ⟨f0, f1, f2⟩, hs0, hsz, hbb⟩ := two_boxes hb
  have hn0 : w.heap.size ≠ w1.heap.size := by omega
  have hn1 : w.heap.size + 1 ≠ w1.heap.size := by omega
  clear hb
  go_wp2_with fail
  refine (S.out _).mono ?_; rintro e w2 ⟨rfl, rfl⟩
  go_wp2_with fail
  exact bodyPost_ret (v := .tuple #[_, _]) (by simp [results, Try.results44, go_sem, r0, r1, r2, hsz, hs0, hn1]) rfl ⟨rfl, by first | exact hbb | go_grown⟩
set_option maxHeartbeats 1600000 in
theorem hd45_none (lv lg : Int) (C : Ck32 47 lv lg ⟨#[]⟩ 0) : Hd32 45 lv lg ⟨#[]⟩ lg false 0 0 := by
  intro w
  have C := Lib.hid C
  go_enter Try.func45, Try.ntmps45
  go_wp2_with fail
  refine (C.out _).mono ?_; rintro e w1 ⟨rfl, hb⟩
  obtain ⟨⟨p0, p1, p2⟩, ⟨r0, r1, r2⟩, ⟨f0, f1, f2⟩, hs0, hsz, hbb⟩ := two_boxes hb
  have hn0 : w.heap.size ≠ w1.heap.size := by omega
  have hn1 : w.heap.size + 1 ≠ w1.heap.size := by omega
  clear hb
  go_wp2_with fail
  exact bodyPost_ret (v := .tuple #[_, _]) (by simp [results, Try.results45, go_sem, r0, r1, r2]) rfl ⟨rfl, by first | exact hbb | go_grown⟩
set_option maxHeartbeats 1600000 in
theorem hd45_some (lv lg : Int) (s : ByteArray) (hs : 0 < s.size) (hm : s.size ≤ 100000) (C : Ck32 47 lv lg s 0) : Hd32 45 lv lg s lg true (addL 1 s.data.toList) 0 := by
  intro w
  have C := Lib.hid C
  have S := Lib.hid (fun w => refSum_any s (by unfold maxLen; omega) w)
  obtain ⟨I, hI⟩ : ∃ I, addL 1 s.data.toList = I := ⟨_, rfl⟩
  rw [hI] at S
  rw [hI]
  obtain ⟨n1, n2⟩ := full_of s hs
  clear hI hs
  go_enter Try.func45, Try.ntmps45
  go_wp2_with fail
  refine (C.out _).mono ?_; rintro e w1 ⟨rfl, hb⟩
  obtain ⟨⟨p0, p1, p2⟩, ⟨r0, r1, r2⟩, ⟨f0, f1, f2⟩, hs0, hsz, hbb⟩ := two_boxes hb
  have hn0 : w.heap.size ≠ w1.heap.size := by omega
  have hn1 : w.heap.size + 1 ≠ w1.heap.size := by omega
  clear hb
  go_wp2_with fail
  go_region_with (go_at_call 68; refine (S.out _).mono ?_; rintro e w2 ⟨rfl, rfl⟩)
  all_goals go_wp2_with fail
  all_goals exact bodyPost_ret (v := .tuple #[_, _]) (by simp [results, Try.results45, go_sem, r0, r1, r2]) rfl ⟨rfl, by first | exact hbb | go_grown⟩
end Go.Proofs.Ytmpmioffngonjaa
