/-
  PACKAGE text, THE SMALL FUNCTIONS: Int, and what a part of a pattern matches.
-/
import Derived.Test.YteccccpjhpbebaaGreatDoorGr
namespace Go.Proofs.YteccccpjhpbebaaGreatDoor
open Go.RowKit WireM
set_option linter.unusedVariables false
set_option linter.unusedSimpArgs false

theorem bs_eq (l : List UInt8) (s : ByteArray) : ((bs l).toList == s.toList) = decide (l = s.data.toList) := by
  rw [Lib.toList_data, Lib.toList_data, bs_data, Bool.eq_iff_iff]; simp
theorem bs_ne (l : List UInt8) (s : ByteArray) : ((bs l).toList != s.toList) = !decide (l = s.data.toList) := by
  unfold bne; rw [bs_eq]
theorem int_any (s : ByteArray) (hs : s.size ≤ 281474976710656) (w : World) (ht : Glob w) :
    Calls Tryz.prog 5 #[.string s] w fun e w' => e = .returned (.tuple #[.int .i64 (decOf s.data.toList).1, .bool (decOf s.data.toList).2]) ∧ Below w.heap.size w w' := by
  obtain ⟨D, hD⟩ : ∃ D, decOf s.data.toList = D := ⟨_, rfl⟩
  rw [hD]
  have HD := Lib.hid hD
  clear hD
  go_enter Tryz.func5, Tryz.ntmps5
  go_wp2_with fail
  go_at_call 28
  refine (atoi_any s hs _ ht).mono ?_
  rintro e w1 ⟨he, b1⟩
  rcases he with ⟨v, rfl, hv, hu⟩ | ⟨v, tp, p, rfl, hv, hu⟩
  · have HU := Lib.hid hu
    clear hu
    by_cases hq : Lib.itoa v = s.data.toList
    · have h1 : ((bs (Lib.itoa v)).toList == s.toList) = true := by rw [bs_eq]; simp [hq]
      have HE := Lib.hid (show D = (v, true) by rw [← HD.out]; exact decOf_yes v hv hq)
      clear hq
      go_wp2_with fail
      go_at_call 9
      refine (decimal_any v hv.1 hv.2 _ (ht.of b1)).mono ?_
      rintro e w2 ⟨rfl, b2⟩
      go_wp2_with fail
      go_ret2
      exact ⟨by rw [HE.out]; rfl, below_step b1 b2⟩
    · have h1 : ((bs (Lib.itoa v)).toList == s.toList) = false := by rw [bs_eq]; simp [hq]
      have HE := Lib.hid (show D = (0, false) by
        rw [← HD.out]; exact decOf_no fun n hn e => hq (by rw [← HU.out n hn e]; exact e))
      clear hq
      go_wp2_with fail
      go_at_call 9
      refine (decimal_any v hv.1 hv.2 _ (ht.of b1)).mono ?_
      rintro e w2 ⟨rfl, b2⟩
      go_wp2_with fail
      go_ret2
      exact ⟨by rw [HE.out]; rfl, below_step b1 b2⟩
  · have HE := Lib.hid (show D = (0, false) by rw [← HD.out]; exact decOf_no hu)
    clear hu
    go_wp2_with fail
    go_ret2
    exact ⟨by rw [HE.out]; rfl, b1⟩

/-! PARTS -/
theorem isClass_any (t : ByteArray) (w : World) (hs : t.size ≤ 9223372036854775807) : Calls Tryz.prog 41 #[.string t] w fun e w' => e = .returned (.bool (decide (2 < t.size))) ∧ w = w' := by
  go_enter Tryz.func41, Tryz.ntmps41
  by_cases h : 2 < t.size
  · have h' : (2 : Int) < t.size := by omega
    go_wp2_with fail
    go_ret
    exact ⟨by simp [h], rfl⟩
  · have h' : ¬ (2 : Int) < t.size := by omega
    go_wp2_with fail
    go_ret
    exact ⟨by simp [h], rfl⟩
theorem isProtected_any (t : ByteArray) (w : World) (hs : t.size ≤ 9223372036854775807) : Calls Tryz.prog 42 #[.string t] w fun e w' => e = .returned (.bool (decide (t.size = 2))) ∧ w = w' := by
  go_enter Tryz.func42, Tryz.ntmps42
  by_cases h : t.size = 2
  · have h' : ((t.size : Int) == 2) = true := by rw [beq_iff_eq]; omega
    have H := Lib.hid h
    clear h
    go_wp2_with fail
    go_ret
    exact ⟨by simp [H.out], rfl⟩
  · have h' : ((t.size : Int) == 2) = false := by rw [beq_eq_false_iff_ne]; omega
    go_wp2_with fail
    go_ret
    exact ⟨by simp [h], rfl⟩
end Go.Proofs.YteccccpjhpbebaaGreatDoor
