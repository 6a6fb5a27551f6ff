/-
  TextPlain: the walk.
-/
import Derived.Test.YteccccpjhpbebaaDoorSo
namespace Go.Proofs.YteccccpjhpbebaaDoor
open Go.RowKit WireM
set_option linter.unusedVariables false
set_option linter.unusedSimpArgs false

theorem plainlaw_long (p s : ByteArray) (w : World) (ht : Glob w) (hs : 100 < p.size ∨ 300 < s.size) (hm : s.size ≤ 9223372036854775807) (hm2 : p.size ≤ 9223372036854775807) :
    Calls Tryd.prog 6 #[.string p, .string s] w fun e w' => e = .returned (.bool true) ∧ Below w.heap.size w w' := by
  by_cases h1 : (100 : Int) < p.size
  · go_enter Tryd.func6, Tryd.ntmps6
    go_wp2_with (go_at_call 7; refine (small_any _ ht).mono ?_; rintro e w1 ⟨rfl, b1⟩)
    go_ret
    exact ⟨rfl, b1⟩
  · have h2 : (300 : Int) < s.size := by omega
    go_enter Tryd.func6, Tryd.ntmps6
    go_wp2_with (go_at_call 7; refine (small_any _ ht).mono ?_; rintro e w1 ⟨rfl, b1⟩)
    go_ret
    exact ⟨rfl, b1⟩
theorem bs_self (s : ByteArray) : bs s.data.toList = s := rfl
theorem strEq' (a b : ByteArray) : (a.toList == b.toList) = decide (a = b) := by
  rw [Lib.toList_data, Lib.toList_data, Bool.eq_iff_iff]
  simp only [beq_iff_eq, decide_eq_true_eq]
  exact ⟨fun h => ext h, fun h => by rw [h]⟩
set_option maxHeartbeats 2000000 in
set_option maxRecDepth 100000 in
theorem plainlaw_short (p s : ByteArray) (w : World) (ht : Glob w) (hp : p.size ≤ 100) (hs : s.size ≤ 300) :
    Calls Tryd.prog 6 #[.string p, .string s] w fun e w' => e = .returned (.bool true) ∧ Below w.heap.size w w' := by
  have g1 : ¬ (100 : Int) < p.size := by omega
  have g2 : ¬ (300 : Int) < s.size := by omega
  have es : s.data.toList.length = s.size := by simp
  have ep : p.data.toList.length = p.size := by simp
  have hel := escOf_len s.data.toList
  have hpl := plainOf_len _ p.data.toList (Nat.le_refl _)
  rw [es] at hel
  rw [ep] at hpl
  have M1 := Lib.hid (magic_esc s.data.toList)
  have M2 := Lib.hid (plain_esc s.data.toList)
  have M3 := Lib.hid (show patB (escOf s.data.toList) s.data.toList = true by unfold patB; rw [mtB_iff]; exact mt_esc_self _)
  have ss : (s.toList == s.toList) = true := by simp
  clear es ep
  cases hm : magicOf p.data.toList with
  | true =>
    have HM := Lib.hid hm
    clear hm
    go_enter Tryd.func6, Tryd.ntmps6
    go_wp2_with fail
    go_at_call 7
    refine (small_any _ ht).mono ?_
    rintro e w1 ⟨rfl, b1⟩
    go_wp2_with fail
    go_at_call 17
    refine (escape_any s (by omega) _).mono ?_
    rintro e w2 ⟨rfl, b2⟩
    replace b2 := below_step b1 b2
    clear b1
    go_wp2_with fail
    go_at_call 18
    refine (magic_any p (by omega) _).mono ?_
    rintro e w3 ⟨rfl, b3⟩
    rw [HM.out]
    replace b3 := below_step b2 b3
    clear b2
    go_wp2_with fail
    go_at_call 18
    refine (magic_any (bs (escOf s.data.toList)) (by rw [bs_size]; omega) _).mono ?_
    rintro e w4 ⟨rfl, b4⟩
    rw [bs_data, M1.out]
    replace b4 := below_step b3 b4
    clear b3
    go_wp2_with fail
    go_at_call 19
    refine (plain_any (bs (escOf s.data.toList)) (by rw [bs_size]; omega) _).mono ?_
    rintro e w5 ⟨rfl, b5⟩
    rw [bs_data, M2.out, bs_self]
    replace b5 := below_step b4 b5
    clear b4
    go_wp2_with fail
    go_at_call 16
    refine (pattern_any (bs (escOf s.data.toList)) s (by rw [bs_size]; omega) (by omega) _).mono ?_
    rintro e w6 ⟨rfl, b6⟩
    rw [bs_data, M3.out]
    replace b6 := below_step b5 b6
    clear b5
    go_wp2_with fail
    go_ret
    exact ⟨rfl, b6⟩
  | false =>
    have HM := Lib.hid hm
    have L1 := Lib.hid (show patB p.data.toList (plainOf p.data.toList) = true by unfold patB; rw [mtB_iff]; exact (plain_law _ _ hm).2 rfl)
    have L2 := Lib.hid (show patB p.data.toList s.data.toList = (s.toList == (bs (plainOf p.data.toList)).toList) by
      rw [Bool.eq_iff_iff]; unfold patB; rw [mtB_iff, plain_law _ _ hm, strEq']
      simp only [decide_eq_true_eq]
      exact ⟨fun h => ext (by rw [bs_data]; exact h), fun h => by rw [h, bs_data]⟩)
    clear hm
    generalize hPL : plainOf p.data.toList = PL at *
    have HPL := Lib.hid hPL
    clear hPL
    go_enter Tryd.func6, Tryd.ntmps6
    go_wp2_with fail
    go_at_call 7
    refine (small_any _ ht).mono ?_
    rintro e w1 ⟨rfl, b1⟩
    go_wp2_with fail
    go_at_call 17
    refine (escape_any s (by omega) _).mono ?_
    rintro e w2 ⟨rfl, b2⟩
    replace b2 := below_step b1 b2
    clear b1
    go_wp2_with fail
    go_at_call 18
    refine (magic_any p (by omega) _).mono ?_
    rintro e w3 ⟨rfl, b3⟩
    rw [HM.out]
    replace b3 := below_step b2 b3
    clear b2
    go_wp2_with fail
    go_at_call 19
    refine (plain_any p (by omega) _).mono ?_
    rintro e wa ⟨rfl, ba⟩
    rw [HPL.out]
    replace ba := below_step b3 ba
    clear b3
    go_wp2_with fail
    go_at_call 16
    refine (pattern_any p (bs PL) (by omega) (by rw [bs_size]; omega) _).mono ?_
    rintro e wb ⟨rfl, bb⟩
    rw [bs_data, L1.out]
    replace bb := below_step ba bb
    clear ba
    go_wp2_with fail
    go_at_call 16
    refine (pattern_any p s (by omega) (by omega) _).mono ?_
    rintro e wc ⟨rfl, bc⟩
    rw [L2.out]
    replace bc := below_step bb bc
    clear bb
    go_wp2_with fail
    go_at_call 19
    refine (plain_any p (by omega) _).mono ?_
    rintro e wd ⟨rfl, bd⟩
    rw [HPL.out]
    replace bd := below_step bc bd
    clear bc
    have fz : (((s.toList == (bs PL).toList) : Bool) != (s.toList == (bs PL).toList)) = false := by simp
    have fy : (((s.toList == (bs PL).toList) : Bool) == (s.toList == (bs PL).toList)) = true := by simp
    go_wp2_with fail
    all_goals
      go_at_call 18
      refine (magic_any (bs (escOf s.data.toList)) (by rw [bs_size]; omega) _).mono ?_
      rintro e w4 ⟨rfl, b4⟩
      rw [bs_data, M1.out]
      replace b4 := below_step bd b4
      clear bd
      go_wp2_with fail
      go_at_call 19
      refine (plain_any (bs (escOf s.data.toList)) (by rw [bs_size]; omega) _).mono ?_
      rintro e w5 ⟨rfl, b5⟩
      rw [bs_data, M2.out, bs_self]
      replace b5 := below_step b4 b5
      clear b4
      go_wp2_with fail
      go_at_call 16
      refine (pattern_any (bs (escOf s.data.toList)) s (by rw [bs_size]; omega) (by omega) _).mono ?_
      rintro e w6 ⟨rfl, b6⟩
      rw [bs_data, M3.out]
      replace b6 := below_step b5 b6
      clear b5
      go_wp2_with fail
      go_ret
      exact ⟨rfl, b6⟩
/-- ████ TextPlain returns true. -/
theorem plainlaw_any (p s : ByteArray) (w : World) (ht : Glob w) (hm : s.size ≤ 9223372036854775807) (hm2 : p.size ≤ 9223372036854775807) :
    Calls Tryd.prog 6 #[.string p, .string s] w fun e w' => e = .returned (.bool true) ∧ Below w.heap.size w w' := by
  by_cases h1 : p.size ≤ 100
  · by_cases h2 : s.size ≤ 300
    · exact plainlaw_short p s w ht h1 h2
    · exact plainlaw_long p s w ht (.inr (by omega)) hm hm2
  · exact plainlaw_long p s w ht (.inl (by omega)) hm hm2
end Go.Proofs.YteccccpjhpbebaaDoor
