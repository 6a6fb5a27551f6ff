/-
  TextBack: the walk.
-/
import Derived.Test.YteccccpjhpbebaaDoorSo
namespace Go.Proofs.YteccccpjhpbebaaDoor
open Go.RowKit WireM
set_option linter.unusedVariables false
set_option linter.unusedSimpArgs false

theorem strEq (a b : ByteArray) : (a.toList == b.toList) = decide (a = b) := by
  rw [Lib.toList_data, Lib.toList_data, Bool.eq_iff_iff]
  simp only [beq_iff_eq, decide_eq_true_eq]
  exact ⟨fun h => ext h, fun h => by rw [h]⟩
theorem back_long (n : Int) (s : ByteArray) (w : World) (ht : Glob w) (hs : 300 < s.size) (hm : s.size ≤ 9223372036854775807) :
    Calls Tryd.prog 3 #[.int .i64 n, .string s] w fun e w' => e = .returned (.bool true) ∧ Below w.heap.size w w' := by
  have g : (300 : Int) < s.size := by omega
  go_enter Tryd.func3, Tryd.ntmps3
  go_wp2_with (go_at_call 7; refine (small_any _ ht).mono ?_; rintro e w1 ⟨rfl, b1⟩)
  go_ret
  exact ⟨rfl, b1⟩
set_option maxHeartbeats 2000000 in
set_option maxRecDepth 100000 in
theorem back_short (n : Int) (s : ByteArray) (w : World) (ht : Glob w) (hn : InR n) (hs : s.size ≤ 300) :
    Calls Tryd.prog 3 #[.int .i64 n, .string s] w fun e w' => e = .returned (.bool true) ∧ Below w.heap.size w w' := by
  have g : ¬ (300 : Int) < s.size := by omega
  have hil := (itoa_len n hn.1 hn.2).1
  have hdn := decOf_yes n hn rfl
  have hql := (quote_len s.data.toList).2
  have es : s.data.toList.length = s.size := by simp
  rw [es] at hql
  have HDN := Lib.hid hdn
  clear hdn es
  have nn : ((n : Int) == n) = true := by simp
  have ss : (s.toList == s.toList) = true := by simp
  go_enter Tryd.func3, Tryd.ntmps3
  go_wp2_with fail
  go_at_call 7
  refine (small_any _ ht).mono ?_
  rintro e w1 ⟨rfl, b1⟩
  go_wp2_with fail
  go_at_call 9
  refine (decimal_any n hn.1 hn.2 _ (ht.of b1)).mono ?_
  rintro e w2 ⟨rfl, b2⟩
  replace b2 := below_step b1 b2
  clear b1
  go_wp2_with fail
  go_at_call 8
  refine (int_any (bs (Lib.itoa n)) (by rw [bs_size]; omega) _ (ht.of b2)).mono ?_
  rintro e w3 ⟨rfl, b3⟩
  rw [bs_data, HDN.out]
  replace b3 := below_step b2 b3
  clear b2
  go_wp2_with fail
  go_at_call 11
  refine (quote_any s (by omega) _).mono ?_
  rintro e w4 ⟨rfl, b4⟩
  replace b4 := below_step b3 b4
  clear b3
  go_wp2_with fail
  go_at_call 10
  refine (unquote_any (bs (quote s.data.toList)) _ (ht.of b4) (by rw [bs_size]; omega)).mono ?_
  rintro e w5 ⟨t, b, rfl, hu, hts, b5⟩
  obtain ⟨h1, h2⟩ := hu.same (.inl ⟨rfl, by rw [bs_data]⟩ : UnqIs (bs (quote s.data.toList)).data.toList s.data.toList true)
  obtain rfl := ext h1
  obtain rfl := h2
  replace b5 := below_step b4 b5
  clear b4 h1 hu hts
  go_wp2_with fail
  go_at_call 8
  refine (int_any t (by omega) _ (ht.of b5)).mono ?_
  rintro e w6 ⟨rfl, b6⟩
  replace b6 := below_step b5 b6
  clear b5
  go_wp2_with fail
  go_at_call 10
  refine (unquote_any t _ (ht.of b6) (by omega)).mono ?_
  rintro e w7 ⟨d, four, rfl, hu, hds, b7⟩
  replace b7 := below_step b6 b7
  clear b6
  have hd300 : d.size ≤ 1000000000 := by omega
  clear hds
  rcases decOf_cases t.data.toList with ⟨c, hc, hci, hcd⟩ | ⟨hcd, hcn⟩
  · rw [hcd]
    have fc : ((bs (Lib.itoa c)).toList == t.toList) = true := by rw [bs_eq]; simp [hci]
    obtain ⟨c0, c1⟩ := hc
    clear hcd hci
    rcases hu with ⟨rfl, hq⟩ | ⟨rfl, hd0, hq⟩
    · have fq : ((bs (quote d.data.toList)).toList == t.toList) = true := by rw [bs_eq]; simp [hq]
      clear hq
      go_wp2_with fail
      go_at_call 9
      refine (decimal_any c c0 c1 _ (ht.of b7)).mono ?_
      rintro e w8 ⟨rfl, b8⟩
      replace b8 := below_step b7 b8
      go_wp2_with fail
      go_at_call 11
      refine (quote_any d hd300 _).mono ?_
      rintro e w9 ⟨rfl, b9⟩
      replace b9 := below_step b8 b9
      go_wp2_with fail
      go_ret
      exact ⟨rfl, b9⟩
    · obtain rfl : d = ⟨#[]⟩ := ext hd0
      clear hq hd0
      go_wp2_with fail
      go_at_call 9
      refine (decimal_any c c0 c1 _ (ht.of b7)).mono ?_
      rintro e w8 ⟨rfl, b8⟩
      replace b8 := below_step b7 b8
      go_wp2_with fail
      go_ret
      exact ⟨rfl, b8⟩
  · rw [hcd]
    clear hcd hcn
    rcases hu with ⟨rfl, hq⟩ | ⟨rfl, hd0, hq⟩
    · have fq : ((bs (quote d.data.toList)).toList == t.toList) = true := by rw [bs_eq]; simp [hq]
      clear hq
      go_wp2_with fail
      go_at_call 11
      refine (quote_any d hd300 _).mono ?_
      rintro e w9 ⟨rfl, b9⟩
      replace b9 := below_step b7 b9
      go_wp2_with fail
      go_ret
      exact ⟨rfl, b9⟩
    · obtain rfl : d = ⟨#[]⟩ := ext hd0
      clear hq hd0
      go_wp2_with fail
      go_ret
      exact ⟨rfl, b7⟩
/-- ████ TextBack returns true. -/
theorem back_any (n : Int) (s : ByteArray) (w : World) (ht : Glob w) (hn : InR n) (hm : s.size ≤ 9223372036854775807) :
    Calls Tryd.prog 3 #[.int .i64 n, .string s] w fun e w' => e = .returned (.bool true) ∧ Below w.heap.size w w' := by
  by_cases hs : s.size ≤ 300
  · exact back_short n s w ht hn hs
  · exact back_long n s w ht (by omega) hm
end Go.Proofs.YteccccpjhpbebaaDoor
