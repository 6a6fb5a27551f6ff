/-
  TextStars: the walk.
-/
import Derived.Test.YteccccpjhpbebaaDoorSo
import Derived.Test.YteccccpjhpbebaaDoorTd
namespace Go.Proofs.YteccccpjhpbebaaDoor
open Go.RowKit WireM
set_option linter.unusedVariables false
set_option linter.unusedSimpArgs false

theorem stars_long (p s t : ByteArray) (w : World) (ht : Glob w) (hs : 60 < p.size ∨ 100 < s.size ∨ 100 < t.size) (hm : s.size ≤ 9223372036854775807) (hm2 : p.size ≤ 9223372036854775807) (hm3 : t.size ≤ 9223372036854775807) :
    Calls Tryd.prog 5 #[.string p, .string s, .string t] w fun e w' => e = .returned (.bool true) ∧ Below w.heap.size w w' := by
  by_cases h1 : (60 : Int) < p.size
  · go_enter Tryd.func5, Tryd.ntmps5
    go_wp2_with (go_at_call 7; refine (small_any _ ht).mono ?_; rintro e w1 ⟨rfl, b1⟩)
    go_ret
    exact ⟨rfl, b1⟩
  · by_cases h2 : (100 : Int) < s.size
    · go_enter Tryd.func5, Tryd.ntmps5
      go_wp2_with (go_at_call 7; refine (small_any _ ht).mono ?_; rintro e w1 ⟨rfl, b1⟩)
      go_ret
      exact ⟨rfl, b1⟩
    · have h3 : (100 : Int) < t.size := by omega
      go_enter Tryd.func5, Tryd.ntmps5
      go_wp2_with (go_at_call 7; refine (small_any _ ht).mono ?_; rintro e w1 ⟨rfl, b1⟩)
      go_ret
      exact ⟨rfl, b1⟩
/-- Whether the pattern takes an end, or a beginning, of the string, among the first k places. -/
def endTo (P S : List UInt8) (k : Nat) : Bool := (List.range k).any fun j => patB P (S.drop j)
def begTo (P S : List UInt8) (k : Nat) : Bool := (List.range k).any fun j => patB P (S.take j)
theorem endTo_succ (P S : List UInt8) (k : Nat) : endTo P S (k + 1) = (endTo P S k || patB P (S.drop k)) := by
  simp [endTo, List.range_succ, List.any_append]
theorem begTo_succ (P S : List UInt8) (k : Nat) : begTo P S (k + 1) = (begTo P S k || patB P (S.take k)) := by
  simp [begTo, List.range_succ, List.any_append]
theorem pat_mt (P S : List UInt8) : patB P S = true ↔ mt (parts P) S := by unfold patB; rw [mtB_iff]
theorem end_star (P S : List UInt8) : patB (42 :: P) S = endTo P S (S.length + 1) := by
  rw [Bool.eq_iff_iff, pat_mt, star_begin]
  simp only [endTo, List.any_eq_true, List.mem_range]
  exact ⟨fun ⟨k, hk, h⟩ => ⟨k, by omega, (pat_mt _ _).2 h⟩, fun ⟨k, hk, h⟩ => ⟨k, by omega, (pat_mt _ _).1 h⟩⟩
theorem star_beg (P S : List UInt8) (h : P.getLast?.map (·.toNat) ≠ some 92) : patB (P ++ [42]) S = begTo P S (S.length + 1) := by
  rw [Bool.eq_iff_iff, pat_mt, star_end P S h]
  simp only [begTo, List.any_eq_true, List.mem_range]
  exact ⟨fun ⟨k, hk, h⟩ => ⟨k, by omega, (pat_mt _ _).2 h⟩, fun ⟨k, hk, h⟩ => ⟨k, by omega, (pat_mt _ _).1 h⟩⟩
theorem any_one (P S : List UInt8) : patB (63 :: P) S = (!S.isEmpty && patB P (S.drop 1)) := by
  cases S with
  | nil =>
    rw [Bool.eq_iff_iff, pat_mt]
    exact ⟨fun h => absurd h (any_nil _), fun h => by cases h⟩
  | cons c r =>
    rw [Bool.eq_iff_iff, pat_mt, any_begin, ← pat_mt]
    simp
theorem esc_beg (T P S : List UInt8) : patB (escOf T ++ P) (T ++ S) = patB P S := by
  rw [Bool.eq_iff_iff, pat_mt, pat_mt, esc_begin]
theorem cat_list (a b : ByteArray) : (a ++ b).data.toList = a.data.toList ++ b.data.toList := by simp
set_option maxHeartbeats 4000000 in
set_option maxRecDepth 100000 in
theorem stars_short (p s t : ByteArray) (w : World) (ht : Glob w) (hp : p.size ≤ 60) (hs : s.size ≤ 100) (htt : t.size ≤ 100) :
    Calls Tryd.prog 5 #[.string p, .string s, .string t] w fun e w' => e = .returned (.bool true) ∧ Below w.heap.size w w' := by
  have g1 : ¬ (60 : Int) < p.size := by omega
  have g2 : ¬ (100 : Int) < s.size := by omega
  have g3 : ¬ (100 : Int) < t.size := by omega
  have es : s.data.toList.length = s.size := by simp
  have et : t.data.toList.length = t.size := by simp
  have hel := escOf_len t.data.toList
  rw [et] at hel
  have HE := Lib.hid (end_star p.data.toList s.data.toList)
  have HB := Lib.hid (star_beg p.data.toList s.data.toList)
  have HA := Lib.hid (any_one p.data.toList s.data.toList)
  have HX := Lib.hid (esc_beg t.data.toList p.data.toList s.data.toList)
  have HES := Lib.hid es
  clear es et
  go_enter Tryd.func5, Tryd.ntmps5
  go_wp2_with fail
  go_at_call 7
  refine (small_any _ ht).mono ?_
  rintro e w1 ⟨rfl, b1⟩
  go_wp2_with fail
  go_loopw [10, 8, 9] (fun i x y wr => ∃ k : Nat, k ≤ s.size + 1 ∧ i = .int .i64 k ∧ x = .bool (endTo p.data.toList s.data.toList k) ∧ y = .bool (begTo p.data.toList s.data.toList k) ∧ Below w.heap.size w wr) (fun i _ _ _ => s.size + 1 - (intOf i).toNat)
  case atStart => exact ⟨0, Nat.zero_le _, rfl, rfl, rfl, b1⟩
  case round =>
    obtain ⟨k, hk, rfl, rfl, rfl, bw⟩ := hrel
    by_cases hlt : k < s.size + 1
    · have hks : k ≤ s.size := by omega
      have hlz : (k : Int) ≤ s.size := by omega
      have s1 := fun W => slice_from s k (k : Int) rfl hks W
      have s2 := fun W => slice_to s k (k : Int) rfl hks W
      have HS1 := Lib.hid (endTo_succ p.data.toList s.data.toList k)
      have HS2 := Lib.hid (begTo_succ p.data.toList s.data.toList k)
      have d1 : (s.extract k s.size).data.toList = s.data.toList.drop k := by
        rw [Lib.extract_data, List.take_of_length_le (by rw [List.length_drop, HES.out]; omega)]
      have d2 : (s.extract 0 k).data.toList = s.data.toList.take k := by
        rw [Lib.extract_data]; simp
      have D1 := Lib.hid d1
      have D2 := Lib.hid d2
      have z1 : (s.extract k s.size).size ≤ 1000000000 := by rw [ByteArray.size_extract]; omega
      have z2 : (s.extract 0 k).size ≤ 1000000000 := by rw [ByteArray.size_extract]; omega
      clear d1 d2
      generalize endTo p.data.toList s.data.toList k = x at *
      generalize begTo p.data.toList s.data.toList k = y at *
      cases x with
      | true =>
        cases y with
        | true =>
          go_wp2_with fail
          go_roundw
          case rel => exact ⟨k + 1, by omega, by go_num, by rw [HS1.out]; rfl, by rw [HS2.out]; rfl, bw⟩
          case measure => simp [intOf]; omega
        | false =>
          go_wp2_with fail
          go_at_call 16
          refine (pattern_any p (s.extract 0 k) (by omega) z2 _).mono ?_
          rintro e w2 ⟨rfl, b2⟩
          replace b2 := below_step bw b2
          rw [D2.out]
          go_wp2_with fail
          go_roundw
          case rel => exact ⟨k + 1, by omega, by go_num, by rw [HS1.out]; rfl, by rw [HS2.out]; rfl, b2⟩
          case measure => simp [intOf]; omega
      | false =>
        cases y with
        | true =>
          go_wp2_with fail
          go_at_call 16
          refine (pattern_any p (s.extract k s.size) (by omega) z1 _).mono ?_
          rintro e w2 ⟨rfl, b2⟩
          replace b2 := below_step bw b2
          rw [D1.out]
          go_wp2_with fail
          go_roundw
          case rel => exact ⟨k + 1, by omega, by go_num, by rw [HS1.out]; rfl, by rw [HS2.out]; rfl, b2⟩
          case measure => simp [intOf]; omega
        | false =>
          go_wp2_with fail
          go_at_call 16
          refine (pattern_any p (s.extract k s.size) (by omega) z1 _).mono ?_
          rintro e w2 ⟨rfl, b2⟩
          replace b2 := below_step bw b2
          rw [D1.out]
          go_wp2_with fail
          go_at_call 16
          refine (pattern_any p (s.extract 0 k) (by omega) z2 _).mono ?_
          rintro e w3 ⟨rfl, b3⟩
          replace b3 := below_step b2 b3
          rw [D2.out]
          go_wp2_with fail
          go_roundw
          case rel => exact ⟨k + 1, by omega, by go_num, by rw [HS1.out]; rfl, by rw [HS2.out]; rfl, b3⟩
          case measure => simp [intOf]; omega
    · obtain rfl : k = s.size + 1 := by omega
      have hlz : ¬ ((s.size + 1 : Nat) : Int) ≤ s.size := by omega
      have HE' := Lib.hid (show patB (42 :: p.data.toList) s.data.toList = endTo p.data.toList s.data.toList (s.size + 1) by rw [HE.out, HES.out])
      have HB' := Lib.hid (show p.data.toList.getLast?.map (·.toNat) ≠ some 92 → patB (p.data.toList ++ [42]) s.data.toList = begTo p.data.toList s.data.toList (s.size + 1) from fun h => by rw [HB.out h, HES.out])
      generalize endTo p.data.toList s.data.toList (s.size + 1) = x at *
      generalize begTo p.data.toList s.data.toList (s.size + 1) = y at *
      have fx : ((x : Bool) != x) = false := by simp
      have fy : ((y : Bool) == y) = true := by simp
      go_wp2_with fail
      go_at_call 16
      refine (pattern_any _ s (by rw [ByteArray.size_append]; show 1 + p.size ≤ _; omega) (by omega) _).mono ?_
      rintro e w2 ⟨rfl, b2⟩
      rw [cat_list, show (⟨#[42]⟩ : ByteArray).data.toList = [42] from rfl, List.singleton_append, HE'.out]
      replace b2 := below_step bw b2
      clear bw b1
      rcases Nat.eq_zero_or_pos s.size with hz | hz
      · have HA' := Lib.hid (show patB (63 :: p.data.toList) s.data.toList = false by
          rw [HA.out, List.eq_nil_of_length_eq_zero (HES.out.trans hz)]; rfl)
        have e0 : (s.toList == []) = true := by
          rw [Lib.toList_data, List.eq_nil_of_length_eq_zero (HES.out.trans hz)]; rfl
        have e0n : (s.toList != []) = false := by unfold bne; rw [e0]; rfl
        clear hz
        go_wp2_with fail
        go_at_call 16
        refine (pattern_any _ s (by rw [ByteArray.size_append]; show 1 + p.size ≤ _; omega) (by omega) _).mono ?_
        rintro e w3 ⟨rfl, b3⟩
        rw [cat_list, show (⟨#[63]⟩ : ByteArray).data.toList = [63] from rfl, List.singleton_append, HA'.out]
        replace b3 := below_step b2 b3
        clear b2
        go_wp2_with fail
        go_at_call 17
        refine (escape_any t (by omega) _).mono ?_
        rintro e w5 ⟨rfl, b5⟩
        replace b5 := below_step b3 b5
        clear b3
        have hE : (bs (escOf t.data.toList)).size ≤ 200 := by rw [bs_size]; omega
        have HED := Lib.hid (bs_data (escOf t.data.toList))
        generalize bs (escOf t.data.toList) = E at *
        go_wp2_with fail
        go_at_call 16
        refine (pattern_any _ _ (by rw [ByteArray.size_append]; omega) (by rw [ByteArray.size_append]; omega) _).mono ?_
        rintro e w6 ⟨rfl, b6⟩
        rw [cat_list, cat_list, HED.out, HX.out]
        replace b6 := below_step b5 b6
        clear b5
        go_wp2_with fail
        go_at_call 16
        refine (pattern_any p s (by omega) (by omega) _).mono ?_
        rintro e w7 ⟨rfl, b7⟩
        replace b7 := below_step b6 b7
        clear b6
        generalize patB p.data.toList s.data.toList = m at *
        have fm : ((m : Bool) != m) = false := by simp
        rcases Nat.eq_zero_or_pos p.size with hpz | hpz
        · have HB2 := Lib.hid (HB'.out (by rw [List.eq_nil_of_length_eq_zero (show p.data.toList.length = 0 by simpa using hpz)]; simp))
          have e1 : (p.toList == []) = true := by
            rw [Lib.toList_data, List.eq_nil_of_length_eq_zero (show p.data.toList.length = 0 by simpa using hpz)]; rfl
          have e1n : (p.toList != []) = false := by unfold bne; rw [e1]; rfl
          clear hpz
          go_wp2_with fail
          go_at_call 16
          refine (pattern_any _ s (by rw [ByteArray.size_append]; show p.size + 1 ≤ _; omega) (by omega) _).mono ?_
          rintro e w8 ⟨rfl, b8⟩
          rw [cat_list, show (⟨#[42]⟩ : ByteArray).data.toList = [42] from rfl, HB2.out]
          replace b8 := below_step b7 b8
          go_wp2_with fail
          go_ret
          exact ⟨rfl, b8⟩
        · have e1 : (p.toList == []) = false := by
            rw [Lib.toList_data, beq_eq_false_iff_ne]; intro h
            have hpl : p.data.toList.length = p.size := by simp
            rw [h] at hpl; simp at hpl; omega
          have e1n : (p.toList != []) = true := by unfold bne; rw [e1]; rfl
          obtain ⟨n, hn⟩ : ∃ n : Nat, p.size = n + 1 := ⟨p.size - 1, by omega⟩
          have hnp : n < p.size := by omega
          have hsub : (p.size : Int) - 1 = n := by omega
          have HGL := Lib.hid (show p.data.toList.getLast?.map (·.toNat) = some p[n].toNat by
            have hpl : p.data.toList.length = n + 1 := by simpa using hn
            rw [List.getLast?_eq_getElem?, hpl, Nat.add_sub_cancel, List.getElem?_eq_getElem (by omega)]
            simp; rfl)
          clear hn
          by_cases h92 : p[n].toNat = 92
          · have f92 : ((p[n].toNat : Int) == 92) = true := by rw [beq_iff_eq]; omega
            clear h92
            go_wp2_with fail
            go_ret
            exact ⟨rfl, b7⟩
          · have f92 : ((p[n].toNat : Int) == 92) = false := by rw [beq_eq_false_iff_ne]; omega
            have HB2 := Lib.hid (HB'.out (by rw [HGL.out]; simpa using h92))
            clear h92
            go_wp2_with fail
            go_at_call 16
            refine (pattern_any _ s (by rw [ByteArray.size_append]; show p.size + 1 ≤ _; omega) (by omega) _).mono ?_
            rintro e w8 ⟨rfl, b8⟩
            rw [cat_list, show (⟨#[42]⟩ : ByteArray).data.toList = [42] from rfl, HB2.out]
            replace b8 := below_step b7 b8
            go_wp2_with fail
            go_ret
            exact ⟨rfl, b8⟩
      · have HA' := Lib.hid (show patB (63 :: p.data.toList) s.data.toList = patB p.data.toList (s.data.toList.drop 1) by
          rw [HA.out]
          cases h : s.data.toList with
          | nil => have := HES.out; rw [h] at this; simp at this; omega
          | cons c r => rfl)
        have e0 : (s.toList == []) = false := by
          rw [Lib.toList_data, beq_eq_false_iff_ne]; intro h; have := HES.out; rw [h] at this; simp at this; omega
        have e0n : (s.toList != []) = true := by unfold bne; rw [e0]; rfl
        have hz1 : (1 : Int) ≤ s.size := by omega
        have hmin : min (1 : Int) s.size = 1 := by omega
        have s3 := fun W => slice_from s 1 1 rfl hz W
        have D3 := Lib.hid (show (s.extract 1 s.size).data.toList = s.data.toList.drop 1 by
          rw [Lib.extract_data, List.take_of_length_le (by rw [List.length_drop, HES.out]; omega)])
        have z3 : (s.extract 1 s.size).size ≤ 1000000000 := by rw [ByteArray.size_extract]; omega
        obtain ⟨r, hr⟩ : ∃ r, patB p.data.toList (s.data.toList.drop 1) = r := ⟨_, rfl⟩
        rw [hr] at HA'
        have HR := Lib.hid (show patB p.data.toList (s.extract 1 s.size).data.toList = r by rw [D3.out, hr])
        clear hr D3 HA
        have fr : ((r : Bool) != r) = false := by simp
        go_wp2_with fail
        go_at_call 16
        refine (pattern_any _ s (by rw [ByteArray.size_append]; show 1 + p.size ≤ _; omega) (by omega) _).mono ?_
        rintro e w3 ⟨rfl, b3⟩
        rw [cat_list, show (⟨#[63]⟩ : ByteArray).data.toList = [63] from rfl, List.singleton_append, HA'.out]
        replace b3 := below_step b2 b3
        clear b2
        go_wp2_with fail
        go_at_call 16
        refine (pattern_any p (s.extract 1 s.size) (by omega) z3 _).mono ?_
        rintro e w4 ⟨rfl, b4⟩
        rw [HR.out]
        replace b3 := below_step b3 b4
        clear b4
        go_wp2_with fail
        go_at_call 17
        refine (escape_any t (by omega) _).mono ?_
        rintro e w5 ⟨rfl, b5⟩
        replace b5 := below_step b3 b5
        clear b3
        have hE : (bs (escOf t.data.toList)).size ≤ 200 := by rw [bs_size]; omega
        have HED := Lib.hid (bs_data (escOf t.data.toList))
        generalize bs (escOf t.data.toList) = E at *
        go_wp2_with fail
        go_at_call 16
        refine (pattern_any _ _ (by rw [ByteArray.size_append]; omega) (by rw [ByteArray.size_append]; omega) _).mono ?_
        rintro e w6 ⟨rfl, b6⟩
        rw [cat_list, cat_list, HED.out, HX.out]
        replace b6 := below_step b5 b6
        clear b5
        go_wp2_with fail
        go_at_call 16
        refine (pattern_any p s (by omega) (by omega) _).mono ?_
        rintro e w7 ⟨rfl, b7⟩
        replace b7 := below_step b6 b7
        clear b6
        generalize patB p.data.toList s.data.toList = m at *
        have fm : ((m : Bool) != m) = false := by simp
        rcases Nat.eq_zero_or_pos p.size with hpz | hpz
        · have HB2 := Lib.hid (HB'.out (by rw [List.eq_nil_of_length_eq_zero (show p.data.toList.length = 0 by simpa using hpz)]; simp))
          have e1 : (p.toList == []) = true := by
            rw [Lib.toList_data, List.eq_nil_of_length_eq_zero (show p.data.toList.length = 0 by simpa using hpz)]; rfl
          have e1n : (p.toList != []) = false := by unfold bne; rw [e1]; rfl
          clear hpz
          go_wp2_with fail
          go_at_call 16
          refine (pattern_any _ s (by rw [ByteArray.size_append]; show p.size + 1 ≤ _; omega) (by omega) _).mono ?_
          rintro e w8 ⟨rfl, b8⟩
          rw [cat_list, show (⟨#[42]⟩ : ByteArray).data.toList = [42] from rfl, HB2.out]
          replace b8 := below_step b7 b8
          go_wp2_with fail
          go_ret
          exact ⟨rfl, b8⟩
        · have e1 : (p.toList == []) = false := by
            rw [Lib.toList_data, beq_eq_false_iff_ne]; intro h
            have hpl : p.data.toList.length = p.size := by simp
            rw [h] at hpl; simp at hpl; omega
          have e1n : (p.toList != []) = true := by unfold bne; rw [e1]; rfl
          obtain ⟨n, hn⟩ : ∃ n : Nat, p.size = n + 1 := ⟨p.size - 1, by omega⟩
          have hnp : n < p.size := by omega
          have hsub : (p.size : Int) - 1 = n := by omega
          have HGL := Lib.hid (show p.data.toList.getLast?.map (·.toNat) = some p[n].toNat by
            have hpl : p.data.toList.length = n + 1 := by simpa using hn
            rw [List.getLast?_eq_getElem?, hpl, Nat.add_sub_cancel, List.getElem?_eq_getElem (by omega)]
            simp; rfl)
          clear hn
          by_cases h92 : p[n].toNat = 92
          · have f92 : ((p[n].toNat : Int) == 92) = true := by rw [beq_iff_eq]; omega
            clear h92
            go_wp2_with fail
            go_ret
            exact ⟨rfl, b7⟩
          · have f92 : ((p[n].toNat : Int) == 92) = false := by rw [beq_eq_false_iff_ne]; omega
            have HB2 := Lib.hid (HB'.out (by rw [HGL.out]; simpa using h92))
            clear h92
            go_wp2_with fail
            go_at_call 16
            refine (pattern_any _ s (by rw [ByteArray.size_append]; show p.size + 1 ≤ _; omega) (by omega) _).mono ?_
            rintro e w8 ⟨rfl, b8⟩
            rw [cat_list, show (⟨#[42]⟩ : ByteArray).data.toList = [42] from rfl, HB2.out]
            replace b8 := below_step b7 b8
            go_wp2_with fail
            go_ret
            exact ⟨rfl, b8⟩
/-- ████ TextStars returns true. -/
theorem stars_any (p s t : ByteArray) (w : World) (ht : Glob w) (hm : p.size ≤ 9223372036854775807) (hm2 : s.size ≤ 9223372036854775807) (hm3 : t.size ≤ 9223372036854775807) :
    Calls Tryd.prog 5 #[.string p, .string s, .string t] w fun e w' => e = .returned (.bool true) ∧ Below w.heap.size w w' := by
  by_cases h1 : p.size ≤ 60
  · by_cases h2 : s.size ≤ 100
    · by_cases h3 : t.size ≤ 100
      · exact stars_short p s t w ht h1 h2 h3
      · exact stars_long p s t w ht (.inr (.inr (by omega))) hm2 hm hm3
    · exact stars_long p s t w ht (.inr (.inl (by omega))) hm2 hm hm3
  · exact stars_long p s t w ht (.inl (by omega)) hm2 hm hm3
end Go.Proofs.YteccccpjhpbebaaDoor
