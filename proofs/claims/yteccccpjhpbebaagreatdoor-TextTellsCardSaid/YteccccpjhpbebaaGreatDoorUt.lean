/-
  TextTells: the walk.
-/
import Derived.Test.YteccccpjhpbebaaGreatDoorSo
import Derived.Test.YteccccpjhpbebaaGreatDoorUk
import Derived.Test.YteccccpjhpbebaaGreatDoorUs
namespace Go.Proofs.YteccccpjhpbebaaGreatDoor
open Go.RowKit WireM
set_option linter.unusedVariables false
set_option linter.unusedSimpArgs false

theorem unl_size (T : List ByteArray) (h : ∀ t ∈ T, t.size ≤ 100) : (unl (T.map (·.data.toList))).length ≤ 101 * T.length := by
  induction T with
  | nil => simp [unl]
  | cons t T ih =>
    have h1 := ih fun x hx => h x (.tail _ hx)
    have h2 := h t (.head _)
    rw [List.map_cons, unl_cons, List.length_append, List.length_cons, List.length_cons]
    have e : t.data.toList.length = t.size := by simp
    omega
theorem cells_bs (T : List ByteArray) : cellsS (T.map (·.data.toList)) = T.map Value.string := by
  unfold cellsS; rw [List.map_map]; rfl
theorem same_self (a1 a2 : Option Addr) (c1 c2 n1 n2 : Nat) (A : List (List UInt8)) (w : World) (hA : CellsAt w a1 (cellsS A)) (hB : CellsAt w a2 (cellsS A)) (hz : A.length ≤ 1000000000) (e1 : n1 = A.length) (e2 : n2 = A.length) :
    Calls Tryz.prog 13 #[.slice a1 n1 c1, .slice a2 n2 c2] w fun e w' => e = .returned (.bool true) ∧ Below w.heap.size w w' := by
  subst e1; subst e2
  refine (same_any a1 a2 c1 c2 A A w hA hB hz hz).mono ?_
  rintro e w' ⟨rfl, n, rfl⟩
  exact ⟨by simp, Go.below_drewN (Below.refl _ _) n⟩
theorem row_cells {w wr w2 : World} {L : List (List UInt8)} {a : Option Addr} {n cap : Nat} (h : RowAt w L (.slice a n cap) wr) (hk : StrKept wr w2) : n = L.length ∧ CellsAt w2 a (cellsS L) := by
  have hr := hk.row h.1
  obtain ⟨a', cap', e, hc⟩ := own_cells hr (cellsS_len L).symm
  injection e with e1 e2 e3
  subst e1
  exact ⟨e2, hc⟩
theorem t_cell {w : World} {a : Option Addr} {T : List ByteArray} {k : Nat} (hc : CellsAt w a (T.map Value.string)) (hlt : k < T.length) : ∃ b o, a = some ⟨b, o, none⟩ ∧ w.cell? ⟨b, o + k, none⟩ = some (.string (T.getD k .empty)) := by
  rcases hc with hc | ⟨b, o, ha, _, hc⟩
  · simp at hc; subst hc; simp at hlt
  · refine ⟨b, o, ha, ?_⟩
    rw [hc k (by simpa using hlt)]
    simp [List.getD, hlt]
theorem str_same (x : ByteArray) : (x.toList != x.toList) = false ∧ (x.toList == x.toList) = true := by simp
theorem tells_long (n : Int) (s p : ByteArray) (a : Option Addr) (m cap : Nat) (w : World) (ht : Glob w) (h : 300 < s.size ∨ 100 < p.size ∨ 30 < m) (hs : s.size ≤ 9223372036854775807) (hp : p.size ≤ 9223372036854775807) (hm : m ≤ 9223372036854775807) :
    Calls Tryz.prog 3 #[.int .i64 n, .string s, .string p, .slice a m cap] w fun e w' => e = .returned (.bool true) ∧ Below w.heap.size w w' := by
  by_cases h1 : (300 : Int) < s.size
  · go_enter Tryz.func3, Tryz.ntmps3
    go_wp2_with (go_at_call 4; refine (small_any _ ht).mono ?_; rintro e w1 ⟨rfl, b1⟩)
    go_ret
    exact ⟨rfl, b1⟩
  · by_cases h2 : (100 : Int) < p.size
    · go_enter Tryz.func3, Tryz.ntmps3
      go_wp2_with (go_at_call 4; refine (small_any _ ht).mono ?_; rintro e w1 ⟨rfl, b1⟩)
      go_ret
      exact ⟨rfl, b1⟩
    · have h3 : (30 : Int) < m := by omega
      go_enter Tryz.func3, Tryz.ntmps3
      go_wp2_with (go_at_call 4; refine (small_any _ ht).mono ?_; rintro e w1 ⟨rfl, b1⟩)
      go_ret
      exact ⟨rfl, b1⟩
set_option maxHeartbeats 8000000 in
set_option maxRecDepth 1000000 in
theorem tells_short (n : Int) (s p : ByteArray) (a : Option Addr) (cap : Nat) (T : List ByteArray) (w : World) (ht : Glob w) (hn : InR n) (hc : CellsAt w a (T.map Value.string)) (hs : s.size ≤ 300) (hp : p.size ≤ 100) (hl : T.length ≤ 30) (hT : ∀ t ∈ T, t.size ≤ 9223372036854775807) :
    Calls Tryz.prog 3 #[.int .i64 n, .string s, .string p, .slice a T.length cap] w fun e w' => e = .returned (.bool true) ∧ Below w.heap.size w w' := by
  have g1 : ¬ (300 : Int) < s.size := by omega
  have g2 : ¬ (100 : Int) < p.size := by omega
  have g3 : ¬ (30 : Int) < T.length := by omega
  have es : s.data.toList.length = s.size := by simp
  have HES := Lib.hid es
  have HT := Lib.hid hT
  have HC := Lib.hid hc
  have HN := Lib.hid hn
  clear es hT hc hn
  go_enter Tryz.func3, Tryz.ntmps3
  go_wp2_with fail
  go_at_call 4
  refine (small_any _ ht).mono ?_
  rintro e w1 ⟨rfl, b1⟩
  go_wp2_with fail
  go_loop [10] (fun i => ∃ k : Nat, k ≤ T.length ∧ i = .int .i64 k ∧ ∀ t ∈ T.take k, t.size ≤ 100) (fun i => T.length - (intOf i).toNat)
  case atStart => exact ⟨0, Nat.zero_le _, rfl, by simp⟩
  case round =>
    obtain ⟨k, hk, rfl, hsz⟩ := hrel
    have HSZ := Lib.hid hsz
    clear hsz
    by_cases hlt : k < T.length
    · have hlz : (k : Int) < T.length := by omega
      obtain ⟨b, o, rfl, hcell⟩ := t_cell (HC.out.below b1) hlt
      have hts : (T.getD k .empty).size ≤ 9223372036854775807 := HT.out _ (by simp [List.getD, hlt])
      have HM := Lib.hid (show (T.getD k .empty).size ≤ 100 → ∀ t ∈ T.take (k + 1), t.size ≤ 100 from fun h t ht => by
        rw [List.take_succ_eq_append_getElem hlt] at ht
        rcases List.mem_append.1 ht with ht | ht
        · exact HSZ.out t ht
        · rw [List.mem_singleton] at ht; subst ht; simpa [List.getD, hlt] using h)
      generalize T.getD k .empty = t at *
      by_cases hbig : (100 : Int) < t.size
      · go_wp2_with fail
        go_ret
        exact ⟨rfl, b1⟩
      · have HM' := Lib.hid (HM.out (by omega))
        clear HM
        go_wp2_with fail
        go_round
        case rel => exact ⟨k + 1, by omega, by go_num, HM'.out⟩
        case measure => simp [intOf]; omega
    · obtain rfl : k = T.length := by omega
      have hlz : ¬ ((T.length : Nat) : Int) < T.length := by omega
      have HSZ' := Lib.hid (show ∀ t ∈ T, t.size ≤ 100 by have := HSZ.out; rwa [List.take_length] at this)
      clear HSZ
      obtain ⟨D1, D2, HDD⟩ : ∃ D1 D2, Hid (decOf s.data.toList = (D1, D2)) := ⟨_, _, Lib.hid rfl⟩
      go_wp2_with fail
      go_at_call 5
      refine (int_any s (by omega) _ (ht.of b1)).mono ?_
      rintro e w2 ⟨rfl, c2⟩
      have b2 := below_step b1 c2
      clear c2
      rw [HDD.out]
      go_wp2_with fail
      go_at_call 6
      refine (rint_any s (by omega) _).mono ?_
      rintro e w3 ⟨rfl, c3⟩
      have b3 := below_step b2 c3
      clear c3
      rw [HDD.out]
      go_wp2_with fail
      go_at_call 7
      refine (unquote_any s _ (ht.of b3) (by omega)).mono ?_
      rintro e w4 ⟨uc, u3, rfl, hu1, hus, c4⟩
      have b4 := below_step b3 c4
      clear c4 hus
      have HU1 := Lib.hid hu1
      clear hu1
      go_wp2_with fail
      go_at_call 8
      refine (runquote_any s (by omega) _).mono ?_
      rintro e w5 ⟨ud, u4, rfl, hu2, c5⟩
      have b5 := below_step b4 c5
      obtain ⟨hx1, hx2⟩ := HU1.out.same hu2
      obtain rfl := ext hx1
      obtain rfl := hx2
      clear c5 hu2 hx1 HU1
      have q1 : (D1 != D1) = false := by simp
      have q2 : (D2 != D2) = false := by simp
      have q3 := (str_same uc).1
      have q4 : (u3 != u3) = false := by simp
      have q5 := (str_same (bs (Lib.itoa n))).1
      have q6 := (str_same (bs (quote s.data.toList))).1
      go_wp2_with fail
      go_at_call 9
      refine (decimal_any n HN.out.1 HN.out.2 _ (ht.of b5)).mono ?_
      rintro e w6 ⟨rfl, c6⟩
      have b6 := below_step b5 c6
      clear c6
      go_wp2_with fail
      go_at_call 10
      refine (rdecimal_any n HN.out _).mono ?_
      rintro e w7 ⟨rfl, c7⟩
      have b7 := below_step b6 c7
      clear c7
      go_wp2_with fail
      go_at_call 11
      refine (quote_any s (by omega) _).mono ?_
      rintro e w8 ⟨rfl, c8⟩
      have b8 := below_step b7 c8
      clear c8
      go_wp2_with fail
      go_at_call 12
      refine (rquote_any s (by omega) _).mono ?_
      rintro e w9 ⟨rfl, c9⟩
      have b9 := below_step b8 c9
      clear c9
      clear q1 q2 q3 q4 q5 q6 HDD
      have HLNa := Lib.hid (show (linesOf s.data.toList).length ≤ 1000 by have := lines_len s.data.toList; rw [HES.out] at this; omega)
      have HLNb := Lib.hid (show (fieldsOf s.data.toList).length ≤ 1000 by have := fields_len s.data.toList; rw [HES.out] at this; omega)
      have hus := unl_size T HSZ'.out
      have q7 := (str_same (bs (unl (T.map (·.data.toList))))).1
      go_wp2_with fail
      go_at_call 14
      refine (lines_any s (by omega) _ (ht.of b9)).mono ?_
      rintro e w10 ⟨v1a, rfl, row1⟩
      have b10 := below_step b9 row1.2
      obtain ⟨a1a, cp1a, rfl⟩ := row_form row1
      go_wp2_with fail
      go_at_call 15
      refine (rlines_any s (by omega) _).mono ?_
      rintro e w11 ⟨v2a, rfl, row2⟩
      have b11 := below_step b10 row2.2
      obtain ⟨a2a, cp2a, rfl⟩ := row_form row2
      have HK1 := Lib.hid (row_cells row1 (StrKept.below row2.2)).2
      have HK2 := Lib.hid (row_cells row2 (StrKept.refl _)).2
      have hln : (linesOf s.data.toList).length ≤ 1000 := HLNa.out
      clear row1 row2
      go_wp2_with fail
      go_at_call 13
      refine (same_self _ _ _ _ _ _ (linesOf s.data.toList) _ HK1.out HK2.out (by omega) rfl rfl).mono ?_
      rintro e w12 ⟨rfl, c12⟩
      have b12 := below_step b11 c12
      clear c12 HK1 HK2
      go_wp2_with fail
      go_at_call 16
      refine (unlines_any a cap T _ (by omega) (HC.out.below b12)).mono ?_
      rintro e w13 ⟨rfl, c13⟩
      have b13 := below_step b12 c13
      clear c13
      go_wp2_with fail
      go_at_call 17
      refine (runlines_any a cap T _ (by omega) (HC.out.below b13)).mono ?_
      rintro e w14 ⟨rfl, c14⟩
      have b14 := below_step b13 c14
      clear c14
      clear q7 hus
      go_wp2_with fail
      go_at_call 18
      refine (fields_any s (by omega) _).mono ?_
      rintro e w15 ⟨v1b, rfl, row1⟩
      have b15 := below_step b14 row1.2
      obtain ⟨a1b, cp1b, rfl⟩ := row_form row1
      go_wp2_with fail
      go_at_call 19
      refine (rfields_any s (by omega) _).mono ?_
      rintro e w16 ⟨v2b, rfl, row2⟩
      have b16 := below_step b15 row2.2
      obtain ⟨a2b, cp2b, rfl⟩ := row_form row2
      have HK1 := Lib.hid (row_cells row1 (StrKept.below row2.2)).2
      have HK2 := Lib.hid (row_cells row2 (StrKept.refl _)).2
      have hln : (fieldsOf s.data.toList).length ≤ 1000 := HLNb.out
      clear row1 row2
      go_wp2_with fail
      go_at_call 13
      refine (same_self _ _ _ _ _ _ (fieldsOf s.data.toList) _ HK1.out HK2.out (by omega) rfl rfl).mono ?_
      rintro e w17 ⟨rfl, c17⟩
      have b17 := below_step b16 c17
      clear c17 HK1 HK2
      have q8 := (str_same (bs (plainOf p.data.toList))).2
      have q9 := (str_same (bs (escOf s.data.toList))).2
      go_wp2_with fail
      go_at_call 20
      refine (pattern_any p s (by omega) (by omega) _).mono ?_
      rintro e w18 ⟨rfl, c18⟩
      have b18 := below_step b17 c18
      clear c18
      go_wp2_with fail
      go_at_call 21
      refine (rpattern_any p s (by omega) (by omega) _).mono ?_
      rintro e w19 ⟨rfl, c19⟩
      have b19 := below_step b18 c19
      clear c19
      go_wp2_with fail
      go_at_call 22
      refine (magic_any p (by omega) _).mono ?_
      rintro e w20 ⟨rfl, c20⟩
      have b20 := below_step b19 c20
      clear c20
      go_wp2_with fail
      go_at_call 23
      refine (rmagic_any p (by omega) _).mono ?_
      rintro e w21 ⟨rfl, c21⟩
      have b21 := below_step b20 c21
      clear c21
      go_wp2_with fail
      go_at_call 24
      refine (plain_any p (by omega) _).mono ?_
      rintro e w22 ⟨rfl, c22⟩
      have b22 := below_step b21 c22
      clear c22
      go_wp2_with fail
      go_at_call 25
      refine (rplain_any p (by omega) _).mono ?_
      rintro e w23 ⟨rfl, c23⟩
      have b23 := below_step b22 c23
      clear c23
      go_wp2_with fail
      go_at_call 26
      refine (escape_any s (by omega) _).mono ?_
      rintro e w24 ⟨rfl, c24⟩
      have b24 := below_step b23 c24
      clear c24
      go_wp2_with fail
      go_at_call 27
      refine (rescape_any s (by omega) _).mono ?_
      rintro e w25 ⟨rfl, c25⟩
      have b25 := below_step b24 c25
      clear c25
      go_wp2_with fail
      go_ret
      exact ⟨rfl, b25⟩
/-- ████ TextTells returns true. -/
theorem tells_any (n : Int) (s p : ByteArray) (a : Option Addr) (cap : Nat) (T : List ByteArray) (w : World) (ht : Glob w) (hn : InR n) (hc : CellsAt w a (T.map Value.string)) (hs : s.size ≤ 9223372036854775807) (hp : p.size ≤ 9223372036854775807) (hl : T.length ≤ 9223372036854775807) (hT : ∀ t ∈ T, t.size ≤ 9223372036854775807) :
    Calls Tryz.prog 3 #[.int .i64 n, .string s, .string p, .slice a T.length cap] w fun e w' => e = .returned (.bool true) ∧ Below w.heap.size w w' := by
  by_cases h : 300 < s.size ∨ 100 < p.size ∨ 30 < T.length
  · exact tells_long n s p a T.length cap w ht h hs hp hl
  · exact tells_short n s p a cap T w ht hn hc (by omega) (by omega) (by omega) hT
end Go.Proofs.YteccccpjhpbebaaGreatDoor
