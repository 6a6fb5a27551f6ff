/-
  TextLines: the walk.
-/
import Derived.Test.YteccccpjhpbebaaDoorLx
import Derived.Deep.DeepCutAuto
namespace Go.Proofs.YteccccpjhpbebaaDoor
open Go.RowKit WireM
set_option linter.unusedVariables false
set_option linter.unusedSimpArgs false

theorem lineslaw_long (a : Option Addr) (n cap : Nat) (s : ByteArray) (w : World) (ht : Glob w) (hs : 30 < n ∨ 300 < s.size) (hm : s.size ≤ 9223372036854775807) (hm2 : n ≤ 9223372036854775807) :
    Calls Tryd.prog 4 #[.slice a n cap, .string s] w fun e w' => e = .returned (.bool true) ∧ Below w.heap.size w w' := by
  by_cases h1 : (30 : Int) < n
  · go_enter Tryd.func4, Tryd.ntmps4
    go_wp2_with (go_at_call 7; refine (small_any _ ht).mono ?_; rintro e w1 ⟨rfl, b1⟩)
    go_ret
    exact ⟨rfl, b1⟩
  · have h2 : (300 : Int) < s.size := by omega
    go_enter Tryd.func4, Tryd.ntmps4
    go_wp2_with (go_at_call 7; refine (small_any _ ht).mono ?_; rintro e w1 ⟨rfl, b1⟩)
    go_ret
    exact ⟨rfl, b1⟩
set_option maxHeartbeats 4000000 in
set_option maxRecDepth 100000 in
theorem lineslaw_short (a : Option Addr) (cap : Nat) (T : List ByteArray) (s : ByteArray) (w : World) (ht : Glob w) (hc : CellsAt w a (T.map Value.string)) (hl : T.length ≤ 30) (hs : s.size ≤ 300) (hT : ∀ t ∈ T, t.size ≤ 9223372036854775807) :
    Calls Tryd.prog 4 #[.slice a T.length cap, .string s] w fun e w' => e = .returned (.bool true) ∧ Below w.heap.size w w' := by
  have g1 : ¬ (30 : Int) < T.length := by omega
  have g2 : ¬ (300 : Int) < s.size := by omega
  have es : s.data.toList.length = s.size := by simp
  have HES := Lib.hid es
  have HT := Lib.hid hT
  have HC := Lib.hid hc
  clear es hT hc
  go_enter Tryd.func4, Tryd.ntmps4
  go_wp2_with fail
  go_at_call 7
  refine (small_any _ ht).mono ?_
  rintro e w1 ⟨rfl, b1⟩
  go_wp2_with fail
  go_loop [7, 8, 6] (fun i x y => ∃ k : Nat, k ≤ T.length ∧ i = .int .i64 k ∧ y = .bool (noLfTo T k) ∧ ∀ t ∈ T.take k, t.size ≤ 100) (fun i _ _ => T.length - (intOf i).toNat)
  case atStart => exact ⟨0, Nat.zero_le _, rfl, rfl, by simp⟩
  case round =>
    obtain ⟨k, hk, rfl, rfl, hsz⟩ := hrel
    have HSZ := Lib.hid hsz
    clear hsz
    by_cases hlt : k < T.length
    · have hlz : (k : Int) < T.length := by omega
      obtain ⟨b, o, rfl, hcell⟩ := t_cell (HC.out.below b1) hlt
      have hts : (T.getD k .empty).size ≤ 9223372036854775807 := HT.out _ (by simp [List.getD, hlt])
      have HS := Lib.hid (noLfTo_succ T k hlt)
      have HM := Lib.hid (show (T.getD k .empty).size ≤ 100 → ∀ t ∈ T.take (k + 1), t.size ≤ 100 from fun h t ht => by
        rw [List.take_succ_eq_append_getElem hlt] at ht
        rcases List.mem_append.1 ht with ht | ht
        · exact HSZ.out t ht
        · rw [List.mem_singleton] at ht; subst ht; simpa [List.getD, hlt] using h)
      generalize T.getD k .empty = t at *
      by_cases hbig : (100 : Int) < t.size
      · go_wp2_with fail
        go_ret
        exact ⟨rfl, b1⟩
      · have HM' := Lib.hid (HM.out (by omega))
        have htz : (t.size : Int) ≤ 100 := by omega
        clear HM
        generalize noLfTo T k = p at *
        go_wp2_with fail
        go_loop [8, 6] (fun z y => ∃ j : Nat, j ≤ t.size ∧ z = .int .i64 j ∧ y = .bool (p && noLf (t.data.toList.take j))) (fun z _ => t.size - (intOf z).toNat)
        case atStart => exact ⟨0, Nat.zero_le _, rfl, by simp [noLf]⟩
        case round =>
          obtain ⟨j, hj, rfl, rfl⟩ := hrel
          by_cases hjt : j < t.size
          · have hjz : (j : Int) < t.size := by omega
            have HN := Lib.hid (show (p && noLf (t.data.toList.take (j + 1))) = ((p && noLf (t.data.toList.take j)) && (t[j].toNat != 10)) by rw [noLf_succ t j hjt, Bool.and_assoc])
            generalize (p && noLf (t.data.toList.take j)) = q at *
            have hx : t[j].toNat < 256 := t[j].toNat_lt
            generalize hcc : t[j] = c at *
            cases q with
            | false =>
              go_wp2_with fail
              go_round
              case rel => exact ⟨j + 1, by omega, by go_num, by rw [HN.out]; rfl⟩
              case measure => simp [intOf]; omega
            | true =>
              by_cases h1 : c.toNat = 10
              · have f1 : ((c.toNat : Int) == 10) = true := by rw [beq_iff_eq]; omega
                have f1n : ((c.toNat : Int) != 10) = false := by unfold bne; rw [f1]; rfl
                have HN' := Lib.hid (show (p && noLf (t.data.toList.take (j + 1))) = false by rw [HN.out, h1]; rfl)
                clear h1 HN
                go_wp2_with fail
                go_round
                case rel => exact ⟨j + 1, by omega, by go_num, by rw [HN'.out]⟩
                case measure => simp [intOf]; omega
              · have f1 : ((c.toNat : Int) == 10) = false := by rw [beq_eq_false_iff_ne]; omega
                have f1n : ((c.toNat : Int) != 10) = true := by unfold bne; rw [f1]; rfl
                have HN' := Lib.hid (show (p && noLf (t.data.toList.take (j + 1))) = true by rw [HN.out]; simpa using h1)
                clear h1 HN
                go_wp2_with fail
                go_round
                case rel => exact ⟨j + 1, by omega, by go_num, by rw [HN'.out]⟩
                case measure => simp [intOf]; omega
          · obtain rfl : j = t.size := by omega
            have hjz : ¬ ((t.size : Nat) : Int) < t.size := by omega
            have HQ := Lib.hid (show (p && noLf (t.data.toList.take t.size)) = noLfTo T (k + 1) by
              rw [HS.out, List.take_of_length_le (by simp)])
            generalize (p && noLf (t.data.toList.take t.size)) = q at *
            go_wp2_with fail
            go_round
            case rel => exact ⟨k + 1, by omega, by go_num, by rw [HQ.out], HM'.out⟩
            case measure => simp [intOf]; omega
    · obtain rfl : k = T.length := by omega
      have hlz : ¬ ((T.length : Nat) : Int) < T.length := by omega
      have HSZ' := Lib.hid (show ∀ t ∈ T, t.size ≤ 100 by have := HSZ.out; rwa [List.take_length] at this)
      clear HSZ
      obtain ⟨p, hp⟩ : ∃ p, noLfTo T T.length = p := ⟨_, rfl⟩
      have HPP := Lib.hid (show p = true → ∀ x ∈ T.map (·.data.toList), ∀ c ∈ x, c.toNat ≠ 10 from fun h => noLf_all T (hp.trans h))
      rw [hp]
      clear hp
      go_upto_region 14 with fail
      go_cut [66] (fun x wx => x = .bool false ∧ Below w.heap.size w wx)
      case first =>
        cases p with
        | false =>
          go_wp2_with fail
          go_meet
          exact ⟨rfl, b1⟩
        | true =>
          have HPL := Lib.hid (lines_unl (HPP.out rfl))
          have hus := unl_size T HSZ'.out
          have hul : (unl (T.map (·.data.toList))).length ≤ 4000 := by omega
          clear hus HPP
          go_wp2_with fail
          go_at_call 14
          refine (unlines_any a cap T _ (by omega) (HC.out.below b1)).mono ?_
          rintro e w2 ⟨rfl, b2⟩
          replace b2 := below_step b1 b2
          clear b1
          have hus : (bs (unl (T.map (·.data.toList)))).size ≤ 4000 := by rw [bs_size]; omega
          have HUD := Lib.hid (show linesOf (bs (unl (T.map (·.data.toList)))).data.toList = T.map (·.data.toList) by rw [bs_data, HPL.out])
          clear hul HPL
          generalize bs (unl (T.map (·.data.toList))) = U at *
          go_wp2_with fail
          go_at_call 13
          refine (lines_any U (by omega) _ (ht.of b2)).mono ?_
          rintro e w3 ⟨v3, rfl, row3⟩
          rw [HUD.out] at row3
          obtain ⟨a3, c3, rfl⟩ := row_form row3
          have b3 := below_step b2 row3.2
          have HK := Lib.hid (row_cells row3 (StrKept.refl _)).2
          have hlm : (T.map (·.data.toList)).length = T.length := List.length_map _
          have HLM := Lib.hid hlm
          clear hlm b2 row3
          go_wp2_with fail
          go_at_call 12
          refine (same_self _ _ _ _ _ _ (T.map (·.data.toList)) _ HK.out (by rw [cells_bs]; exact HC.out.below b3) (by rw [HLM.out]; omega) (by rw [HLM.out]) (by rw [HLM.out])).mono ?_
          rintro e w4 ⟨rfl, b4⟩
          replace b4 := below_step b3 b4
          go_wp2_with fail
          go_meet
          exact ⟨rfl, b4⟩
      case rest =>
        obtain ⟨rfl, b2⟩ := hcut
        clear b1 HPP
        clear HSZ'
        have hll := lines_len s.data.toList
        rw [HES.out] at hll
        have HWL := Lib.hid (want_len s.data.toList)
        have HFA := Lib.hid (fldTo_all s.data.toList)
        have HLE := Lib.hid (lines_each s.data.toList)
        have HUW := Lib.hid (congrArg bs (unl_lines s.data.toList))
        have HUL := Lib.hid (show (unl (linesOf s.data.toList)).length ≤ 1000000 by rw [unl_lines]; have := HWL.out; rw [HES.out] at this; omega)
        have HFL := Lib.hid (show ∀ k, (fldTo (linesOf s.data.toList) k).length ≤ 301 from fun k => by
          have h1 := fldTo_len (linesOf s.data.toList) k
          rw [fields_lines] at h1
          have h2 := fields_len s.data.toList
          rw [HES.out] at h2
          omega)
        have HFO := Lib.hid (fields_ok s.data.toList)
        have HFE := Lib.hid (fields_each s.data.toList)
        have HFN := Lib.hid (fields_len s.data.toList)
        go_wp2_with fail
        go_at_call 13
        refine (lines_any s (by omega) _ (ht.of b2)).mono ?_
        rintro e w3 ⟨v3, rfl, row3⟩
        generalize linesOf s.data.toList = Ls at *
        obtain ⟨a3, c3, rfl⟩ := row_form row3
        have b3 := below_step b2 row3.2
        clear b2
        go_upto_region 18 with fail
        go_cut [79] (fun x wx => ∃ q : Bool, x = .bool q ∧ (q = true → wantOf s.data.toList = s.data.toList ++ [10]) ∧ (q = false → wantOf s.data.toList = s.data.toList) ∧ w3 = wx)
        case first =>
          rcases Nat.eq_zero_or_pos s.size with hz | hz
          · have HE := Lib.hid (List.eq_nil_of_length_eq_zero (HES.out.trans hz))
            have e0 : (s.toList == []) = true := by rw [Lib.toList_data, HE.out]; rfl
            have e0n : (s.toList != []) = false := by unfold bne; rw [e0]; rfl
            clear hz
            go_wp2_with fail
            go_meet
            exact ⟨false, rfl, (fun h => by cases h), (fun _ => by rw [HE.out]; rfl), rfl⟩
          · have e0 : (s.toList == []) = false := by
              rw [Lib.toList_data, beq_eq_false_iff_ne]; intro h; have := HES.out; rw [h] at this; simp at this; omega
            have e0n : (s.toList != []) = true := by unfold bne; rw [e0]; rfl
            have HWC := Lib.hid (want_cat s hz)
            have HWK := Lib.hid (want_keep s hz)
            obtain ⟨n, hn⟩ : ∃ n : Nat, s.size = n + 1 := ⟨s.size - 1, by omega⟩
            have hnp : n < s.size := by omega
            have hsub : (s.size : Int) - 1 = n := by omega
            have hne : s[s.size - 1] = s[n] := by congr 1; omega
            rw [hne] at HWC HWK
            clear hn hne
            generalize hcc : s[n] = c at *
            by_cases h1 : c.toNat = 10
            · have f1 : ((c.toNat : Int) == 10) = true := by rw [beq_iff_eq]; omega
              have f1n : ((c.toNat : Int) != 10) = false := by unfold bne; rw [f1]; rfl
              have HK := Lib.hid (HWK.out h1)
              clear h1
              go_wp2_with fail
              go_meet
              exact ⟨false, rfl, (fun h => by cases h), (fun _ => HK.out), rfl⟩
            · have f1 : ((c.toNat : Int) == 10) = false := by rw [beq_eq_false_iff_ne]; omega
              have f1n : ((c.toNat : Int) != 10) = true := by unfold bne; rw [f1]; rfl
              have HK := Lib.hid (HWC.out h1)
              clear h1
              go_wp2_with fail
              go_meet
              exact ⟨true, rfl, (fun _ => HK.out), (fun h => by cases h), rfl⟩
        case rest =>
          obtain ⟨q, rfl, hq1, hq2, hww⟩ := hcut
          subst hww
          have HQ1 := Lib.hid hq1
          have HQ2 := Lib.hid hq2
          clear hq1 hq2
          go_upto_if 79 with fail
          go_cut [10] (fun x wx => x = .string (bs (wantOf s.data.toList)) ∧ w3 = wx)
          case first =>
            cases q with
            | true =>
              have HK := Lib.hid (HQ1.out rfl)
              clear HQ1 HQ2
              go_wp2_with fail
              go_meet
              exact ⟨by rw [HK.out]; congr 1, rfl⟩
            | false =>
              have HK := Lib.hid (HQ2.out rfl)
              clear HQ1 HQ2
              go_wp2_with fail
              go_meet
              exact ⟨by rw [HK.out]; rfl, rfl⟩
          case rest =>
            obtain ⟨rfl, hww⟩ := hcut
            subst hww
            clear HQ1 HQ2 HWL
            generalize bs (wantOf s.data.toList) = Wt at *
            have hst : RowAt w3 [] (.slice none 0 0) w3 := row_nil (Below.refl _ _)
            go_wp2_with fail
            go_loopw [12, 11] (fun i f wr => ∃ k : Nat, k ≤ Ls.length ∧ i = .int .i64 k ∧ RowAt w3 (fldTo Ls k) f wr) (fun i _ _ => Ls.length - (intOf i).toNat)
            case atStart => exact ⟨0, Nat.zero_le _, rfl, hst⟩
            case round =>
              obtain ⟨k, hk, rfl, hrow⟩ := hrel
              clear hst
              by_cases hlt : k < Ls.length
              · have hlz : (k : Int) < Ls.length := by omega
                obtain ⟨-, b, o, rfl, hcell⟩ := row_cell row3 (StrKept.below hrow.2) hlt
                have hxl := HLE.out (Ls.getD k []) (by simp [List.getD, hlt])
                rw [HES.out] at hxl
                have HS := Lib.hid (fldTo_succ Ls k hlt)
                have hfl := HFL.out (k + 1)
                rw [HS.out, List.length_append] at hfl
                generalize Ls.getD k [] = x at *
                obtain ⟨f0, f0c, rfl⟩ := row_form hrow
                go_wp2_with fail
                go_at_call 15
                refine (fields_any (bs x) (by rw [bs_size]; omega) _).mono ?_
                rintro e w5 ⟨v5, rfl, row5⟩
                rw [bs_data] at row5
                obtain ⟨a5, c5, rfl⟩ := row_form row5
                have hm5 := (row_cells row5 (StrKept.refl _)).2
                have hrow5 := hrow.step row5.2
                clear row5 hrow
                go_wp2_with (at_builtin; refine append_rows rfl _ _ rfl hrow5 hm5 rfl rfl (by omega) ?_; intro v' w6 h6 b6)
                have h7 : RowAt w3 (fldTo Ls (k + 1)) v' w6 := by rw [HS.out]; exact h6
                go_wp2_with fail
                go_roundw
                case rel => exact ⟨k + 1, by omega, by go_num, h7⟩
                case measure => simp [intOf]; omega
              · obtain rfl : k = Ls.length := by omega
                have hlz : ¬ ((Ls.length : Nat) : Int) < Ls.length := by omega
                rw [HFA.out] at hrow
                have HF := Lib.hid (rfl : fieldsOf s.data.toList = fieldsOf s.data.toList)
                have hFl : (fieldsOf s.data.toList).length ≤ 301 := by have := HFN.out; rw [HES.out] at this; omega
                clear HFN HFL HFA
                obtain ⟨F, hF⟩ : ∃ F, fieldsOf s.data.toList = F := ⟨_, rfl⟩
                rw [hF] at hrow HF HFO HFE hFl
                have HFF := Lib.hid hF
                clear hF
                obtain ⟨af, cf, rfl⟩ := row_form hrow
                have hFz : (F.length : Int) ≤ 301 := by omega
                go_wp2_with fail
                go_loop [13, 14, 15] (fun i x y => ∃ k : Nat, k ≤ F.length ∧ i = .int .i64 k) (fun i _ _ => F.length - (intOf i).toNat)
                case atStart => exact ⟨0, Nat.zero_le _, rfl⟩
                case round =>
                  obtain ⟨m, hm, rfl⟩ := hrel
                  by_cases hlt2 : m < F.length
                  · have hlz2 : (m : Int) < F.length := by omega
                    obtain ⟨-, b, o, rfl, hcell⟩ := row_cell hrow (StrKept.refl _) hlt2
                    have hmem : F.getD m [] ∈ F := by simp [List.getD, hlt2]
                    have hok := HFO.out _ hmem
                    have hxz := HFE.out _ hmem
                    rw [HES.out] at hxz
                    have eX : ((bs (F.getD m [])).toList == []) = false := by
                      rw [Lib.toList_data, bs_data, beq_eq_false_iff_ne]; exact hok.1
                    have hX : (bs (F.getD m [])).size ≤ 300 := by rw [bs_size]; omega
                    have HWX := Lib.hid (show ∀ (j : Nat) (h : j < (bs (F.getD m [])).size), white (bs (F.getD m []))[j] = false from fun j h => by
                      have h1 : j < (bs (F.getD m [])).data.toList.length := by simpa using h
                      have e : (bs (F.getD m []))[j] = (bs (F.getD m [])).data.toList[j] := by simp; rfl
                      rw [e]
                      have hx := hok.2
                      rw [← bs_data (F.getD m [])] at hx
                      exact hx _ (List.getElem_mem h1))
                    clear hok hxz hmem
                    generalize bs (F.getD m []) = X at *
                    go_wp2_with fail
                    go_loop [14, 15] (fun z y => ∃ j : Nat, j ≤ X.size ∧ z = .int .i64 j) (fun z _ => X.size - (intOf z).toNat)
                    case atStart => exact ⟨0, Nat.zero_le _, rfl⟩
                    case round =>
                      obtain ⟨j, hj, rfl⟩ := hrel
                      by_cases hjt : j < X.size
                      · have hjz : (j : Int) < X.size := by omega
                        have hw := HWX.out j hjt
                        have hx : X[j].toNat < 256 := X[j].toNat_lt
                        generalize hcc : X[j] = c at *
                        unfold white at hw
                        simp only [Bool.or_eq_false_iff, beq_eq_false_iff_ne] at hw
                        have f1 : ((c.toNat : Int) == 32) = false := by rw [beq_eq_false_iff_ne]; omega
                        have f2 : ((c.toNat : Int) == 9) = false := by rw [beq_eq_false_iff_ne]; omega
                        have f3 : ((c.toNat : Int) == 10) = false := by rw [beq_eq_false_iff_ne]; omega
                        clear hw
                        go_wp2_with fail
                        go_round
                        case rel => exact ⟨j + 1, by omega, by go_num⟩
                        case measure => simp [intOf]; omega
                      · obtain rfl : j = X.size := by omega
                        have hjz : ¬ ((X.size : Nat) : Int) < X.size := by omega
                        go_wp2_with fail
                        go_round
                        case rel => exact ⟨m + 1, by omega, by go_num⟩
                        case measure => simp [intOf]; omega
                  · obtain rfl : m = F.length := by omega
                    have hlz2 : ¬ ((F.length : Nat) : Int) < F.length := by omega
                    have b4 := below_step b3 hrow.2
                    have HK := Lib.hid (row_cells row3 (StrKept.below hrow.2)).2
                    have ew : (Wt.toList == Wt.toList) = true := by simp
                    go_wp2_with fail
                    go_at_call 14
                    refine (unlines_rows a3 c3 Ls _ (by have := HUL.out; omega) HK.out).mono ?_
                    rintro e w8 ⟨rfl, b8⟩
                    rw [HUW.out]
                    have HKF := Lib.hid (fun w9 (h : Below w8.heap.size w8 w9) => (row_cells hrow (StrKept.below (below_step b8 h))).2)
                    replace b8 := below_step b4 b8
                    clear b4 b3
                    go_wp2_with fail
                    go_at_call 15
                    refine (fields_any s (by omega) _).mono ?_
                    rintro e w9 ⟨v9, rfl, row9⟩
                    rw [HFF.out] at row9
                    obtain ⟨a9, c9, rfl⟩ := row_form row9
                    have b9 := below_step b8 row9.2
                    have HK9 := Lib.hid (row_cells row9 (StrKept.refl _)).2
                    have HKG := Lib.hid (HKF.out _ row9.2)
                    clear row9
                    go_wp2_with fail
                    go_at_call 12
                    refine (same_self _ _ _ _ _ _ F _ HK9.out HKG.out (by omega) rfl rfl).mono ?_
                    rintro e w10 ⟨rfl, b10⟩
                    replace b10 := below_step b9 b10
                    go_wp2_with fail
                    go_ret
                    exact ⟨rfl, b10⟩
/-- ████ TextLines returns true. -/
theorem lineslaw_any (a : Option Addr) (cap : Nat) (T : List ByteArray) (s : ByteArray) (w : World) (ht : Glob w) (hc : CellsAt w a (T.map Value.string)) (hl : T.length ≤ 9223372036854775807) (hs : s.size ≤ 9223372036854775807) (hT : ∀ t ∈ T, t.size ≤ 9223372036854775807) :
    Calls Tryd.prog 4 #[.slice a T.length cap, .string s] w fun e w' => e = .returned (.bool true) ∧ Below w.heap.size w w' := by
  by_cases h1 : T.length ≤ 30
  · by_cases h2 : s.size ≤ 300
    · exact lineslaw_short a cap T s w ht hc h1 h2 hT
    · exact lineslaw_long a _ cap s w ht (.inr (by omega)) hs hl
  · exact lineslaw_long a _ cap s w ht (.inl (by omega)) hs hl
end Go.Proofs.YteccccpjhpbebaaDoor
