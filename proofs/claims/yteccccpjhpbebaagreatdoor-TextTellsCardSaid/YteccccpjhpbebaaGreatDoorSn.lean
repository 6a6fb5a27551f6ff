/-
  The statements' own helper small, and the reference's Same.
-/
import Derived.Test.YteccccpjhpbebaaGreatDoorTr
import Derived.Test.YteccccpjhpbebaaGreatDoorTf
import Derived.Test.YteccccpjhpbebaaGreatDoorTn
namespace Go.Proofs.YteccccpjhpbebaaGreatDoor
open Go.RowKit WireM
set_option linter.unusedVariables false
set_option linter.unusedSimpArgs false

theorem dd_step (u v d : Nat) (h : u = v * 10 + d) (hd : d < 10) (hv : v ≠ 0) : Lib.decDigits u = Lib.decDigits v ++ [UInt8.ofNat (48 + d)] := by
  rw [dd_big (by omega), show u / 10 = v by omega, show u % 10 = d by omega]
theorem dd_min : Lib.decDigits 9223372036854775808 = [57, 50, 50, 51, 51, 55, 50, 48, 51, 54, 56, 53, 52, 55, 55, 53, 56, 48, 56] := by
  rw [dd_step 9223372036854775808 922337203685477580 8 (by decide) (by decide) (by decide)]
  rw [dd_step 922337203685477580 92233720368547758 0 (by decide) (by decide) (by decide)]
  rw [dd_step 92233720368547758 9223372036854775 8 (by decide) (by decide) (by decide)]
  rw [dd_step 9223372036854775 922337203685477 5 (by decide) (by decide) (by decide)]
  rw [dd_step 922337203685477 92233720368547 7 (by decide) (by decide) (by decide)]
  rw [dd_step 92233720368547 9223372036854 7 (by decide) (by decide) (by decide)]
  rw [dd_step 9223372036854 922337203685 4 (by decide) (by decide) (by decide)]
  rw [dd_step 922337203685 92233720368 5 (by decide) (by decide) (by decide)]
  rw [dd_step 92233720368 9223372036 8 (by decide) (by decide) (by decide)]
  rw [dd_step 9223372036 922337203 6 (by decide) (by decide) (by decide)]
  rw [dd_step 922337203 92233720 3 (by decide) (by decide) (by decide)]
  rw [dd_step 92233720 9223372 0 (by decide) (by decide) (by decide)]
  rw [dd_step 9223372 922337 2 (by decide) (by decide) (by decide)]
  rw [dd_step 922337 92233 7 (by decide) (by decide) (by decide)]
  rw [dd_step 92233 9223 3 (by decide) (by decide) (by decide)]
  rw [dd_step 9223 922 3 (by decide) (by decide) (by decide)]
  rw [dd_step 922 92 2 (by decide) (by decide) (by decide)]
  rw [dd_step 92 9 2 (by decide) (by decide) (by decide)]
  rw [dd_small (by decide)]; rfl
theorem itoa_min : Lib.itoa (-9223372036854775808) = [45, 57, 50, 50, 51, 51, 55, 50, 48, 51, 54, 56, 53, 52, 55, 55, 53, 56, 48, 56] := by
  have := itoa_negs 9223372036854775808 (by decide)
  rw [dd_min] at this
  exact this
theorem dec_min : decOf [45, 57, 50, 50, 51, 51, 55, 50, 48, 51, 54, 56, 53, 52, 55, 55, 53, 56, 48, 56] = (-9223372036854775808, true) :=
  decOf_yes _ (by unfold InR; omega) itoa_min
theorem dec_m0 : decOf [45, 48] = (0, false) := by
  have h : Lib.atoiAll [45, 48] = .ok 0 := by decide
  unfold decOf
  rw [h]
  have h2 : Lib.itoa 0 = [48] := by rw [show (0 : Int) = ((0 : Nat) : Int) from rfl, itoa_nat, dd_small (by decide)]; rfl
  simp only [h2]
  decide
theorem dec_007 : decOf [48, 48, 55] = (0, false) := by
  have h : Lib.atoiAll [48, 48, 55] = .ok 7 := by decide
  unfold decOf
  rw [h]
  have h2 : Lib.itoa 7 = [55] := by rw [show (7 : Int) = ((7 : Nat) : Int) from rfl, itoa_nat, dd_small (by decide)]; rfl
  simp only [h2]
  decide
theorem lines_ex : linesOf [97, 10, 10, 98] = [ [97], [], [98] ] := by decide
theorem fields_ex : fieldsOf [32, 97, 32, 32, 98, 10] = [ [97], [98] ] := by decide
theorem quote_ex : quote [97, 34, 10, 200] = [34, 97, 92, 34, 92, 110, 92, 120, 99, 56, 34] := by decide
theorem pat_1 : patB [97, 42, 91, 33, 120, 45, 122, 93, 63] [97, 98, 99, 100] = true := by
  have e : parts [97, 42, 91, 33, 120, 45, 122, 93, 63] = [ [97], [42], [91, 33, 120, 45, 122, 93], [63] ] := by
    rw [parts_one _ _ (by decide), parts_one _ _ (by decide), parts_cons, show partLen [91, 33, 120, 45, 122, 93, 63] = 6 by decide]
    show _ :: _ :: _ :: parts [63] = _
    rw [parts_one _ _ (by decide), parts_nil]; rfl
  unfold patB; rw [e]; decide
theorem pat_2 : patB [91, 93, 93] [93] = true := by
  have e : parts [91, 93, 93] = [ [91, 93, 93] ] := by
    rw [parts_cons, show partLen [91, 93, 93] = 3 by decide]
    show _ :: parts [] = _
    rw [parts_nil]; rfl
  unfold patB; rw [e]; decide
theorem pat_3 : patB [91, 97] [91, 97] = true := by
  have e : parts [91, 97] = [ [91], [97] ] := by
    rw [parts_one _ _ (by decide), parts_one _ _ (by decide), parts_nil]
  unfold patB; rw [e]; decide
theorem parts_bs : parts [92, 42] = [ [92, 42] ] := by rw [parts_two _ _ _ (by decide), parts_nil]
theorem pat_4 : patB [92, 42] [42] = true := by unfold patB; rw [parts_bs]; decide
theorem pat_5 : patB [92, 42] [97, 98] = false := by unfold patB; rw [parts_bs]; decide

set_option maxHeartbeats 1000000 in
theorem same_any (a1 a2 : Option Addr) (c1 c2 : Nat) (A B : List (List UInt8)) (w : World) (hA : CellsAt w a1 (cellsS A)) (hB : CellsAt w a2 (cellsS B)) (hz1 : A.length ≤ 1000000000) (hz2 : B.length ≤ 1000000000) :
    Calls Tryz.prog 13 #[.slice a1 A.length c1, .slice a2 B.length c2] w fun e w' => e = .returned (.bool (decide (A = B))) ∧ ∃ n, w' = w.drewN n := by
  have m1 : (A.length : Int) ≤ 1000000000 := by omega
  have m2 : (B.length : Int) ≤ 1000000000 := by omega
  obtain ⟨R, hR⟩ : ∃ R, decide (A = B) = R := ⟨_, rfl⟩
  rw [hR]
  have HR := Lib.hid hR
  clear hR
  by_cases hl : A.length = B.length
  · have e0 : ((A.length : Int) == B.length) = true := by rw [beq_iff_eq]; omega
    have e0n : ((A.length : Int) != B.length) = false := by simp; omega
    have HL := Lib.hid hl
    clear hl
    go_enter Tryz.func13, Tryz.ntmps13
    go_wp2_with fail
    go_loopw [5] (fun x wr => ∃ k : Nat, k ≤ A.length ∧ x = .int .i64 k ∧ A.take k = B.take k ∧ ∃ n, wr = w.drewN n) (fun x _ => A.length - (intOf x).toNat)
    case atStart => exact ⟨0, Nat.zero_le _, rfl, rfl, 0, rfl⟩
    case round =>
      obtain ⟨k, hk, rfl, ht, n, rfl⟩ := hrel
      have HT := Lib.hid ht
      clear ht
      by_cases hlt : k < A.length
      · have hlt2 : k < B.length := by rw [← HL.out]; exact hlt
        have z1 : (k : Int) < A.length := by omega
        have z2 : (k : Int) < B.length := by omega
        rcases hA with hA | ⟨b1, o1, rfl, _, hA⟩
        · have := congrArg List.length hA; rw [cellsS_len, List.length_nil] at this; omega
        rcases hB with hB | ⟨b2, o2, rfl, _, hB⟩
        · have := congrArg List.length hB; rw [cellsS_len, List.length_nil] at this; omega
        have x1 : w.cell? ⟨b1, o1 + k, none⟩ = some (.string (bs (A.getD k []))) := by
          rw [hA k (by rw [cellsS_len]; exact hlt)]; simp [cellsS, List.getD, hlt]
        have x2 : w.cell? ⟨b2, o2 + k, none⟩ = some (.string (bs (B.getD k []))) := by
          rw [hB k (by rw [cellsS_len]; exact hlt2)]; simp [cellsS, List.getD, hlt2]
        have t1 : A.take (k + 1) = A.take k ++ [A.getD k []] := by rw [List.take_succ_eq_append_getElem hlt]; simp [List.getD, hlt]
        have t2 : B.take (k + 1) = B.take k ++ [B.getD k []] := by rw [List.take_succ_eq_append_getElem hlt2]; simp [List.getD, hlt2]
        have HN := Lib.hid (show A.getD k [] ≠ B.getD k [] → R = false from fun h => by
          rw [← HR.out]; simp; intro e; exact h (by rw [e]))
        have HY := Lib.hid (show A.getD k [] = B.getD k [] → A.take (k + 1) = B.take (k + 1) from fun h => by rw [t1, t2, HT.out, h])
        generalize A.getD k [] = x at *
        generalize B.getD k [] = y at *
        clear t1 t2 hA hB
        by_cases hxy : x = y
        · have e1 : ((bs x).toList == (bs y).toList) = true := by rw [isStar_eq, Lib.toList_data, bs_data, bs_data]; simp [hxy]
          have e1n : ((bs x).toList != (bs y).toList) = false := by unfold bne; rw [e1]; rfl
          have HD := Lib.hid (HY.out hxy)
          clear hxy
          go_wp2_with fail
          go_quiet (fail)
          go_wp2_with fail
          go_roundw
          case rel => exact ⟨k + 1, by omega, by go_num, HD.out, _, rfl⟩
          case measure => simp [intOf]; omega
        · have e1 : ((bs x).toList == (bs y).toList) = false := by rw [isStar_eq, Lib.toList_data, bs_data, bs_data]; simp [hxy]
          have e1n : ((bs x).toList != (bs y).toList) = true := by unfold bne; rw [e1]; rfl
          have HD := Lib.hid (HN.out hxy)
          clear hxy
          go_wp2_with fail
          go_quiet (fail)
          go_wp2_with fail
          go_ret
          exact ⟨by rw [HD.out]; rfl, n + nq, by rw [World.drewN_drewN]⟩
      · obtain rfl : k = A.length := by omega
        have HD := Lib.hid (show R = true by
          rw [← HR.out]; simp
          have := HT.out
          rw [List.take_length, HL.out, List.take_length] at this; exact this)
        go_wp2_with fail
        go_ret
        exact ⟨by rw [HD.out]; rfl, _, rfl⟩
  · have e0 : ((A.length : Int) == B.length) = false := by rw [beq_eq_false_iff_ne]; omega
    have e0n : ((A.length : Int) != B.length) = true := by rw [bne_iff_ne]; omega
    have HD := Lib.hid (show R = false by rw [← HR.out]; simp; intro e; exact hl (by rw [e]))
    clear hl
    go_enter Tryz.func13, Tryz.ntmps13
    go_wp2_with fail
    go_ret
    exact ⟨by rw [HD.out]; rfl, 0, rfl⟩
end Go.Proofs.YteccccpjhpbebaaGreatDoor
