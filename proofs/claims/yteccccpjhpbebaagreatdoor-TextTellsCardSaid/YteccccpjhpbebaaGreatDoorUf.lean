/-
  THE REFERENCE: Fields.
-/
import Derived.Test.YteccccpjhpbebaaGreatDoorUe
namespace Go.Proofs.YteccccpjhpbebaaGreatDoor
open Go.RowKit WireM
set_option linter.unusedVariables false
set_option linter.unusedSimpArgs false

/-- What the loop holds. -/
def FrAt (s : ByteArray) (w : World) (k : Nat) (cur v : Value) (wr : World) : Prop :=
  ∃ (acc : List (List UInt8)) (N : ByteArray), RowAt w acc v wr ∧ acc.length ≤ k ∧ cur = .string N ∧ N.size ≤ k ∧ fieldsOf s.data.toList = acc ++ fieldsGo N.data.toList (s.data.toList.drop k)
theorem drop_cons (s : ByteArray) (k : Nat) (h : k < s.size) : s.data.toList.drop k = s[k] :: s.data.toList.drop (k + 1) := by
  rw [List.drop_eq_getElem_cons (by simpa using h)]; simp; rfl
theorem one_byte (s : ByteArray) (k : Nat) (h : k < s.size) : (s.extract k (k + 1)).data.toList = [s[k]] := by
  rw [Lib.extract_data, drop_cons s k h, show k + 1 - k = 1 by omega]; rfl
set_option maxHeartbeats 2000000 in
set_option maxRecDepth 100000 in
theorem rfields_any (s : ByteArray) (hs : s.size ≤ 1000000000) (w : World) :
    Calls Tryz.prog 19 #[.string s] w fun e w' => ∃ v, e = .returned v ∧ RowAt w (fieldsOf s.data.toList) v w' := by
  have hst : FrAt s w 0 (.string ⟨#[]⟩) (.slice none 0 0) w := ⟨[], ⟨#[]⟩, row_nil (Below.refl _ _), by simp, rfl, by decide, rfl⟩
  have hsz : (s.size : Int) ≤ 1000000000 := by omega
  go_enter Tryz.func19, Tryz.ntmps19
  go_wp2_with fail
  go_loopw [5, 4, 3] (fun i cur v wr => ∃ k : Nat, k ≤ s.size ∧ i = .int .i64 k ∧ FrAt s w k cur v wr) (fun i _ _ _ => s.size - (intOf i).toNat)
  case atStart => exact ⟨0, Nat.zero_le _, rfl, hst⟩
  case round =>
    obtain ⟨k, hk, rfl, acc, N, hrow, hacc, rfl, hN, hlin⟩ := hrel
    clear hst
    have HL := Lib.hid hlin
    clear hlin
    by_cases hlt : k < s.size
    · have hlz : (k : Int) < s.size := by omega
      have HD := Lib.hid (drop_cons s k hlt)
      have HO := Lib.hid (one_byte s k hlt)
      have hsl := fun W => slice_at s k (k + 1) ((k : Int) + 1) (by omega) (by omega) (by omega) W
      have hx1 : (s.extract k (k + 1)).size ≤ 1 := by rw [ByteArray.size_extract]; omega
      generalize s.extract k (k + 1) = X at *
      generalize hc : s[k] = c at *
      cases hw : white c with
      | false =>
        have key : ((c.toNat : Int) == 32) = false ∧ ((c.toNat : Int) == 9) = false ∧ ((c.toNat : Int) == 10) = false := by
          unfold white at hw
          simp only [Bool.or_eq_false_iff, beq_eq_false_iff_ne] at hw
          simp only [beq_eq_false_iff_ne]
          omega
        obtain ⟨f1, f2, f3⟩ := key
        have f1n : ((c.toNat : Int) != 32) = true := by unfold bne; rw [f1]; rfl
        have f2n : ((c.toNat : Int) != 9) = true := by unfold bne; rw [f2]; rfl
        have f3n : ((c.toNat : Int) != 10) = true := by unfold bne; rw [f3]; rfl
        have HR := Lib.hid (show fieldsOf s.data.toList = acc ++ fieldsGo (N ++ X).data.toList (s.data.toList.drop (k + 1)) by
          rw [HL.out, HD.out, fieldsGo, if_neg (by rw [hw]; decide), show (N ++ X).data.toList = N.data.toList ++ X.data.toList by simp, HO.out])
        have hfd : FrAt s w (k + 1) (.string (N ++ X)) _ wr := ⟨acc, N ++ X, hrow, by omega, rfl, by rw [ByteArray.size_append]; omega, HR.out⟩
        clear hw hrow
        go_wp2_with fail
        go_roundw
        case rel => exact ⟨k + 1, by omega, by go_num, hfd⟩
        case measure => simp [intOf]; omega
      | true =>
        have key : (((c.toNat : Int) == 32) = true ∧ ((c.toNat : Int) != 32) = false) ∨ (((c.toNat : Int) == 32) = false ∧ ((c.toNat : Int) != 32) = true ∧ ((c.toNat : Int) == 9) = true ∧ ((c.toNat : Int) != 9) = false) ∨ (((c.toNat : Int) == 32) = false ∧ ((c.toNat : Int) != 32) = true ∧ ((c.toNat : Int) == 9) = false ∧ ((c.toNat : Int) != 9) = true ∧ ((c.toNat : Int) == 10) = true ∧ ((c.toNat : Int) != 10) = false) := by
          unfold white at hw
          simp only [Bool.or_eq_true, beq_iff_eq] at hw
          simp only [bne, Bool.not_eq_true', Bool.not_eq_false', beq_iff_eq, beq_eq_false_iff_ne]
          omega
        have HR := Lib.hid (show fieldsOf s.data.toList = acc ++ ((if N.data.toList = [] then [] else [N.data.toList]) ++ fieldsGo [] (s.data.toList.drop (k + 1))) by
          rw [HL.out, HD.out, fieldsGo, if_pos hw])
        clear hw
        by_cases h0 : N.data.toList = []
        · have e0 : (N.toList == []) = true := by rw [Lib.toList_data, h0]; rfl
          have e0n : (N.toList != []) = false := by unfold bne; rw [e0]; rfl
          have HR' := Lib.hid (show fieldsOf s.data.toList = acc ++ fieldsGo [] (s.data.toList.drop (k + 1)) by rw [HR.out, if_pos h0]; rfl)
          have hfd : FrAt s w (k + 1) (.string ⟨#[]⟩) _ wr := ⟨acc, ⟨#[]⟩, hrow, by omega, rfl, by show 0 ≤ _; omega, HR'.out⟩
          clear h0 hrow
          rcases key with ⟨f1, f2⟩ | ⟨f1, f2, f3, f4⟩ | ⟨f1, f2, f3, f4, f5, f6⟩
          all_goals
            go_wp2_with fail
            go_roundw
            case rel => exact ⟨k + 1, by omega, by go_num, hfd⟩
            case measure => simp [intOf]; omega
        · have e0 : (N.toList == []) = false := by rw [Lib.toList_data, beq_eq_false_iff_ne]; exact h0
          have e0n : (N.toList != []) = true := by unfold bne; rw [e0]; rfl
          have HR' := Lib.hid (show fieldsOf s.data.toList = (acc ++ [N.data.toList]) ++ fieldsGo [] (s.data.toList.drop (k + 1)) by rw [HR.out, if_neg h0, List.append_assoc])
          clear h0
          rcases key with ⟨f1, f2⟩ | ⟨f1, f2, f3, f4⟩ | ⟨f1, f2, f3, f4, f5, f6⟩
          all_goals
            go_wp2_with (at_builtin; refine append_row rfl _ _ rfl _ hrow rfl rfl (by omega) ?_; intro v' w3 hb3)
            have hfd : FrAt s w (k + 1) (.string ⟨#[]⟩) v' w3 := ⟨_, ⟨#[]⟩, hb3, by rw [List.length_append, List.length_singleton]; omega, rfl, by show 0 ≤ _; omega, HR'.out⟩
            clear hb3 hrow
            go_wp2_with fail
            go_roundw
            case rel => exact ⟨k + 1, by omega, by go_num, hfd⟩
            case measure => simp [intOf]; omega
    · obtain rfl : k = s.size := by omega
      have hlz : ¬ ((s.size : Nat) : Int) < s.size := by omega
      have HR := Lib.hid (show fieldsOf s.data.toList = acc ++ (if N.data.toList = [] then [] else [N.data.toList]) by
        rw [HL.out, List.drop_eq_nil_of_le (by simp), fieldsGo])
      by_cases h0 : N.data.toList = []
      · have e0 : (N.toList == []) = true := by rw [Lib.toList_data, h0]; rfl
        have e0n : (N.toList != []) = false := by unfold bne; rw [e0]; rfl
        have HR' := Lib.hid (show fieldsOf s.data.toList = acc by rw [HR.out, if_pos h0, List.append_nil])
        clear h0
        go_wp2_with fail
        go_ret
        exact ⟨_, rfl, by rw [HR'.out]; exact hrow⟩
      · have e0 : (N.toList == []) = false := by rw [Lib.toList_data, beq_eq_false_iff_ne]; exact h0
        have e0n : (N.toList != []) = true := by unfold bne; rw [e0]; rfl
        have HR' := Lib.hid (show fieldsOf s.data.toList = acc ++ [N.data.toList] by rw [HR.out, if_neg h0])
        clear h0
        go_wp2_with (at_builtin; refine append_row rfl _ _ rfl _ hrow rfl rfl (by omega) ?_; intro v' w3 hb3)
        go_wp2_with fail
        go_ret
        exact ⟨_, rfl, by rw [HR'.out]; exact hb3⟩
end Go.Proofs.YteccccpjhpbebaaGreatDoor
