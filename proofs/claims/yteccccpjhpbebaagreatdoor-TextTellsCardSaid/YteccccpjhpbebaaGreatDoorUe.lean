/-
  THE REFERENCE: Lines.
-/
import Derived.Test.YteccccpjhpbebaaGreatDoorUd
import Derived.Test.YteccccpjhpbebaaGreatDoorTs
namespace Go.Proofs.YteccccpjhpbebaaGreatDoor
open Go.RowKit WireM
set_option linter.unusedVariables false
set_option linter.unusedSimpArgs false

theorem lines_cat {a b : List UInt8} (h : ∀ c ∈ a, c.toNat ≠ 10) : linesOf (a ++ 10 :: b) = a :: linesOf b := by
  have e := pieces_cat (b := b) h
  have hne := pieces_ne b
  have hl : (pieces (a ++ 10 :: b)).getLast (pieces_ne _) = (pieces b).getLast hne := by
    have : (pieces (a ++ 10 :: b)).getLast? = (pieces b).getLast? := by
      rw [e]
      cases hp : pieces b with
      | nil => exact absurd hp hne
      | cons x y => rfl
    rw [List.getLast?_eq_some_getLast (pieces_ne _), List.getLast?_eq_some_getLast hne] at this
    exact Option.some.inj this
  unfold linesOf
  rw [hl]
  split
  · rw [e, List.dropLast_cons_of_ne_nil hne]
  · exact e
theorem lines_one {a : List UInt8} (h : ∀ c ∈ a, c.toNat ≠ 10) (h0 : a ≠ []) : linesOf a = [a] := by
  have e := pieces_none h
  unfold linesOf
  have hl : (pieces a).getLast (pieces_ne a) = a := by
    have : (pieces a).getLast? = some a := by rw [e]; rfl
    rw [List.getLast?_eq_some_getLast (pieces_ne _)] at this
    exact Option.some.inj this
  rw [hl, if_neg h0, e]
theorem lines_nil : linesOf [] = [] := by decide
/-- What the loop holds. -/
def LnAt (s : ByteArray) (w : World) (k from_ : Nat) (v : Value) (wr : World) : Prop :=
  ∃ acc, RowAt w acc v wr ∧ acc.length ≤ k ∧ from_ ≤ k ∧ linesOf s.data.toList = acc ++ linesOf (s.data.toList.drop from_) ∧ ∀ c ∈ (s.data.toList.take k).drop from_, c.toNat ≠ 10
theorem cur_next (s : ByteArray) (k f : Nat) (h : k < s.size) (hf : f ≤ k) : (s.data.toList.take (k + 1)).drop f = (s.data.toList.take k).drop f ++ [s[k]] := by
  rw [take_snoc s k h, List.drop_append_of_le_length]
  rw [List.length_take]; simp; omega
theorem drop_at (s : ByteArray) (k f : Nat) (h : k < s.size) (hf : f ≤ k) : s.data.toList.drop f = (s.data.toList.take k).drop f ++ s[k] :: s.data.toList.drop (k + 1) := by
  have e1 : s.data.toList = s.data.toList.take k ++ s.data.toList.drop k := (List.take_append_drop _ _).symm
  have e2 : s.data.toList.drop k = s[k] :: s.data.toList.drop (k + 1) := by
    rw [List.drop_eq_getElem_cons (by simpa using h)]; simp; rfl
  conv => lhs; rw [e1]
  rw [List.drop_append_of_le_length (by rw [List.length_take]; simp; omega), e2]
set_option maxHeartbeats 2000000 in
set_option maxRecDepth 100000 in
theorem rlines_any (s : ByteArray) (hs : s.size ≤ 1000000000) (w : World) :
    Calls Tryz.prog 15 #[.string s] w fun e w' => ∃ v, e = .returned v ∧ RowAt w (linesOf s.data.toList) v w' := by
  have hst : LnAt s w 0 0 (.slice none 0 0) w := ⟨[], row_nil (Below.refl _ _), by simp, Nat.le_refl _, rfl, by simp⟩
  have hsz : (s.size : Int) ≤ 1000000000 := by omega
  go_enter Tryz.func15, Tryz.ntmps15
  go_wp2_with fail
  go_loopw [5, 4, 3] (fun i f v wr => ∃ k from_ : Nat, k ≤ s.size ∧ i = .int .i64 k ∧ f = .int .i64 from_ ∧ LnAt s w k from_ v wr) (fun i _ _ _ => s.size - (intOf i).toNat)
  case atStart => exact ⟨0, 0, Nat.zero_le _, rfl, rfl, hst⟩
  case round =>
    obtain ⟨k, f, hk, rfl, rfl, acc, hrow, hacc, hfk, hlin, hno⟩ := hrel
    clear hst
    have HL := Lib.hid hlin
    have HN := Lib.hid hno
    clear hlin hno
    by_cases hlt : k < s.size
    · have hlz : (k : Int) < s.size := by omega
      have HC := Lib.hid (cur_next s k f hlt hfk)
      have HD := Lib.hid (drop_at s k f hlt hfk)
      have hsl := fun W => slice_at s f k (k : Int) rfl hfk (by omega) W
      generalize hc : s[k] = c at *
      by_cases h10 : c.toNat = 10
      · have f1 : ((c.toNat : Int) == 10) = true := by rw [beq_iff_eq]; omega
        have HR := Lib.hid (show linesOf s.data.toList = (acc ++ [(s.extract f k).data.toList]) ++ linesOf (s.data.toList.drop (k + 1)) by
          have e10 : c = 10 := UInt8.toNat_inj.1 h10
          rw [HL.out, HD.out, e10, lines_cat HN.out, List.append_assoc]
          congr 2
          rw [Lib.extract_data, List.drop_take])
        clear h10
        go_wp2_with (at_builtin; refine append_row rfl _ _ rfl _ hrow rfl rfl (by omega) ?_; intro v' w3 hb3)
        have hfd : LnAt s w (k + 1) (k + 1) v' w3 := ⟨_, hb3, by rw [List.length_append, List.length_singleton]; omega, Nat.le_refl _, HR.out, by
          intro x hx; rw [List.drop_eq_nil_of_le (by rw [List.length_take]; omega)] at hx; cases hx⟩
        clear hb3 hsl hrow
        go_wp2_with fail
        go_roundw
        case rel => exact ⟨k + 1, k + 1, by omega, by go_num, by go_num, hfd⟩
        case measure => simp [intOf]; omega
      · have f1 : ((c.toNat : Int) == 10) = false := by rw [beq_eq_false_iff_ne]; omega
        have HM := Lib.hid (show ∀ x ∈ (s.data.toList.take (k + 1)).drop f, x.toNat ≠ 10 by
          intro x hx
          rw [HC.out] at hx
          rcases List.mem_append.1 hx with hx | hx
          · exact HN.out x hx
          · rw [List.mem_singleton] at hx; subst hx; exact h10)
        clear h10
        go_wp2_with fail
        have hfd : LnAt s w (k + 1) f _ wr := ⟨acc, hrow, by omega, by omega, HL.out, HM.out⟩
        go_roundw
        case rel => exact ⟨k + 1, f, by omega, by go_num, rfl, hfd⟩
        case measure => simp [intOf]; omega
    · obtain rfl : k = s.size := by omega
      have hlz : ¬ ((s.size : Nat) : Int) < s.size := by omega
      have HT := Lib.hid (show (s.data.toList.take s.size).drop f = s.data.toList.drop f by rw [List.take_of_length_le (by simp)])
      by_cases hf : f < s.size
      · have hfz : (f : Int) < s.size := by omega
        have hsl := fun W => (show (Instr.slice 9 (.string s) (some (.int .i64 (f : Int))) none none).run Tryz.prog W = .ok (.string (s.extract f s.size)) W by
          rw [run_slice_string_from_if W 9 s .i64 (f : Int) Tryz.underlying9, if_pos ⟨by omega, by omega⟩]; rfl)
        have HR := Lib.hid (show linesOf s.data.toList = acc ++ [(s.extract f s.size).data.toList] by
          have h1 := HN.out
          rw [HT.out] at h1
          have hne : s.data.toList.drop f ≠ [] := by
            intro h; have := congrArg List.length h; rw [List.length_drop] at this; simp at this; omega
          rw [HL.out, lines_one h1 hne, Lib.extract_data, List.take_of_length_le (by rw [List.length_drop]; simp)])
        go_wp2_with (at_builtin; refine append_row rfl _ _ rfl _ hrow rfl rfl (by omega) ?_; intro v' w3 hb3)
        go_wp2_with fail
        go_ret
        exact ⟨_, rfl, by rw [HR.out]; exact hb3⟩
      · have hfz : ¬ (f : Int) < s.size := by omega
        have HR := Lib.hid (show linesOf s.data.toList = acc by
          rw [HL.out, List.drop_eq_nil_of_le (by simp; omega), lines_nil, List.append_nil])
        go_wp2_with fail
        go_ret
        exact ⟨_, rfl, by rw [HR.out]; exact hrow⟩
end Go.Proofs.YteccccpjhpbebaaGreatDoor
