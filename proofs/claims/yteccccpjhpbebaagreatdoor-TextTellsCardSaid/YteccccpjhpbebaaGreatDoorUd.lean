/-
  THE REFERENCE: Escape, closing.
-/
import Derived.Test.YteccccpjhpbebaaGreatDoorUc
import Derived.Test.YteccccpjhpbebaaGreatDoorTb
import Derived.Deep.DeepCutAuto
namespace Go.Proofs.YteccccpjhpbebaaGreatDoor
open Go.RowKit WireM
set_option linter.unusedVariables false
set_option linter.unusedSimpArgs false

def reTo (s : ByteArray) (k : Nat) : List UInt8 := escOf (s.data.toList.take k)
theorem reTo_succ (s : ByteArray) (k : Nat) (h : k < s.size) : reTo s (k + 1) = reTo s k ++ escB s[k] := by
  unfold reTo; rw [take_snoc s k h]; unfold escOf; rw [List.flatMap_append]; simp
theorem reTo_all (s : ByteArray) : reTo s s.size = escOf s.data.toList := by
  unfold reTo; rw [List.take_of_length_le (by simp)]
theorem reTo_len (s : ByteArray) (k : Nat) (h : s.size ≤ 1000000000) : (reTo s k).length ≤ 2000000000 := by
  have := escOf_len (s.data.toList.take k)
  have h2 : (s.data.toList.take k).length ≤ s.size := by rw [List.length_take]; simp; omega
  unfold reTo; omega
set_option maxHeartbeats 2000000 in
set_option maxRecDepth 100000 in
theorem rescape_any (s : ByteArray) (hs : s.size ≤ 1000000000) (w : World) :
    Calls Tryz.prog 27 #[.string s] w fun e w' => e = .returned (.string (bs (escOf s.data.toList))) ∧ Below w.heap.size w w' := by
  obtain ⟨i0, hi, hz0, hz1, hz2⟩ := info_parts infoByte
  have HL := Lib.hid (fun k => reTo_len s k hs)
  have hst : BufAt w (reTo s 0) (.slice none 0 0) w := ⟨World.ownsRow_nil _ _ _ _, Below.refl _ _⟩
  have hsz : (s.size : Int) ≤ 1000000000 := by omega
  go_enter Tryz.func27, Tryz.ntmps27
  go_wp2_with fail
  go_loopw [4, 3] (fun i v wr => ∃ k : Nat, k ≤ s.size ∧ i = .int .i64 k ∧ BufAt w (reTo s k) v wr) (fun i _ _ => s.size - (intOf i).toNat)
  case atStart => exact ⟨0, Nat.zero_le _, rfl, hst⟩
  case round =>
    obtain ⟨k, hk, rfl, hb⟩ := hrel
    clear hst
    have hnl := HL.out k
    by_cases hlt : k < s.size
    · have hlz : (k : Int) < s.size := by omega
      have HS := Lib.hid (reTo_succ s k hlt)
      have hx : s[k].toNat < 256 := s[k].toNat_lt
      generalize hc : s[k] = c at *
      by_cases hsp : special c = true
      · have HQ := Lib.hid (show escB c = [92] ++ [c] by unfold escB; rw [if_pos hsp]; rfl)
        have key : ((c.toNat : Int) == 42) = true ∨ (((c.toNat : Int) == 42) = false ∧ ((c.toNat : Int) == 63) = true) ∨ (((c.toNat : Int) == 42) = false ∧ ((c.toNat : Int) == 63) = false ∧ ((c.toNat : Int) == 91) = true) ∨ (((c.toNat : Int) == 42) = false ∧ ((c.toNat : Int) == 63) = false ∧ ((c.toNat : Int) == 91) = false ∧ ((c.toNat : Int) == 92) = true) := by
          unfold special at hsp
          simp only [Bool.or_eq_true, beq_iff_eq] at hsp
          simp only [beq_iff_eq, beq_eq_false_iff_ne]
          omega
        clear hsp
        rcases key with f1 | ⟨f1, f2⟩ | ⟨f1, f2, f3⟩ | ⟨f1, f2, f3, f4⟩
        all_goals
          go_upto_region 7 with (at_builtin; refine append_buf rfl _ _ rfl [92] hb #[.int .u8 92] 1 rfl rfl rfl rfl (by omega) ?_; intro v3 w3 hb3)
          have hnl3 : (reTo s k ++ [92]).length ≤ 2000000001 := by rw [List.length_append, List.length_singleton]; omega
          go_wp2_with (at_builtin; refine append_buf rfl _ _ rfl [c] hb3 #[.int .u8 c.toNat] 1 rfl rfl rfl rfl (by omega) ?_; intro v4 w4 hb4)
          have hb5 : BufAt w (reTo s (k + 1)) v4 w4 := by rw [HS.out, HQ.out, ← List.append_assoc]; exact hb4
          clear hb3 hb4 hb
          go_wp2_with fail
          go_roundw
          case rel => exact ⟨k + 1, by omega, by go_num, hb5⟩
          case measure => simp [intOf]; omega
      · have HQ := Lib.hid (show escB c = [c] by unfold escB; rw [if_neg hsp])
        have key : ((c.toNat : Int) == 42) = false ∧ ((c.toNat : Int) == 63) = false ∧ ((c.toNat : Int) == 91) = false ∧ ((c.toNat : Int) == 92) = false := by
          unfold special at hsp
          simp only [Bool.or_eq_true, beq_iff_eq] at hsp
          simp only [beq_eq_false_iff_ne]
          omega
        clear hsp
        obtain ⟨f1, f2, f3, f4⟩ := key
        go_wp2_with (at_builtin; refine append_buf rfl _ _ rfl [c] hb #[.int .u8 c.toNat] 1 rfl rfl rfl rfl (by omega) ?_; intro v4 w4 hb4)
        have hb5 : BufAt w (reTo s (k + 1)) v4 w4 := by rw [HS.out, HQ.out]; exact hb4
        clear hb hb4
        go_wp2_with fail
        go_roundw
        case rel => exact ⟨k + 1, by omega, by go_num, hb5⟩
        case measure => simp [intOf]; omega
    · obtain rfl : k = s.size := by omega
      have hlz : ¬ ((s.size : Nat) : Int) < s.size := by omega
      rw [reTo_all] at hb
      have hcv := buf_string hb
      go_wp2_with fail
      go_ret
      exact ⟨rfl, hb.2⟩
/-- The reference's closing. -/
theorem rclosing_any (p : ByteArray) (from_ : Nat) (hp : p.size ≤ 1000000000) (hf : from_ ≤ 1000000000) (w : World) :
    Calls Tryz.prog 52 #[.string p, .int .i64 from_] w fun e w' => (∃ j : Nat, e = .returned (.int .i64 j) ∧ from_ < j ∧ ∃ h : j < p.size, p[j].toNat = 93 ∧ ∀ (i : Nat) (hi : i < p.size), from_ < i → i < j → p[i].toNat ≠ 93) ∧ w = w' ∨ (e = .returned (.int .i64 (-1)) ∧ ∀ (i : Nat) (hi : i < p.size), from_ < i → p[i].toNat ≠ 93) ∧ w = w' := by
  have hpz : (p.size : Int) ≤ 1000000000 := by omega
  have hfz : (from_ : Int) ≤ 1000000000 := by omega
  go_enter Tryz.func52, Tryz.ntmps52
  go_wp2_with fail
  go_loop [5] (fun x => ∃ k : Nat, from_ < k ∧ k ≤ 2000000000 ∧ x = .int .i64 k ∧ ∀ (i : Nat) (hi : i < p.size), from_ < i → i < k → p[i].toNat ≠ 93) (fun x => p.size - (intOf x).toNat)
  case atStart => exact ⟨from_ + 1, by omega, by omega, by go_num, fun i hi h1 h2 => by omega⟩
  case round =>
    obtain ⟨k, hk, hk2, rfl, hno⟩ := hrel
    have HN := Lib.hid hno
    clear hno
    by_cases hlt : k < p.size
    · have hlz : (k : Int) < p.size := by omega
      have HC := Lib.hid (show ∀ h : p[k].toNat = 93, ∃ h : k < p.size, p[k].toNat = 93 from fun h => ⟨hlt, h⟩)
      have HS := Lib.hid (show p[k].toNat ≠ 93 → ∀ (i : Nat) (hi : i < p.size), from_ < i → i < k + 1 → p[i].toNat ≠ 93 from fun h i hi h1 h2 => by
        by_cases e : i = k
        · subst e; exact h
        · exact HN.out i hi h1 (by omega))
      by_cases h93 : p[k].toNat = 93
      · have HJ := Lib.hid (HC.out h93)
        have f : ((p[k].toNat : Int) == 93) = true := by rw [beq_iff_eq]; omega
        clear h93
        go_wp2_with fail
        go_ret
        exact .inl ⟨⟨k, rfl, hk, ⟨HJ.out.1, HJ.out.2⟩, HN.out⟩, rfl⟩
      · have HT := Lib.hid (HS.out h93)
        have f : ((p[k].toNat : Int) == 93) = false := by rw [beq_eq_false_iff_ne]; omega
        clear h93
        go_wp2_with fail
        go_round
        case rel => exact ⟨k + 1, by omega, by omega, by go_num, HT.out⟩
        case measure => simp [intOf]; omega
    · have hlz : ¬ (k : Int) < p.size := by omega
      have HT := Lib.hid (show ∀ (i : Nat) (hi : i < p.size), from_ < i → p[i].toNat ≠ 93 from fun i hi h1 => HN.out i hi h1 (by omega))
      go_wp2_with fail
      go_ret
      exact .inr ⟨⟨rfl, HT.out⟩, rfl⟩
end Go.Proofs.YteccccpjhpbebaaGreatDoor
