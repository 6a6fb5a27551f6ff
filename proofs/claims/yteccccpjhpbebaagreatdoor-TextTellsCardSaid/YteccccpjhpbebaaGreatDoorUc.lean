/-
  THE REFERENCE: Quote, digit, closing, Escape.
-/
import Derived.Test.YteccccpjhpbebaaGreatDoorUb
namespace Go.Proofs.YteccccpjhpbebaaGreatDoor
open Go.RowKit WireM
set_option linter.unusedVariables false
set_option linter.unusedSimpArgs false

set_option maxHeartbeats 2000000 in
set_option maxRecDepth 100000 in
theorem rquote_any (s : ByteArray) (hs : s.size ≤ 1000000000) (w : World) :
    Calls Tryz.prog 12 #[.string s] w fun e w' => e = .returned (.string (bs (quote s.data.toList))) ∧ Below w.heap.size w w' := by
  obtain ⟨i0, hi, hz0, hz1, hz2⟩ := info_parts infoByte
  have HL := Lib.hid (fun k => quoteTo_len s k hs)
  have hst : BufAt w (quoteTo s 0) (.slice (some ⟨w.heap.size, 0, none⟩) 1 1) (w.alloc (.cells #[.int .u8 34] 5)) :=
    ⟨World.ownsRow_lit w #[.int .u8 34] 1 (Nat.le_refl _) (by unfold maxLen; omega) rfl, (Below.refl _ w).alloc (Nat.le_refl _) _⟩
  go_enter Tryz.func12, Tryz.ntmps12
  go_wp2_with fail
  go_loopw [4, 3, 5] (fun i v y wr => ∃ k : Nat, k ≤ s.size ∧ i = .int .i64 k ∧ BufAt w (quoteTo s k) v wr) (fun i _ _ _ => s.size - (intOf i).toNat)
  case atStart => exact ⟨0, Nat.zero_le _, rfl, hst⟩
  case round =>
    obtain ⟨k, hk, rfl, hb⟩ := hrel
    clear hst
    have hnl := HL.out k
    by_cases hlt : k < s.size
    · have HS := Lib.hid (quoteTo_succ s k hlt)
      have hx : s[k].toNat < 256 := s[k].toNat_lt
      generalize hc : s[k] = c at *
      have HC := Lib.hid hc
      rcases qb_cases c with ⟨h1, e1⟩ | ⟨h1, e1⟩ | ⟨h1, h2, e1⟩ | ⟨h1, h2, h3, h4, e1⟩
      · have HQ := Lib.hid e1
        clear e1
        by_cases h2 : c.toNat = 34
        · have f1 : ((c.toNat : Int) == 34) = true := by rw [beq_iff_eq]; omega
          clear h1 h2
          go_wp2_with (at_builtin; refine append_buf rfl _ _ rfl [92, c] hb #[.int .u8 92, .int .u8 c.toNat] 2 rfl rfl rfl rfl (by omega) ?_; intro v' w3 hb3)
          have hb4 : BufAt w (quoteTo s (k + 1)) v' w3 := by rw [HS.out, HQ.out]; exact hb3
          clear hb hb3
          go_wp2_with fail
          go_roundw
          case rel => exact ⟨k + 1, by omega, by go_num, hb4⟩
          case measure => simp [intOf]; omega
        · have f1 : ((c.toNat : Int) == 34) = false := by rw [beq_eq_false_iff_ne]; omega
          have f2 : ((c.toNat : Int) == 92) = true := by rw [beq_iff_eq]; omega
          clear h1 h2
          go_wp2_with (at_builtin; refine append_buf rfl _ _ rfl [92, c] hb #[.int .u8 92, .int .u8 c.toNat] 2 rfl rfl rfl rfl (by omega) ?_; intro v' w3 hb3)
          have hb4 : BufAt w (quoteTo s (k + 1)) v' w3 := by rw [HS.out, HQ.out]; exact hb3
          clear hb hb3
          go_wp2_with fail
          go_roundw
          case rel => exact ⟨k + 1, by omega, by go_num, hb4⟩
          case measure => simp [intOf]; omega
      · have HQ := Lib.hid e1
        have f1 : ((c.toNat : Int) == 34) = false := by rw [beq_eq_false_iff_ne]; omega
        have f2 : ((c.toNat : Int) == 92) = false := by rw [beq_eq_false_iff_ne]; omega
        have f3 : ((c.toNat : Int) == 10) = true := by rw [beq_iff_eq]; omega
        clear e1 h1
        go_wp2_with (at_builtin; refine append_buf rfl _ _ rfl [92, 110] hb #[.int .u8 92, .int .u8 110] 2 rfl rfl rfl rfl (by omega) ?_; intro v' w3 hb3)
        have hb4 : BufAt w (quoteTo s (k + 1)) v' w3 := by rw [HS.out, HQ.out]; exact hb3
        clear hb hb3
        go_wp2_with fail
        go_roundw
        case rel => exact ⟨k + 1, by omega, by go_num, hb4⟩
        case measure => simp [intOf]; omega
      · have HQ := Lib.hid e1
        have f1 : ((c.toNat : Int) == 34) = false := by rw [beq_eq_false_iff_ne]; omega
        have f2 : ((c.toNat : Int) == 92) = false := by rw [beq_eq_false_iff_ne]; omega
        have f3 : ((c.toNat : Int) == 10) = false := by rw [beq_eq_false_iff_ne]; omega
        clear e1
        by_cases h32 : c.toNat < 32
        · have f4 : (c.toNat : Int) < 32 := by omega
          clear h1 h2
          have hq : c.toNat / 16 < 16 := by omega
          have hr : c.toNat % 16 < 16 := by omega
          have w1 : IntKind.u8.wrap ((c.toNat : Int) / 16) = ((c.toNat / 16 : Nat) : Int) := by rw [IntWalk.u8_in _ (by omega)]; omega
          have w2 : (c.toNat : Int).tmod 16 = ((c.toNat % 16 : Nat) : Int) := by rw [Int.tmod_eq_emod_of_nonneg (by omega)]; omega
          generalize c.toNat / 16 = q at *
          generalize c.toNat % 16 = r at *
          have q1 : (q : Int) < 16 := by omega
          have r1 : (r : Int) < 16 := by omega
          have q2 := hex_at q hq
          have r2 := hex_at r hr
          go_wp2_with fail
          go_region_law ((refine step_append_buf (by rfl) _ _ (by rfl) [92, 120, hexd q, hexd r] hb.drew #[.int .u8 92, .int .u8 120, .int .u8 (hexd q).toNat, .int .u8 (hexd r).toNat] 4 (by rfl) (by rfl) rfl (by decide) rfl (by simp; omega) ?_; intro v' w3 hb3))
          all_goals
            have hb4 : BufAt w (quoteTo s (k + 1)) v' w3 := by rw [HS.out, HQ.out]; exact hb3
            clear hb hb3
            go_wp2_with fail
            go_roundw
            case rel => exact ⟨k + 1, by omega, by go_num, hb4⟩
            case measure => simp [intOf]; omega
        · have f4 : ¬ (c.toNat : Int) < 32 := by omega
          have f5 : (126 : Int) < c.toNat := by omega
          clear h1 h2
          have hq : c.toNat / 16 < 16 := by omega
          have hr : c.toNat % 16 < 16 := by omega
          have w1 : IntKind.u8.wrap ((c.toNat : Int) / 16) = ((c.toNat / 16 : Nat) : Int) := by rw [IntWalk.u8_in _ (by omega)]; omega
          have w2 : (c.toNat : Int).tmod 16 = ((c.toNat % 16 : Nat) : Int) := by rw [Int.tmod_eq_emod_of_nonneg (by omega)]; omega
          generalize c.toNat / 16 = q at *
          generalize c.toNat % 16 = r at *
          have q1 : (q : Int) < 16 := by omega
          have r1 : (r : Int) < 16 := by omega
          have q2 := hex_at q hq
          have r2 := hex_at r hr
          go_wp2_with fail
          go_region_law ((refine step_append_buf (by rfl) _ _ (by rfl) [92, 120, hexd q, hexd r] hb.drew #[.int .u8 92, .int .u8 120, .int .u8 (hexd q).toNat, .int .u8 (hexd r).toNat] 4 (by rfl) (by rfl) rfl (by decide) rfl (by simp; omega) ?_; intro v' w3 hb3))
          all_goals
            have hb4 : BufAt w (quoteTo s (k + 1)) v' w3 := by rw [HS.out, HQ.out]; exact hb3
            clear hb hb3
            go_wp2_with fail
            go_roundw
            case rel => exact ⟨k + 1, by omega, by go_num, hb4⟩
            case measure => simp [intOf]; omega
      · have HQ := Lib.hid e1
        have f1 : ((c.toNat : Int) == 34) = false := by rw [beq_eq_false_iff_ne]; omega
        have f2 : ((c.toNat : Int) == 92) = false := by rw [beq_eq_false_iff_ne]; omega
        have f3 : ((c.toNat : Int) == 10) = false := by rw [beq_eq_false_iff_ne]; omega
        have f4 : ¬ (c.toNat : Int) < 32 := by omega
        have f5 : ¬ (126 : Int) < c.toNat := by omega
        clear e1
        go_wp2_with (at_builtin; refine append_buf rfl _ _ rfl [c] hb #[.int .u8 c.toNat] 1 rfl rfl rfl rfl (by omega) ?_; intro v' w3 hb3)
        have hb4 : BufAt w (quoteTo s (k + 1)) v' w3 := by rw [HS.out, HQ.out]; exact hb3
        clear hb hb3
        go_wp2_with fail
        go_roundw
        case rel => exact ⟨k + 1, by omega, by go_num, hb4⟩
        case measure => simp [intOf]; omega
    · obtain rfl : k = s.size := by omega
      go_wp2_with (at_builtin; refine append_buf rfl _ _ rfl [34] hb #[.int .u8 34] 1 rfl rfl rfl rfl (by omega) ?_; intro v' w3 hb3)
      have hcv := buf_string hb3
      clear hb
      go_wp2_with fail
      rw [hcv]
      go_wp2_with fail
      go_ret
      exact ⟨by rw [quoteTo_all]; rfl, hb3.2⟩
/-- The reference's digit. -/
def hexv (c : UInt8) : Nat := if 48 ≤ c.toNat ∧ c.toNat ≤ 57 then c.toNat - 48 else if 97 ≤ c.toNat ∧ c.toNat ≤ 102 then c.toNat - 87 else 0
theorem hexv_hexd (k : Nat) (h : k < 16) : hexv (hexd k) = k := by
  have : ∀ k : Fin 16, hexv (hexd k.val) = k.val := by decide
  exact this ⟨k, h⟩
theorem hexv_none (c : UInt8) (h : ∀ k, k < 16 → hexd k ≠ c) : hexv c = 0 := by
  unfold hexv
  split
  · rename_i h1
    refine absurd (UInt8.toNat_inj.1 ?_) (h (c.toNat - 48) (by omega))
    rw [hexd_nat _ (by omega), if_pos (by omega)]; omega
  · split
    · rename_i h1 h2
      refine absurd (UInt8.toNat_inj.1 ?_) (h (c.toNat - 87) (by omega))
      rw [hexd_nat _ (by omega), if_neg (by omega)]; omega
    · rfl
theorem rdigit_any (c : UInt8) (w : World) : Calls Tryz.prog 30 #[.int .u8 c.toNat] w fun e w' => e = .returned (.int .u8 (hexv c)) ∧ w = w' := by
  go_enter Tryz.func30, Tryz.ntmps30
  go_wp2_with fail
  go_loop [3] (fun i => ∃ k : Nat, k ≤ 16 ∧ i = .int .i64 k ∧ ∀ j, j < k → hexd j ≠ c) (fun i => 16 - (intOf i).toNat)
  case atStart => exact ⟨0, Nat.zero_le _, rfl, fun j h => by omega⟩
  case round =>
    obtain ⟨k, hk, rfl, hno⟩ := hrel
    have HN := Lib.hid hno
    clear hno
    by_cases hlt : k < 16
    · have hz : (k : Int) < 16 := by omega
      have hx := hex_at k hlt
      by_cases he : hexd k = c
      · have f : (((hexd k).toNat : Int) == c.toNat) = true := by rw [beq_iff_eq, he]
        have HR := Lib.hid (show hexv c = k by rw [← he]; exact hexv_hexd k hlt)
        have hw : IntKind.u8.wrap (k : Int) = k := by rw [IntWalk.u8_in _ (by omega)]
        clear he
        go_wp2_with fail
        go_ret
        exact ⟨by rw [HR.out]; rfl, rfl⟩
      · have f : (((hexd k).toNat : Int) == c.toNat) = false := by
          rw [beq_eq_false_iff_ne]; intro h; exact he (UInt8.toNat_inj.1 (by omega))
        have HS := Lib.hid (show ∀ j, j < k + 1 → hexd j ≠ c from fun j hj => by
          by_cases h : j = k
          · rw [h]; exact he
          · exact HN.out j (by omega))
        clear he
        go_wp2_with fail
        go_round
        case rel => exact ⟨k + 1, by omega, by go_num, HS.out⟩
        case measure => simp [intOf]; omega
    · obtain rfl : k = 16 := by omega
      have HR := Lib.hid (hexv_none c HN.out)
      go_wp2_with fail
      go_ret
      exact ⟨by rw [HR.out]; rfl, rfl⟩
end Go.Proofs.YteccccpjhpbebaaGreatDoor
