/-
  THE REFERENCE: In.
-/
import Derived.Test.YteccccpjhpbebaaGreatDoorUg
namespace Go.Proofs.YteccccpjhpbebaaGreatDoor
open Go.RowKit WireM
set_option linter.unusedVariables false
set_option linter.unusedSimpArgs false

theorem in_range (t : ByteArray) (c : UInt8) (k : Nat) (h : k + 2 < t.size) (h45 : t[k + 1].toNat = 45) :
    inSet (t.data.toList.drop k) c = ((decide (t[k].toNat ≤ c.toNat) && decide (c.toNat ≤ t[k + 2].toNat)) || inSet (t.data.toList.drop (k + 3)) c) := by
  rw [drop_cons t k (by omega), drop_cons t (k + 1) (by omega), drop_cons t (k + 2) (by omega), inSet_range _ _ _ _ _ h45]
theorem in_one (t : ByteArray) (c : UInt8) (k : Nat) (h : k < t.size) (hn : ∀ h : k + 2 < t.size, t[k + 1].toNat ≠ 45) :
    inSet (t.data.toList.drop k) c = (t[k].toNat == c.toNat || inSet (t.data.toList.drop (k + 1)) c) := by
  rw [drop_cons t k h]
  refine inSet_one _ _ _ ?_
  rintro ⟨h1, h2⟩
  have h3 : k + 2 < t.size := by
    rw [List.length_cons, List.length_drop] at h1
    have : t.data.toList.length = t.size := by simp
    omega
  rw [drop_cons t (k + 1) (by omega)] at h2
  exact hn h3 (Option.some.inj h2)
set_option maxHeartbeats 2000000 in
set_option maxRecDepth 100000 in
theorem rin_any (t : ByteArray) (c : UInt8) (hs : t.size ≤ 1000000000) (w : World) :
    Calls Tryz.prog 53 #[.string t, .int .u8 c.toNat] w fun e w' => e = .returned (.bool (inSet t.data.toList c)) ∧ w = w' := by
  obtain ⟨R, hR⟩ : ∃ R, inSet t.data.toList c = R := ⟨_, rfl⟩
  rw [hR]
  have HR := Lib.hid hR
  clear hR
  have hc : c.toNat < 256 := c.toNat_lt
  have hsz : (t.size : Int) ≤ 1000000000 := by omega
  go_enter Tryz.func53, Tryz.ntmps53
  go_wp2_with fail
  go_loop [5] (fun i => ∃ k : Nat, k ≤ t.size ∧ i = .int .i64 k ∧ inSet (t.data.toList.drop k) c = R) (fun i => t.size - (intOf i).toNat)
  case atStart => exact ⟨0, Nat.zero_le _, rfl, HR.out⟩
  case round =>
    obtain ⟨k, hk, rfl, hin⟩ := hrel
    have HI := Lib.hid hin
    clear hin
    by_cases hlt : k < t.size
    · have hlz : (k : Int) < t.size := by omega
      by_cases h3 : ∃ h : k + 2 < t.size, t[k + 1].toNat = 45
      · obtain ⟨h3, h45⟩ := h3
        have g2 : (k : Int) + 2 < t.size := by omega
        have g1 : (k : Int) + 1 < t.size := by omega
        have HS := Lib.hid (in_range t c k h3 h45)
        have e45 : ((t[k + 1].toNat : Int) == 45) = true := by rw [beq_iff_eq]; omega
        clear h45
        by_cases q1 : t[k].toNat ≤ c.toNat
        · have p1 : (t[k].toNat : Int) ≤ c.toNat := by omega
          by_cases q2 : c.toNat ≤ t[k + 2].toNat
          · have p2 : (c.toNat : Int) ≤ t[k + 2].toNat := by omega
            have HT := Lib.hid (show R = true by rw [← HI.out, HS.out]; simp [q1, q2])
            go_wp2_with fail
            go_ret
            exact ⟨by rw [HT.out]; rfl, rfl⟩
          · have p2 : ¬ (c.toNat : Int) ≤ t[k + 2].toNat := by omega
            have HT := Lib.hid (show inSet (t.data.toList.drop (k + 3)) c = R by rw [← HI.out, HS.out]; simp [q2])
            go_wp2_with fail
            go_round
            case rel => exact ⟨k + 3, by omega, by go_num, HT.out⟩
            case measure => simp [intOf]; omega
        · have p1 : ¬ (t[k].toNat : Int) ≤ c.toNat := by omega
          have HT := Lib.hid (show inSet (t.data.toList.drop (k + 3)) c = R by rw [← HI.out, HS.out]; simp [q1])
          go_wp2_with fail
          go_round
          case rel => exact ⟨k + 3, by omega, by go_num, HT.out⟩
          case measure => simp [intOf]; omega
      · have hn : ∀ h : k + 2 < t.size, t[k + 1].toNat ≠ 45 := fun h e => h3 ⟨h, e⟩
        have HS := Lib.hid (in_one t c k hlt hn)
        have key : (¬ (k : Int) + 2 < t.size) ∨ (∃ h : k + 2 < t.size, ((t[k + 1].toNat : Int) == 45) = false) := by
          by_cases h2 : k + 2 < t.size
          · right
            refine ⟨h2, ?_⟩
            have := hn h2
            rw [beq_eq_false_iff_ne]; omega
          · left; omega
        clear h3 hn
        by_cases he : t[k].toNat = c.toNat
        · have fe : ((t[k].toNat : Int) == c.toNat) = true := by rw [beq_iff_eq]; omega
          have HT := Lib.hid (show R = true by rw [← HI.out, HS.out]; simp [he])
          clear he
          rcases key with g2 | ⟨h2, e45⟩
          · go_wp2_with fail
            go_ret
            exact ⟨by rw [HT.out]; rfl, rfl⟩
          · have g2 : (k : Int) + 2 < t.size := by omega
            have g1 : (k : Int) + 1 < t.size := by omega
            go_wp2_with fail
            go_ret
            exact ⟨by rw [HT.out]; rfl, rfl⟩
        · have fe : ((t[k].toNat : Int) == c.toNat) = false := by rw [beq_eq_false_iff_ne]; omega
          have HT := Lib.hid (show inSet (t.data.toList.drop (k + 1)) c = R by rw [← HI.out, HS.out]; simp [he])
          clear he
          rcases key with g2 | ⟨h2, e45⟩
          · go_wp2_with fail
            go_round
            case rel => exact ⟨k + 1, by omega, by go_num, HT.out⟩
            case measure => simp [intOf]; omega
          · have g2 : (k : Int) + 2 < t.size := by omega
            have g1 : (k : Int) + 1 < t.size := by omega
            go_wp2_with fail
            go_round
            case rel => exact ⟨k + 1, by omega, by go_num, HT.out⟩
            case measure => simp [intOf]; omega
    · obtain rfl : k = t.size := by omega
      have hlz : ¬ ((t.size : Nat) : Int) < t.size := by omega
      have HT := Lib.hid (show R = false by rw [← HI.out, List.drop_eq_nil_of_le (by simp)]; rfl)
      go_wp2_with fail
      go_ret
      exact ⟨by rw [HT.out]; rfl, rfl⟩
end Go.Proofs.YteccccpjhpbebaaGreatDoor
