/-
  strconv.unquote: what is no quoted string at all.
-/
import Derived.Test.YteccccpjhpbebaaGreatDoorTd
namespace Go.Proofs.YteccccpjhpbebaaGreatDoor
open Go.RowKit WireM
set_option linter.unusedVariables false
set_option linter.unusedSimpArgs false

set_option maxHeartbeats 4000000 in
set_option maxRecDepth 1000000 in
theorem uq_short (s : ByteArray) (w : World) (ht : Glob w) (hz : s.size < 2) :
    Calls Tryz.prog 45 #[.string s, .bool true] w (UqPost s w) := by
  obtain ⟨tp, p, herr⟩ := ht.err
  have hn := Lib.hid (noq_short hz)
  have g0 : (s.size : Int) < 2 := by omega
  go_enter Tryz.func45, Tryz.ntmps45
  go_wp2_with fail
  go_quiet (fail)
  go_wp2_with fail
  go_ret3
  exact uq_no hn.out (Nat.le_refl _) (Go.below_drewN (Below.refl _ _) _)
set_option maxHeartbeats 4000000 in
set_option maxRecDepth 1000000 in
theorem uq_open (s : ByteArray) (q : UInt8) (w : World) (ht : Glob w) (h2 : 2 ≤ s.size) (hz : s.size ≤ 100000000) (hq : s[0] = q) (hi : ix (s.data.toList.drop 1) q = -1) :
    Calls Tryz.prog 45 #[.string s, .bool true] w (UqPost s w) := by
  obtain ⟨tp, p, herr⟩ := ht.err
  have hn := Lib.hid (noq_open (by omega) hq hi)
  have g0 : ¬ (s.size : Int) < 2 := by omega
  have g1 : (0 : Int) < s.size := by omega
  have g2 : (1 : Int) ≤ s.size := by omega
  have hc := index_any (s.extract 1 s.size) q w
  rw [tail_bs0, bs_data, hi, ← tail_bs0] at hc
  have HC := Lib.hid hc
  clear hi hc
  go_enter Tryz.func45, Tryz.ntmps45
  go_wp2_with fail
  go_at_call 59
  refine HC.out.mono ?_
  rintro e w1 ⟨rfl, rfl⟩
  go_wp2_with fail
  go_quiet (fail)
  go_wp2_with fail
  go_ret3
  exact uq_no hn.out (Nat.le_refl _) (Go.below_drewN (Below.refl _ _) _)
set_option maxHeartbeats 4000000 in
set_option maxRecDepth 1000000 in
theorem uq_default (s : ByteArray) (q : UInt8) (i : Nat) (w : World) (ht : Glob w) (h2 : 2 ≤ s.size) (hz : s.size ≤ 100000000) (hq : s[0] = q) (hi : ix (s.data.toList.drop 1) q = i) (h96 : q.toNat ≠ 96) (h34 : q.toNat ≠ 34) (h39 : q.toNat ≠ 39) :
    Calls Tryz.prog 45 #[.string s, .bool true] w (UqPost s w) := by
  obtain ⟨tp, p, herr⟩ := ht.err
  have hp0 : 0 < s.size := by omega
  have g0 : ¬ (s.size : Int) < 2 := by omega
  have g1 : (0 : Int) < s.size := by omega
  have g2 : (1 : Int) ≤ s.size := by omega
  have hc := index_any (s.extract 1 s.size) q w
  rw [tail_bs0, bs_data, hi, ← tail_bs0] at hc
  have HC := Lib.hid hc
  have hil := (ix_some hi).1
  rw [List.length_drop] at hil
  have es : s.data.toList.length = s.size := by simp
  rw [es] at hil
  have i2 : i + 2 ≤ s.size := by omega
  have i3 : (i : Int) + 2 ≤ s.size := by omega
  have i4 : ¬ (i : Int) < 0 := by omega
  have i5 : (i : Int) ≤ 100000000 := by omega
  have hn := Lib.hid (noq_other hp0 (by rw [hq]; exact h34))
  have e96 : ((q.toNat : Int) == 96) = false := by rw [beq_eq_false_iff_ne]; omega
  have e34 : ((q.toNat : Int) == 34) = false := by rw [beq_eq_false_iff_ne]; omega
  have e39 : ((q.toNat : Int) == 39) = false := by rw [beq_eq_false_iff_ne]; omega
  clear hi hc es h96 h34 h39
  go_enter Tryz.func45, Tryz.ntmps45
  go_wp2_with fail
  go_at_call 59
  refine HC.out.mono ?_
  rintro e w1 ⟨rfl, rfl⟩
  go_wp2_with fail
  go_quiet (fail)
  go_wp2_with fail
  go_ret3
  exact uq_no hn.out (Nat.le_refl _) (Go.below_drewN (Below.refl _ _) _)
end Go.Proofs.YteccccpjhpbebaaGreatDoor
