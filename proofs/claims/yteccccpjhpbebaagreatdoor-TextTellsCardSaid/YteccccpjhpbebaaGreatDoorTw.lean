/-
  strconv.UnquoteChar behind a backslash.
-/
import Derived.Test.YteccccpjhpbebaaGreatDoorTv
namespace Go.Proofs.YteccccpjhpbebaaGreatDoor
open Go.RowKit WireM
set_option linter.unusedVariables false
set_option linter.unusedSimpArgs false

theorem uc_vac {s : ByteArray} {q : UInt8} {v : Int} {mb : Bool} {t : ByteArray} (h1 : 1 < s.size) (h92 : (s[0]'(by omega)).toNat = 92) (hn : s[1].toNat ≠ 34 ∧ s[1].toNat ≠ 92 ∧ s[1].toNat ≠ 110 ∧ s[1].toNat ≠ 120) (ht : t.size < s.size) (hv : -2147483648 ≤ v ∧ v ≤ 2147483647) : UcOk s q v mb t :=
  ⟨ht, hv.1, hv.2, fun _ c X e => by
    rcases uc_second h1 h92 e with ⟨a, b, _⟩ | ⟨a, _⟩ | ⟨a, _⟩
    · rw [a] at hn; omega
    · omega
    · omega⟩
theorem uc_vacno {s : ByteArray} {q : UInt8} (h1 : 1 < s.size) (h92 : (s[0]'(by omega)).toNat = 92) (hn : s[1].toNat ≠ 34 ∧ s[1].toNat ≠ 92 ∧ s[1].toNat ≠ 110 ∧ s[1].toNat ≠ 120) : UcNo s q :=
  fun _ c X e => by
    rcases uc_second h1 h92 e with ⟨a, b, _⟩ | ⟨a, _⟩ | ⟨a, _⟩
    · rw [a] at hn; omega
    · omega
    · omega
theorem tail2 (s : ByteArray) (h : 1 < s.size) : (s.extract 2 s.size).size < s.size := by rw [ByteArray.size_extract]; omega
set_option maxHeartbeats 1000000 in
set_option maxRecDepth 100000 in
theorem uc_alone (s : ByteArray) (q : UInt8) (w : World) (ht : Glob w) (h0 : s.size = 1) (hq : q.toNat = 34 ∨ q.toNat = 39) (h92 : (s[0]'(by omega)).toNat = 92) :
    Calls Tryz.prog 63 #[.string s, .int .u8 q.toNat] w (UcPost s q w) := by
  obtain ⟨tp, p, herr⟩ := ht.err
  have hp : 0 < s.size := by omega
  have f0 : ((s.size : Int) == 0) = false := by rw [beq_eq_false_iff_ne]; omega
  have g0 : (0 : Int) < s.size := by omega
  have n1 : (s.size : Int) ≤ 1 := by omega
  have fq : (((s[0]'hp).toNat : Int) == q.toNat) = false := by rw [beq_eq_false_iff_ne]; omega
  have f2 : ¬ (128 : Int) ≤ (s[0]'hp).toNat := by omega
  have f3 : (((s[0]'hp).toNat : Int) == 92) = true := by rw [beq_iff_eq]; omega
  have HN := Lib.hid (show UcNo s q from fun _ c X e => by have := uc_len hp h92 e; omega)
  clear h92 hq h0
  go_enter Tryz.func63, Tryz.ntmps63
  go_wp2_with fail
  refine bodyPost_ret (results_tmp4 rfl _ _ _) rfl ?_
  exact uc_no HN.out (Below.refl _ _)
set_option maxHeartbeats 2000000 in
set_option maxRecDepth 100000 in
theorem uc_97 (s : ByteArray) (q : UInt8) (w : World) (ht : Glob w) (h1 : 1 < s.size) (hz : s.size ≤ 1000000000) (hq : q.toNat = 34 ∨ q.toNat = 39) (h92 : (s[0]'(by omega)).toNat = 92) (hk : s[1].toNat = 97) :
    Calls Tryz.prog 63 #[.string s, .int .u8 q.toNat] w (UcPost s q w) := by
  have hp : 0 < s.size := by omega
  have f0 : ((s.size : Int) == 0) = false := by rw [beq_eq_false_iff_ne]; omega
  have g0 : (0 : Int) < s.size := by omega
  have g1 : (1 : Int) < s.size := by omega
  have g2 : (2 : Int) ≤ s.size := by omega
  have n1 : ¬ (s.size : Int) ≤ 1 := by omega
  have fq : (((s[0]'hp).toNat : Int) == q.toNat) = false := by rw [beq_eq_false_iff_ne]; omega
  have f2 : ¬ (128 : Int) ≤ (s[0]'hp).toNat := by omega
  have f3 : (((s[0]'hp).toNat : Int) == 92) = true := by rw [beq_iff_eq]; omega
  have hx1 : s[1].toNat < 256 := s[1].toNat_lt
  have e97 : ((s[1].toNat : Int) == 97) = true := by rw [beq_iff_eq]; omega
  have HO := Lib.hid (show UcOk s q 7 false (s.extract 2 s.size) from uc_vac h1 h92 (by omega) (tail2 s h1) (by omega))
  clear hk h92 hq
  go_enter Tryz.func63, Tryz.ntmps63
  go_wp2_with fail
  refine bodyPost_ret (results_tmp4 rfl _ _ _) rfl ?_
  exact uc_ok HO.out (Below.refl _ _)
set_option maxHeartbeats 2000000 in
set_option maxRecDepth 100000 in
theorem uc_98 (s : ByteArray) (q : UInt8) (w : World) (ht : Glob w) (h1 : 1 < s.size) (hz : s.size ≤ 1000000000) (hq : q.toNat = 34 ∨ q.toNat = 39) (h92 : (s[0]'(by omega)).toNat = 92) (hk : s[1].toNat = 98) :
    Calls Tryz.prog 63 #[.string s, .int .u8 q.toNat] w (UcPost s q w) := by
  have hp : 0 < s.size := by omega
  have f0 : ((s.size : Int) == 0) = false := by rw [beq_eq_false_iff_ne]; omega
  have g0 : (0 : Int) < s.size := by omega
  have g1 : (1 : Int) < s.size := by omega
  have g2 : (2 : Int) ≤ s.size := by omega
  have n1 : ¬ (s.size : Int) ≤ 1 := by omega
  have fq : (((s[0]'hp).toNat : Int) == q.toNat) = false := by rw [beq_eq_false_iff_ne]; omega
  have f2 : ¬ (128 : Int) ≤ (s[0]'hp).toNat := by omega
  have f3 : (((s[0]'hp).toNat : Int) == 92) = true := by rw [beq_iff_eq]; omega
  have hx1 : s[1].toNat < 256 := s[1].toNat_lt
  have e97 : ((s[1].toNat : Int) == 97) = false := by rw [beq_eq_false_iff_ne]; omega
  have e98 : ((s[1].toNat : Int) == 98) = true := by rw [beq_iff_eq]; omega
  have HO := Lib.hid (show UcOk s q 8 false (s.extract 2 s.size) from uc_vac h1 h92 (by omega) (tail2 s h1) (by omega))
  clear hk h92 hq
  go_enter Tryz.func63, Tryz.ntmps63
  go_wp2_with fail
  refine bodyPost_ret (results_tmp4 rfl _ _ _) rfl ?_
  exact uc_ok HO.out (Below.refl _ _)
set_option maxHeartbeats 2000000 in
set_option maxRecDepth 100000 in
theorem uc_102 (s : ByteArray) (q : UInt8) (w : World) (ht : Glob w) (h1 : 1 < s.size) (hz : s.size ≤ 1000000000) (hq : q.toNat = 34 ∨ q.toNat = 39) (h92 : (s[0]'(by omega)).toNat = 92) (hk : s[1].toNat = 102) :
    Calls Tryz.prog 63 #[.string s, .int .u8 q.toNat] w (UcPost s q w) := by
  have hp : 0 < s.size := by omega
  have f0 : ((s.size : Int) == 0) = false := by rw [beq_eq_false_iff_ne]; omega
  have g0 : (0 : Int) < s.size := by omega
  have g1 : (1 : Int) < s.size := by omega
  have g2 : (2 : Int) ≤ s.size := by omega
  have n1 : ¬ (s.size : Int) ≤ 1 := by omega
  have fq : (((s[0]'hp).toNat : Int) == q.toNat) = false := by rw [beq_eq_false_iff_ne]; omega
  have f2 : ¬ (128 : Int) ≤ (s[0]'hp).toNat := by omega
  have f3 : (((s[0]'hp).toNat : Int) == 92) = true := by rw [beq_iff_eq]; omega
  have hx1 : s[1].toNat < 256 := s[1].toNat_lt
  have e97 : ((s[1].toNat : Int) == 97) = false := by rw [beq_eq_false_iff_ne]; omega
  have e98 : ((s[1].toNat : Int) == 98) = false := by rw [beq_eq_false_iff_ne]; omega
  have e102 : ((s[1].toNat : Int) == 102) = true := by rw [beq_iff_eq]; omega
  have HO := Lib.hid (show UcOk s q 12 false (s.extract 2 s.size) from uc_vac h1 h92 (by omega) (tail2 s h1) (by omega))
  clear hk h92 hq
  go_enter Tryz.func63, Tryz.ntmps63
  go_wp2_with fail
  refine bodyPost_ret (results_tmp4 rfl _ _ _) rfl ?_
  exact uc_ok HO.out (Below.refl _ _)
set_option maxHeartbeats 2000000 in
set_option maxRecDepth 100000 in
theorem uc_110 (s : ByteArray) (q : UInt8) (w : World) (ht : Glob w) (h1 : 1 < s.size) (hz : s.size ≤ 1000000000) (hq : q.toNat = 34 ∨ q.toNat = 39) (h92 : (s[0]'(by omega)).toNat = 92) (hk : s[1].toNat = 110) :
    Calls Tryz.prog 63 #[.string s, .int .u8 q.toNat] w (UcPost s q w) := by
  have hp : 0 < s.size := by omega
  have f0 : ((s.size : Int) == 0) = false := by rw [beq_eq_false_iff_ne]; omega
  have g0 : (0 : Int) < s.size := by omega
  have g1 : (1 : Int) < s.size := by omega
  have g2 : (2 : Int) ≤ s.size := by omega
  have n1 : ¬ (s.size : Int) ≤ 1 := by omega
  have fq : (((s[0]'hp).toNat : Int) == q.toNat) = false := by rw [beq_eq_false_iff_ne]; omega
  have f2 : ¬ (128 : Int) ≤ (s[0]'hp).toNat := by omega
  have f3 : (((s[0]'hp).toNat : Int) == 92) = true := by rw [beq_iff_eq]; omega
  have hx1 : s[1].toNat < 256 := s[1].toNat_lt
  have e97 : ((s[1].toNat : Int) == 97) = false := by rw [beq_eq_false_iff_ne]; omega
  have e98 : ((s[1].toNat : Int) == 98) = false := by rw [beq_eq_false_iff_ne]; omega
  have e102 : ((s[1].toNat : Int) == 102) = false := by rw [beq_eq_false_iff_ne]; omega
  have e110 : ((s[1].toNat : Int) == 110) = true := by rw [beq_iff_eq]; omega
  have HO := Lib.hid (show UcOk s q 10 false (s.extract 2 s.size) from ⟨tail2 s h1, by omega, by omega, fun _ c X e => by
    rcases uc_second h1 h92 e with ⟨a, b, _⟩ | ⟨_, a, b⟩ | ⟨a, _⟩
    · rw [a] at hk; omega
    · exact ⟨by omega, rfl, by rw [tail_bs0, bs_data, b]⟩
    · omega⟩)
  clear hk h92 hq
  go_enter Tryz.func63, Tryz.ntmps63
  go_wp2_with fail
  refine bodyPost_ret (results_tmp4 rfl _ _ _) rfl ?_
  exact uc_ok HO.out (Below.refl _ _)
set_option maxHeartbeats 2000000 in
set_option maxRecDepth 100000 in
theorem uc_114 (s : ByteArray) (q : UInt8) (w : World) (ht : Glob w) (h1 : 1 < s.size) (hz : s.size ≤ 1000000000) (hq : q.toNat = 34 ∨ q.toNat = 39) (h92 : (s[0]'(by omega)).toNat = 92) (hk : s[1].toNat = 114) :
    Calls Tryz.prog 63 #[.string s, .int .u8 q.toNat] w (UcPost s q w) := by
  have hp : 0 < s.size := by omega
  have f0 : ((s.size : Int) == 0) = false := by rw [beq_eq_false_iff_ne]; omega
  have g0 : (0 : Int) < s.size := by omega
  have g1 : (1 : Int) < s.size := by omega
  have g2 : (2 : Int) ≤ s.size := by omega
  have n1 : ¬ (s.size : Int) ≤ 1 := by omega
  have fq : (((s[0]'hp).toNat : Int) == q.toNat) = false := by rw [beq_eq_false_iff_ne]; omega
  have f2 : ¬ (128 : Int) ≤ (s[0]'hp).toNat := by omega
  have f3 : (((s[0]'hp).toNat : Int) == 92) = true := by rw [beq_iff_eq]; omega
  have hx1 : s[1].toNat < 256 := s[1].toNat_lt
  have e97 : ((s[1].toNat : Int) == 97) = false := by rw [beq_eq_false_iff_ne]; omega
  have e98 : ((s[1].toNat : Int) == 98) = false := by rw [beq_eq_false_iff_ne]; omega
  have e102 : ((s[1].toNat : Int) == 102) = false := by rw [beq_eq_false_iff_ne]; omega
  have e110 : ((s[1].toNat : Int) == 110) = false := by rw [beq_eq_false_iff_ne]; omega
  have e114 : ((s[1].toNat : Int) == 114) = true := by rw [beq_iff_eq]; omega
  have HO := Lib.hid (show UcOk s q 13 false (s.extract 2 s.size) from uc_vac h1 h92 (by omega) (tail2 s h1) (by omega))
  clear hk h92 hq
  go_enter Tryz.func63, Tryz.ntmps63
  go_wp2_with fail
  refine bodyPost_ret (results_tmp4 rfl _ _ _) rfl ?_
  exact uc_ok HO.out (Below.refl _ _)
set_option maxHeartbeats 2000000 in
set_option maxRecDepth 100000 in
theorem uc_116 (s : ByteArray) (q : UInt8) (w : World) (ht : Glob w) (h1 : 1 < s.size) (hz : s.size ≤ 1000000000) (hq : q.toNat = 34 ∨ q.toNat = 39) (h92 : (s[0]'(by omega)).toNat = 92) (hk : s[1].toNat = 116) :
    Calls Tryz.prog 63 #[.string s, .int .u8 q.toNat] w (UcPost s q w) := by
  have hp : 0 < s.size := by omega
  have f0 : ((s.size : Int) == 0) = false := by rw [beq_eq_false_iff_ne]; omega
  have g0 : (0 : Int) < s.size := by omega
  have g1 : (1 : Int) < s.size := by omega
  have g2 : (2 : Int) ≤ s.size := by omega
  have n1 : ¬ (s.size : Int) ≤ 1 := by omega
  have fq : (((s[0]'hp).toNat : Int) == q.toNat) = false := by rw [beq_eq_false_iff_ne]; omega
  have f2 : ¬ (128 : Int) ≤ (s[0]'hp).toNat := by omega
  have f3 : (((s[0]'hp).toNat : Int) == 92) = true := by rw [beq_iff_eq]; omega
  have hx1 : s[1].toNat < 256 := s[1].toNat_lt
  have e97 : ((s[1].toNat : Int) == 97) = false := by rw [beq_eq_false_iff_ne]; omega
  have e98 : ((s[1].toNat : Int) == 98) = false := by rw [beq_eq_false_iff_ne]; omega
  have e102 : ((s[1].toNat : Int) == 102) = false := by rw [beq_eq_false_iff_ne]; omega
  have e110 : ((s[1].toNat : Int) == 110) = false := by rw [beq_eq_false_iff_ne]; omega
  have e114 : ((s[1].toNat : Int) == 114) = false := by rw [beq_eq_false_iff_ne]; omega
  have e116 : ((s[1].toNat : Int) == 116) = true := by rw [beq_iff_eq]; omega
  have HO := Lib.hid (show UcOk s q 9 false (s.extract 2 s.size) from uc_vac h1 h92 (by omega) (tail2 s h1) (by omega))
  clear hk h92 hq
  go_enter Tryz.func63, Tryz.ntmps63
  go_wp2_with fail
  refine bodyPost_ret (results_tmp4 rfl _ _ _) rfl ?_
  exact uc_ok HO.out (Below.refl _ _)
set_option maxHeartbeats 2000000 in
set_option maxRecDepth 100000 in
theorem uc_118 (s : ByteArray) (q : UInt8) (w : World) (ht : Glob w) (h1 : 1 < s.size) (hz : s.size ≤ 1000000000) (hq : q.toNat = 34 ∨ q.toNat = 39) (h92 : (s[0]'(by omega)).toNat = 92) (hk : s[1].toNat = 118) :
    Calls Tryz.prog 63 #[.string s, .int .u8 q.toNat] w (UcPost s q w) := by
  have hp : 0 < s.size := by omega
  have f0 : ((s.size : Int) == 0) = false := by rw [beq_eq_false_iff_ne]; omega
  have g0 : (0 : Int) < s.size := by omega
  have g1 : (1 : Int) < s.size := by omega
  have g2 : (2 : Int) ≤ s.size := by omega
  have n1 : ¬ (s.size : Int) ≤ 1 := by omega
  have fq : (((s[0]'hp).toNat : Int) == q.toNat) = false := by rw [beq_eq_false_iff_ne]; omega
  have f2 : ¬ (128 : Int) ≤ (s[0]'hp).toNat := by omega
  have f3 : (((s[0]'hp).toNat : Int) == 92) = true := by rw [beq_iff_eq]; omega
  have hx1 : s[1].toNat < 256 := s[1].toNat_lt
  have e97 : ((s[1].toNat : Int) == 97) = false := by rw [beq_eq_false_iff_ne]; omega
  have e98 : ((s[1].toNat : Int) == 98) = false := by rw [beq_eq_false_iff_ne]; omega
  have e102 : ((s[1].toNat : Int) == 102) = false := by rw [beq_eq_false_iff_ne]; omega
  have e110 : ((s[1].toNat : Int) == 110) = false := by rw [beq_eq_false_iff_ne]; omega
  have e114 : ((s[1].toNat : Int) == 114) = false := by rw [beq_eq_false_iff_ne]; omega
  have e116 : ((s[1].toNat : Int) == 116) = false := by rw [beq_eq_false_iff_ne]; omega
  have e118 : ((s[1].toNat : Int) == 118) = true := by rw [beq_iff_eq]; omega
  have HO := Lib.hid (show UcOk s q 11 false (s.extract 2 s.size) from uc_vac h1 h92 (by omega) (tail2 s h1) (by omega))
  clear hk h92 hq
  go_enter Tryz.func63, Tryz.ntmps63
  go_wp2_with fail
  refine bodyPost_ret (results_tmp4 rfl _ _ _) rfl ?_
  exact uc_ok HO.out (Below.refl _ _)
set_option maxHeartbeats 2000000 in
set_option maxRecDepth 100000 in
theorem uc_92 (s : ByteArray) (q : UInt8) (w : World) (ht : Glob w) (h1 : 1 < s.size) (hz : s.size ≤ 1000000000) (hq : q.toNat = 34 ∨ q.toNat = 39) (h92 : (s[0]'(by omega)).toNat = 92) (hk : s[1].toNat = 92) :
    Calls Tryz.prog 63 #[.string s, .int .u8 q.toNat] w (UcPost s q w) := by
  have hp : 0 < s.size := by omega
  have f0 : ((s.size : Int) == 0) = false := by rw [beq_eq_false_iff_ne]; omega
  have g0 : (0 : Int) < s.size := by omega
  have g1 : (1 : Int) < s.size := by omega
  have g2 : (2 : Int) ≤ s.size := by omega
  have n1 : ¬ (s.size : Int) ≤ 1 := by omega
  have fq : (((s[0]'hp).toNat : Int) == q.toNat) = false := by rw [beq_eq_false_iff_ne]; omega
  have f2 : ¬ (128 : Int) ≤ (s[0]'hp).toNat := by omega
  have f3 : (((s[0]'hp).toNat : Int) == 92) = true := by rw [beq_iff_eq]; omega
  have hx1 : s[1].toNat < 256 := s[1].toNat_lt
  have e97 : ((s[1].toNat : Int) == 97) = false := by rw [beq_eq_false_iff_ne]; omega
  have e98 : ((s[1].toNat : Int) == 98) = false := by rw [beq_eq_false_iff_ne]; omega
  have e102 : ((s[1].toNat : Int) == 102) = false := by rw [beq_eq_false_iff_ne]; omega
  have e110 : ((s[1].toNat : Int) == 110) = false := by rw [beq_eq_false_iff_ne]; omega
  have e114 : ((s[1].toNat : Int) == 114) = false := by rw [beq_eq_false_iff_ne]; omega
  have e116 : ((s[1].toNat : Int) == 116) = false := by rw [beq_eq_false_iff_ne]; omega
  have e118 : ((s[1].toNat : Int) == 118) = false := by rw [beq_eq_false_iff_ne]; omega
  have e120 : ((s[1].toNat : Int) == 120) = false := by rw [beq_eq_false_iff_ne]; omega
  have e117 : ((s[1].toNat : Int) == 117) = false := by rw [beq_eq_false_iff_ne]; omega
  have e85 : ((s[1].toNat : Int) == 85) = false := by rw [beq_eq_false_iff_ne]; omega
  have e48 : ((s[1].toNat : Int) == 48) = false := by rw [beq_eq_false_iff_ne]; omega
  have e49 : ((s[1].toNat : Int) == 49) = false := by rw [beq_eq_false_iff_ne]; omega
  have e50 : ((s[1].toNat : Int) == 50) = false := by rw [beq_eq_false_iff_ne]; omega
  have e51 : ((s[1].toNat : Int) == 51) = false := by rw [beq_eq_false_iff_ne]; omega
  have e52 : ((s[1].toNat : Int) == 52) = false := by rw [beq_eq_false_iff_ne]; omega
  have e53 : ((s[1].toNat : Int) == 53) = false := by rw [beq_eq_false_iff_ne]; omega
  have e54 : ((s[1].toNat : Int) == 54) = false := by rw [beq_eq_false_iff_ne]; omega
  have e55 : ((s[1].toNat : Int) == 55) = false := by rw [beq_eq_false_iff_ne]; omega
  have e92 : ((s[1].toNat : Int) == 92) = true := by rw [beq_iff_eq]; omega
  have HO := Lib.hid (show UcOk s q 92 false (s.extract 2 s.size) from ⟨tail2 s h1, by omega, by omega, fun _ c X e => by
    rcases uc_second h1 h92 e with ⟨a, b, d⟩ | ⟨a, _⟩ | ⟨a, _⟩
    · rw [a] at hk; exact ⟨by omega, rfl, by rw [tail_bs0, bs_data, d]⟩
    · omega
    · omega⟩)
  clear hk h92 hq
  go_enter Tryz.func63, Tryz.ntmps63
  go_wp2_with fail
  refine bodyPost_ret (results_tmp4 rfl _ _ _) rfl ?_
  exact uc_ok HO.out (Below.refl _ _)
set_option maxHeartbeats 2000000 in
set_option maxRecDepth 100000 in
theorem uc_39q (s : ByteArray) (q : UInt8) (w : World) (ht : Glob w) (h1 : 1 < s.size) (hz : s.size ≤ 1000000000) (hq : q.toNat = 34 ∨ q.toNat = 39) (h92 : (s[0]'(by omega)).toNat = 92) (hk : s[1].toNat = 39) (hs : s[1] = q) :
    Calls Tryz.prog 63 #[.string s, .int .u8 q.toNat] w (UcPost s q w) := by
  have hp : 0 < s.size := by omega
  have f0 : ((s.size : Int) == 0) = false := by rw [beq_eq_false_iff_ne]; omega
  have g0 : (0 : Int) < s.size := by omega
  have g1 : (1 : Int) < s.size := by omega
  have g2 : (2 : Int) ≤ s.size := by omega
  have n1 : ¬ (s.size : Int) ≤ 1 := by omega
  have fq : (((s[0]'hp).toNat : Int) == q.toNat) = false := by rw [beq_eq_false_iff_ne]; omega
  have f2 : ¬ (128 : Int) ≤ (s[0]'hp).toNat := by omega
  have f3 : (((s[0]'hp).toNat : Int) == 92) = true := by rw [beq_iff_eq]; omega
  have hx1 : s[1].toNat < 256 := s[1].toNat_lt
  have e97 : ((s[1].toNat : Int) == 97) = false := by rw [beq_eq_false_iff_ne]; omega
  have e98 : ((s[1].toNat : Int) == 98) = false := by rw [beq_eq_false_iff_ne]; omega
  have e102 : ((s[1].toNat : Int) == 102) = false := by rw [beq_eq_false_iff_ne]; omega
  have e110 : ((s[1].toNat : Int) == 110) = false := by rw [beq_eq_false_iff_ne]; omega
  have e114 : ((s[1].toNat : Int) == 114) = false := by rw [beq_eq_false_iff_ne]; omega
  have e116 : ((s[1].toNat : Int) == 116) = false := by rw [beq_eq_false_iff_ne]; omega
  have e118 : ((s[1].toNat : Int) == 118) = false := by rw [beq_eq_false_iff_ne]; omega
  have e120 : ((s[1].toNat : Int) == 120) = false := by rw [beq_eq_false_iff_ne]; omega
  have e117 : ((s[1].toNat : Int) == 117) = false := by rw [beq_eq_false_iff_ne]; omega
  have e85 : ((s[1].toNat : Int) == 85) = false := by rw [beq_eq_false_iff_ne]; omega
  have e48 : ((s[1].toNat : Int) == 48) = false := by rw [beq_eq_false_iff_ne]; omega
  have e49 : ((s[1].toNat : Int) == 49) = false := by rw [beq_eq_false_iff_ne]; omega
  have e50 : ((s[1].toNat : Int) == 50) = false := by rw [beq_eq_false_iff_ne]; omega
  have e51 : ((s[1].toNat : Int) == 51) = false := by rw [beq_eq_false_iff_ne]; omega
  have e52 : ((s[1].toNat : Int) == 52) = false := by rw [beq_eq_false_iff_ne]; omega
  have e53 : ((s[1].toNat : Int) == 53) = false := by rw [beq_eq_false_iff_ne]; omega
  have e54 : ((s[1].toNat : Int) == 54) = false := by rw [beq_eq_false_iff_ne]; omega
  have e55 : ((s[1].toNat : Int) == 55) = false := by rw [beq_eq_false_iff_ne]; omega
  have e92 : ((s[1].toNat : Int) == 92) = false := by rw [beq_eq_false_iff_ne]; omega
  have e39 : ((s[1].toNat : Int) == 39) = true := by rw [beq_iff_eq]; omega
  have eq1 : ((s[1].toNat : Int) == q.toNat) = true := by rw [beq_iff_eq, hs]
  have HO := Lib.hid (show UcOk s q s[1].toNat false (s.extract 2 s.size) from ⟨tail2 s h1, by omega, by omega, fun h34 c X e => by
    rcases uc_second h1 h92 e with ⟨a, b, d⟩ | ⟨a, _⟩ | ⟨a, _⟩
    · exact ⟨by rw [a], rfl, by rw [tail_bs0, bs_data, d]⟩
    · omega
    · omega⟩)
  clear hk h92 hq hs
  go_enter Tryz.func63, Tryz.ntmps63
  go_wp2_with fail
  refine bodyPost_ret (results_tmp4 rfl _ _ _) rfl ?_
  exact uc_ok HO.out (Below.refl _ _)
set_option maxHeartbeats 2000000 in
set_option maxRecDepth 100000 in
theorem uc_39n (s : ByteArray) (q : UInt8) (w : World) (ht : Glob w) (h1 : 1 < s.size) (hz : s.size ≤ 1000000000) (hq : q.toNat = 34 ∨ q.toNat = 39) (h92 : (s[0]'(by omega)).toNat = 92) (hk : s[1].toNat = 39) (hs : s[1] ≠ q) :
    Calls Tryz.prog 63 #[.string s, .int .u8 q.toNat] w (UcPost s q w) := by
  obtain ⟨tp, p, herr⟩ := ht.err
  have hp : 0 < s.size := by omega
  have f0 : ((s.size : Int) == 0) = false := by rw [beq_eq_false_iff_ne]; omega
  have g0 : (0 : Int) < s.size := by omega
  have g1 : (1 : Int) < s.size := by omega
  have g2 : (2 : Int) ≤ s.size := by omega
  have n1 : ¬ (s.size : Int) ≤ 1 := by omega
  have fq : (((s[0]'hp).toNat : Int) == q.toNat) = false := by rw [beq_eq_false_iff_ne]; omega
  have f2 : ¬ (128 : Int) ≤ (s[0]'hp).toNat := by omega
  have f3 : (((s[0]'hp).toNat : Int) == 92) = true := by rw [beq_iff_eq]; omega
  have hx1 : s[1].toNat < 256 := s[1].toNat_lt
  have e97 : ((s[1].toNat : Int) == 97) = false := by rw [beq_eq_false_iff_ne]; omega
  have e98 : ((s[1].toNat : Int) == 98) = false := by rw [beq_eq_false_iff_ne]; omega
  have e102 : ((s[1].toNat : Int) == 102) = false := by rw [beq_eq_false_iff_ne]; omega
  have e110 : ((s[1].toNat : Int) == 110) = false := by rw [beq_eq_false_iff_ne]; omega
  have e114 : ((s[1].toNat : Int) == 114) = false := by rw [beq_eq_false_iff_ne]; omega
  have e116 : ((s[1].toNat : Int) == 116) = false := by rw [beq_eq_false_iff_ne]; omega
  have e118 : ((s[1].toNat : Int) == 118) = false := by rw [beq_eq_false_iff_ne]; omega
  have e120 : ((s[1].toNat : Int) == 120) = false := by rw [beq_eq_false_iff_ne]; omega
  have e117 : ((s[1].toNat : Int) == 117) = false := by rw [beq_eq_false_iff_ne]; omega
  have e85 : ((s[1].toNat : Int) == 85) = false := by rw [beq_eq_false_iff_ne]; omega
  have e48 : ((s[1].toNat : Int) == 48) = false := by rw [beq_eq_false_iff_ne]; omega
  have e49 : ((s[1].toNat : Int) == 49) = false := by rw [beq_eq_false_iff_ne]; omega
  have e50 : ((s[1].toNat : Int) == 50) = false := by rw [beq_eq_false_iff_ne]; omega
  have e51 : ((s[1].toNat : Int) == 51) = false := by rw [beq_eq_false_iff_ne]; omega
  have e52 : ((s[1].toNat : Int) == 52) = false := by rw [beq_eq_false_iff_ne]; omega
  have e53 : ((s[1].toNat : Int) == 53) = false := by rw [beq_eq_false_iff_ne]; omega
  have e54 : ((s[1].toNat : Int) == 54) = false := by rw [beq_eq_false_iff_ne]; omega
  have e55 : ((s[1].toNat : Int) == 55) = false := by rw [beq_eq_false_iff_ne]; omega
  have e92 : ((s[1].toNat : Int) == 92) = false := by rw [beq_eq_false_iff_ne]; omega
  have e39 : ((s[1].toNat : Int) == 39) = true := by rw [beq_iff_eq]; omega
  have eq1 := byte_ne hs
  have HN := Lib.hid (show UcNo s q from fun h34 c X e => by
    rcases uc_second h1 h92 e with ⟨a, b, d⟩ | ⟨a, _⟩ | ⟨a, _⟩
    · rcases b with b | b
      · exact hs (UInt8.toNat_inj.1 (by rw [a]; omega))
      · rw [a] at hk; omega
    · omega
    · omega)
  clear hk h92 hq hs
  go_enter Tryz.func63, Tryz.ntmps63
  go_wp2_with fail
  refine bodyPost_ret (results_tmp4 rfl _ _ _) rfl ?_
  exact uc_no HN.out (Below.refl _ _)
set_option maxHeartbeats 2000000 in
set_option maxRecDepth 100000 in
theorem uc_34q (s : ByteArray) (q : UInt8) (w : World) (ht : Glob w) (h1 : 1 < s.size) (hz : s.size ≤ 1000000000) (hq : q.toNat = 34 ∨ q.toNat = 39) (h92 : (s[0]'(by omega)).toNat = 92) (hk : s[1].toNat = 34) (hs : s[1] = q) :
    Calls Tryz.prog 63 #[.string s, .int .u8 q.toNat] w (UcPost s q w) := by
  have hp : 0 < s.size := by omega
  have f0 : ((s.size : Int) == 0) = false := by rw [beq_eq_false_iff_ne]; omega
  have g0 : (0 : Int) < s.size := by omega
  have g1 : (1 : Int) < s.size := by omega
  have g2 : (2 : Int) ≤ s.size := by omega
  have n1 : ¬ (s.size : Int) ≤ 1 := by omega
  have fq : (((s[0]'hp).toNat : Int) == q.toNat) = false := by rw [beq_eq_false_iff_ne]; omega
  have f2 : ¬ (128 : Int) ≤ (s[0]'hp).toNat := by omega
  have f3 : (((s[0]'hp).toNat : Int) == 92) = true := by rw [beq_iff_eq]; omega
  have hx1 : s[1].toNat < 256 := s[1].toNat_lt
  have e97 : ((s[1].toNat : Int) == 97) = false := by rw [beq_eq_false_iff_ne]; omega
  have e98 : ((s[1].toNat : Int) == 98) = false := by rw [beq_eq_false_iff_ne]; omega
  have e102 : ((s[1].toNat : Int) == 102) = false := by rw [beq_eq_false_iff_ne]; omega
  have e110 : ((s[1].toNat : Int) == 110) = false := by rw [beq_eq_false_iff_ne]; omega
  have e114 : ((s[1].toNat : Int) == 114) = false := by rw [beq_eq_false_iff_ne]; omega
  have e116 : ((s[1].toNat : Int) == 116) = false := by rw [beq_eq_false_iff_ne]; omega
  have e118 : ((s[1].toNat : Int) == 118) = false := by rw [beq_eq_false_iff_ne]; omega
  have e120 : ((s[1].toNat : Int) == 120) = false := by rw [beq_eq_false_iff_ne]; omega
  have e117 : ((s[1].toNat : Int) == 117) = false := by rw [beq_eq_false_iff_ne]; omega
  have e85 : ((s[1].toNat : Int) == 85) = false := by rw [beq_eq_false_iff_ne]; omega
  have e48 : ((s[1].toNat : Int) == 48) = false := by rw [beq_eq_false_iff_ne]; omega
  have e49 : ((s[1].toNat : Int) == 49) = false := by rw [beq_eq_false_iff_ne]; omega
  have e50 : ((s[1].toNat : Int) == 50) = false := by rw [beq_eq_false_iff_ne]; omega
  have e51 : ((s[1].toNat : Int) == 51) = false := by rw [beq_eq_false_iff_ne]; omega
  have e52 : ((s[1].toNat : Int) == 52) = false := by rw [beq_eq_false_iff_ne]; omega
  have e53 : ((s[1].toNat : Int) == 53) = false := by rw [beq_eq_false_iff_ne]; omega
  have e54 : ((s[1].toNat : Int) == 54) = false := by rw [beq_eq_false_iff_ne]; omega
  have e55 : ((s[1].toNat : Int) == 55) = false := by rw [beq_eq_false_iff_ne]; omega
  have e92 : ((s[1].toNat : Int) == 92) = false := by rw [beq_eq_false_iff_ne]; omega
  have e39 : ((s[1].toNat : Int) == 39) = false := by rw [beq_eq_false_iff_ne]; omega
  have e34 : ((s[1].toNat : Int) == 34) = true := by rw [beq_iff_eq]; omega
  have eq1 : ((s[1].toNat : Int) == q.toNat) = true := by rw [beq_iff_eq, hs]
  have HO := Lib.hid (show UcOk s q s[1].toNat false (s.extract 2 s.size) from ⟨tail2 s h1, by omega, by omega, fun h34 c X e => by
    rcases uc_second h1 h92 e with ⟨a, b, d⟩ | ⟨a, _⟩ | ⟨a, _⟩
    · exact ⟨by rw [a], rfl, by rw [tail_bs0, bs_data, d]⟩
    · omega
    · omega⟩)
  clear hk h92 hq hs
  go_enter Tryz.func63, Tryz.ntmps63
  go_wp2_with fail
  refine bodyPost_ret (results_tmp4 rfl _ _ _) rfl ?_
  exact uc_ok HO.out (Below.refl _ _)
set_option maxHeartbeats 2000000 in
set_option maxRecDepth 100000 in
theorem uc_34n (s : ByteArray) (q : UInt8) (w : World) (ht : Glob w) (h1 : 1 < s.size) (hz : s.size ≤ 1000000000) (hq : q.toNat = 34 ∨ q.toNat = 39) (h92 : (s[0]'(by omega)).toNat = 92) (hk : s[1].toNat = 34) (hs : s[1] ≠ q) :
    Calls Tryz.prog 63 #[.string s, .int .u8 q.toNat] w (UcPost s q w) := by
  obtain ⟨tp, p, herr⟩ := ht.err
  have hp : 0 < s.size := by omega
  have f0 : ((s.size : Int) == 0) = false := by rw [beq_eq_false_iff_ne]; omega
  have g0 : (0 : Int) < s.size := by omega
  have g1 : (1 : Int) < s.size := by omega
  have g2 : (2 : Int) ≤ s.size := by omega
  have n1 : ¬ (s.size : Int) ≤ 1 := by omega
  have fq : (((s[0]'hp).toNat : Int) == q.toNat) = false := by rw [beq_eq_false_iff_ne]; omega
  have f2 : ¬ (128 : Int) ≤ (s[0]'hp).toNat := by omega
  have f3 : (((s[0]'hp).toNat : Int) == 92) = true := by rw [beq_iff_eq]; omega
  have hx1 : s[1].toNat < 256 := s[1].toNat_lt
  have e97 : ((s[1].toNat : Int) == 97) = false := by rw [beq_eq_false_iff_ne]; omega
  have e98 : ((s[1].toNat : Int) == 98) = false := by rw [beq_eq_false_iff_ne]; omega
  have e102 : ((s[1].toNat : Int) == 102) = false := by rw [beq_eq_false_iff_ne]; omega
  have e110 : ((s[1].toNat : Int) == 110) = false := by rw [beq_eq_false_iff_ne]; omega
  have e114 : ((s[1].toNat : Int) == 114) = false := by rw [beq_eq_false_iff_ne]; omega
  have e116 : ((s[1].toNat : Int) == 116) = false := by rw [beq_eq_false_iff_ne]; omega
  have e118 : ((s[1].toNat : Int) == 118) = false := by rw [beq_eq_false_iff_ne]; omega
  have e120 : ((s[1].toNat : Int) == 120) = false := by rw [beq_eq_false_iff_ne]; omega
  have e117 : ((s[1].toNat : Int) == 117) = false := by rw [beq_eq_false_iff_ne]; omega
  have e85 : ((s[1].toNat : Int) == 85) = false := by rw [beq_eq_false_iff_ne]; omega
  have e48 : ((s[1].toNat : Int) == 48) = false := by rw [beq_eq_false_iff_ne]; omega
  have e49 : ((s[1].toNat : Int) == 49) = false := by rw [beq_eq_false_iff_ne]; omega
  have e50 : ((s[1].toNat : Int) == 50) = false := by rw [beq_eq_false_iff_ne]; omega
  have e51 : ((s[1].toNat : Int) == 51) = false := by rw [beq_eq_false_iff_ne]; omega
  have e52 : ((s[1].toNat : Int) == 52) = false := by rw [beq_eq_false_iff_ne]; omega
  have e53 : ((s[1].toNat : Int) == 53) = false := by rw [beq_eq_false_iff_ne]; omega
  have e54 : ((s[1].toNat : Int) == 54) = false := by rw [beq_eq_false_iff_ne]; omega
  have e55 : ((s[1].toNat : Int) == 55) = false := by rw [beq_eq_false_iff_ne]; omega
  have e92 : ((s[1].toNat : Int) == 92) = false := by rw [beq_eq_false_iff_ne]; omega
  have e39 : ((s[1].toNat : Int) == 39) = false := by rw [beq_eq_false_iff_ne]; omega
  have e34 : ((s[1].toNat : Int) == 34) = true := by rw [beq_iff_eq]; omega
  have eq1 := byte_ne hs
  have HN := Lib.hid (show UcNo s q from fun h34 c X e => by
    rcases uc_second h1 h92 e with ⟨a, b, d⟩ | ⟨a, _⟩ | ⟨a, _⟩
    · rcases b with b | b
      · exact hs (UInt8.toNat_inj.1 (by rw [a]; omega))
      · rw [a] at hk; omega
    · omega
    · omega)
  clear hk h92 hq hs
  go_enter Tryz.func63, Tryz.ntmps63
  go_wp2_with fail
  refine bodyPost_ret (results_tmp4 rfl _ _ _) rfl ?_
  exact uc_no HN.out (Below.refl _ _)
set_option maxHeartbeats 2000000 in
set_option maxRecDepth 100000 in
theorem uc_else (s : ByteArray) (q : UInt8) (w : World) (ht : Glob w) (h1 : 1 < s.size) (hz : s.size ≤ 1000000000) (hq : q.toNat = 34 ∨ q.toNat = 39) (h92 : (s[0]'(by omega)).toNat = 92) (hk : s[1].toNat ≠ 97 ∧ s[1].toNat ≠ 98 ∧ s[1].toNat ≠ 102 ∧ s[1].toNat ≠ 110 ∧ s[1].toNat ≠ 114 ∧ s[1].toNat ≠ 116 ∧ s[1].toNat ≠ 118 ∧ s[1].toNat ≠ 120 ∧ s[1].toNat ≠ 117 ∧ s[1].toNat ≠ 85 ∧ s[1].toNat ≠ 48 ∧ s[1].toNat ≠ 49 ∧ s[1].toNat ≠ 50 ∧ s[1].toNat ≠ 51 ∧ s[1].toNat ≠ 52 ∧ s[1].toNat ≠ 53 ∧ s[1].toNat ≠ 54 ∧ s[1].toNat ≠ 55 ∧ s[1].toNat ≠ 92 ∧ s[1].toNat ≠ 39 ∧ s[1].toNat ≠ 34) :
    Calls Tryz.prog 63 #[.string s, .int .u8 q.toNat] w (UcPost s q w) := by
  obtain ⟨tp, p, herr⟩ := ht.err
  have hp : 0 < s.size := by omega
  have f0 : ((s.size : Int) == 0) = false := by rw [beq_eq_false_iff_ne]; omega
  have g0 : (0 : Int) < s.size := by omega
  have g1 : (1 : Int) < s.size := by omega
  have g2 : (2 : Int) ≤ s.size := by omega
  have n1 : ¬ (s.size : Int) ≤ 1 := by omega
  have fq : (((s[0]'hp).toNat : Int) == q.toNat) = false := by rw [beq_eq_false_iff_ne]; omega
  have f2 : ¬ (128 : Int) ≤ (s[0]'hp).toNat := by omega
  have f3 : (((s[0]'hp).toNat : Int) == 92) = true := by rw [beq_iff_eq]; omega
  have hx1 : s[1].toNat < 256 := s[1].toNat_lt
  have e97 : ((s[1].toNat : Int) == 97) = false := by rw [beq_eq_false_iff_ne]; omega
  have e98 : ((s[1].toNat : Int) == 98) = false := by rw [beq_eq_false_iff_ne]; omega
  have e102 : ((s[1].toNat : Int) == 102) = false := by rw [beq_eq_false_iff_ne]; omega
  have e110 : ((s[1].toNat : Int) == 110) = false := by rw [beq_eq_false_iff_ne]; omega
  have e114 : ((s[1].toNat : Int) == 114) = false := by rw [beq_eq_false_iff_ne]; omega
  have e116 : ((s[1].toNat : Int) == 116) = false := by rw [beq_eq_false_iff_ne]; omega
  have e118 : ((s[1].toNat : Int) == 118) = false := by rw [beq_eq_false_iff_ne]; omega
  have e120 : ((s[1].toNat : Int) == 120) = false := by rw [beq_eq_false_iff_ne]; omega
  have e117 : ((s[1].toNat : Int) == 117) = false := by rw [beq_eq_false_iff_ne]; omega
  have e85 : ((s[1].toNat : Int) == 85) = false := by rw [beq_eq_false_iff_ne]; omega
  have e48 : ((s[1].toNat : Int) == 48) = false := by rw [beq_eq_false_iff_ne]; omega
  have e49 : ((s[1].toNat : Int) == 49) = false := by rw [beq_eq_false_iff_ne]; omega
  have e50 : ((s[1].toNat : Int) == 50) = false := by rw [beq_eq_false_iff_ne]; omega
  have e51 : ((s[1].toNat : Int) == 51) = false := by rw [beq_eq_false_iff_ne]; omega
  have e52 : ((s[1].toNat : Int) == 52) = false := by rw [beq_eq_false_iff_ne]; omega
  have e53 : ((s[1].toNat : Int) == 53) = false := by rw [beq_eq_false_iff_ne]; omega
  have e54 : ((s[1].toNat : Int) == 54) = false := by rw [beq_eq_false_iff_ne]; omega
  have e55 : ((s[1].toNat : Int) == 55) = false := by rw [beq_eq_false_iff_ne]; omega
  have e92 : ((s[1].toNat : Int) == 92) = false := by rw [beq_eq_false_iff_ne]; omega
  have e39 : ((s[1].toNat : Int) == 39) = false := by rw [beq_eq_false_iff_ne]; omega
  have e34 : ((s[1].toNat : Int) == 34) = false := by rw [beq_eq_false_iff_ne]; omega
  have HN := Lib.hid (show UcNo s q from uc_vacno h1 h92 (by omega))
  clear hk h92 hq
  go_enter Tryz.func63, Tryz.ntmps63
  go_wp2_with fail
  refine bodyPost_ret (results_tmp4 rfl _ _ _) rfl ?_
  exact uc_no HN.out (Below.refl _ _)
end Go.Proofs.YteccccpjhpbebaaGreatDoor
