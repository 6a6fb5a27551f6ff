/-
  strconv.UnquoteChar: octal digits; and all cases together.
-/
import Derived.Test.YteccccpjhpbebaaGreatDoorTy
namespace Go.Proofs.YteccccpjhpbebaaGreatDoor
open Go.RowKit WireM
set_option linter.unusedVariables false
set_option linter.unusedSimpArgs false

set_option maxHeartbeats 2000000 in
set_option maxRecDepth 100000 in
theorem uc_48 (s : ByteArray) (q : UInt8) (w : World) (ht : Glob w) (h1 : 1 < s.size) (hz : s.size ≤ 1000000000) (hq : q.toNat = 34 ∨ q.toNat = 39) (h92 : (s[0]'(by omega)).toNat = 92) (hk : s[1].toNat = 48) :
    Calls Tryz.prog 63 #[.string s, .int .u8 q.toNat] w (UcPost s q w) := by
  obtain ⟨tp, p, herr⟩ := ht.err
  have hp : 0 < s.size := by omega
  have f0 : ((s.size : Int) == 0) = false := by rw [beq_eq_false_iff_ne]; omega
  have g0 : (0 : Int) < s.size := by omega
  have g1 : (1 : Int) < s.size := by omega
  have g2 : (2 : Int) ≤ s.size := by omega
  have n1 : ¬ (s.size : Int) ≤ 1 := by omega
  have fq : (((s[0]'hp).toNat : Int) == q.toNat) = false := by rw [beq_eq_false_iff_ne]; omega
  have f2 : ¬ (128 : Int) ≤ (s[0]'hp).toNat := by omega
  have f3 : (((s[0]'hp).toNat : Int) == 92) = true := by rw [beq_iff_eq]; omega
  have hx1 : s[1].toNat < 256 := s[1].toNat_lt
  have e97 : ((s[1].toNat : Int) == 97) = false := by rw [beq_eq_false_iff_ne]; omega
  have e98 : ((s[1].toNat : Int) == 98) = false := by rw [beq_eq_false_iff_ne]; omega
  have e102 : ((s[1].toNat : Int) == 102) = false := by rw [beq_eq_false_iff_ne]; omega
  have e110 : ((s[1].toNat : Int) == 110) = false := by rw [beq_eq_false_iff_ne]; omega
  have e114 : ((s[1].toNat : Int) == 114) = false := by rw [beq_eq_false_iff_ne]; omega
  have e116 : ((s[1].toNat : Int) == 116) = false := by rw [beq_eq_false_iff_ne]; omega
  have e118 : ((s[1].toNat : Int) == 118) = false := by rw [beq_eq_false_iff_ne]; omega
  have e120 : ((s[1].toNat : Int) == 120) = false := by rw [beq_eq_false_iff_ne]; omega
  have e117 : ((s[1].toNat : Int) == 117) = false := by rw [beq_eq_false_iff_ne]; omega
  have e85 : ((s[1].toNat : Int) == 85) = false := by rw [beq_eq_false_iff_ne]; omega
  have e48 : ((s[1].toNat : Int) == 48) = true := by rw [beq_iff_eq]; omega
  obtain ⟨S, hS⟩ : ∃ S, s.extract 2 s.size = S := ⟨_, rfl⟩
  have hSz : S.size + 2 = s.size := by rw [← hS, ByteArray.size_extract]; omega
  have HN := Lib.hid (show UcNo s q from uc_vacno h1 h92 (by omega))
  by_cases hshort : S.size < 2
  · have hsh : (S.size : Int) < 2 := by omega
    clear hk h92 hq hSz
    go_enter Tryz.func63, Tryz.ntmps63
    go_wp2_with fail
    refine bodyPost_ret (results_tmp4 rfl _ _ _) rfl ?_
    exact uc_no HN.out (Below.refl _ _)
  · have HO := Lib.hid (show ∀ v : Int, -2147483648 ≤ v ∧ v ≤ 2147483647 → UcOk s q v false (S.extract 2 S.size) from fun v hv => uc_vac h1 h92 (by omega) (by rw [ByteArray.size_extract]; omega) hv)
    have hsh : ¬ (S.size : Int) < 2 := by omega
    have hsh2 : (2 : Int) ≤ S.size := by omega
    have hc7 : 0 ≤ (s[1].toNat : Int) - 48 := by omega
    have hc8 : (s[1].toNat : Int) - 48 ≤ 7 := by omega
    clear hk h92 hq hSz
    go_enter Tryz.func63, Tryz.ntmps63
    go_wp2_with fail
    go_loop [18, 17, 7] (fun jv vv ev => ∃ (k : Nat) (v : Int), k ≤ 2 ∧ jv = .int .i64 k ∧ vv = .int .i32 v ∧ ev = .nilIface ∧ -2147483648 ≤ v ∧ v ≤ 2147483647) (fun jv _ _ => 2 - (intOf jv).toNat)
    case atStart => exact ⟨0, _, by omega, rfl, rfl, rfl, by omega, by omega⟩
    case round =>
      obtain ⟨k, v, hk, rfl, rfl, rfl, hv1, hv2⟩ := hrel
      by_cases hlt : k < 2
      · have hkS : k < S.size := by omega
        have hkz : (k : Int) < S.size := by omega
        have hlz : (k : Int) < 2 := by omega
        have hxs : (S[k]'hkS).toNat < 256 := (S[k]'hkS).toNat_lt
        by_cases x0 : ((S[k]'hkS).toNat : Int) - 48 < 0
        · go_wp2_with fail
          refine bodyPost_ret (results_tmp4 rfl _ _ _) rfl ?_
          exact uc_no HN.out (Below.refl _ _)
        · by_cases x7 : (7 : Int) < ((S[k]'hkS).toNat : Int) - 48
          · go_wp2_with fail
            refine bodyPost_ret (results_tmp4 rfl _ _ _) rfl ?_
            exact uc_no HN.out (Below.refl _ _)
          · have hw := bits_within .or .i32 (RowKit.wrap32 (v * 8)) (((S[k]'hkS).toNat : Int) - 48)
            have HW := Lib.hid hw
            clear hw
            go_wp2_with fail
            go_round
            case rel => exact ⟨k + 1, _, by omega, by go_num, rfl, rfl, HW.out.1, HW.out.2⟩
            case measure => simp [intOf]; omega
      · obtain rfl : k = 2 := by omega
        have hno := Lib.hid (HO.out v ⟨hv1, hv2⟩)
        by_cases v255 : (255 : Int) < v
        · go_wp2_with fail
          refine bodyPost_ret (results_tmp4 rfl _ _ _) rfl ?_
          exact uc_no HN.out (Below.refl _ _)
        · go_wp2_with fail
          refine bodyPost_ret (results_tmp4 rfl _ _ _) rfl ?_
          exact uc_ok hno.out (Below.refl _ _)
set_option maxHeartbeats 2000000 in
set_option maxRecDepth 100000 in
theorem uc_49 (s : ByteArray) (q : UInt8) (w : World) (ht : Glob w) (h1 : 1 < s.size) (hz : s.size ≤ 1000000000) (hq : q.toNat = 34 ∨ q.toNat = 39) (h92 : (s[0]'(by omega)).toNat = 92) (hk : s[1].toNat = 49) :
    Calls Tryz.prog 63 #[.string s, .int .u8 q.toNat] w (UcPost s q w) := by
  obtain ⟨tp, p, herr⟩ := ht.err
  have hp : 0 < s.size := by omega
  have f0 : ((s.size : Int) == 0) = false := by rw [beq_eq_false_iff_ne]; omega
  have g0 : (0 : Int) < s.size := by omega
  have g1 : (1 : Int) < s.size := by omega
  have g2 : (2 : Int) ≤ s.size := by omega
  have n1 : ¬ (s.size : Int) ≤ 1 := by omega
  have fq : (((s[0]'hp).toNat : Int) == q.toNat) = false := by rw [beq_eq_false_iff_ne]; omega
  have f2 : ¬ (128 : Int) ≤ (s[0]'hp).toNat := by omega
  have f3 : (((s[0]'hp).toNat : Int) == 92) = true := by rw [beq_iff_eq]; omega
  have hx1 : s[1].toNat < 256 := s[1].toNat_lt
  have e97 : ((s[1].toNat : Int) == 97) = false := by rw [beq_eq_false_iff_ne]; omega
  have e98 : ((s[1].toNat : Int) == 98) = false := by rw [beq_eq_false_iff_ne]; omega
  have e102 : ((s[1].toNat : Int) == 102) = false := by rw [beq_eq_false_iff_ne]; omega
  have e110 : ((s[1].toNat : Int) == 110) = false := by rw [beq_eq_false_iff_ne]; omega
  have e114 : ((s[1].toNat : Int) == 114) = false := by rw [beq_eq_false_iff_ne]; omega
  have e116 : ((s[1].toNat : Int) == 116) = false := by rw [beq_eq_false_iff_ne]; omega
  have e118 : ((s[1].toNat : Int) == 118) = false := by rw [beq_eq_false_iff_ne]; omega
  have e120 : ((s[1].toNat : Int) == 120) = false := by rw [beq_eq_false_iff_ne]; omega
  have e117 : ((s[1].toNat : Int) == 117) = false := by rw [beq_eq_false_iff_ne]; omega
  have e85 : ((s[1].toNat : Int) == 85) = false := by rw [beq_eq_false_iff_ne]; omega
  have e48 : ((s[1].toNat : Int) == 48) = false := by rw [beq_eq_false_iff_ne]; omega
  have e49 : ((s[1].toNat : Int) == 49) = true := by rw [beq_iff_eq]; omega
  obtain ⟨S, hS⟩ : ∃ S, s.extract 2 s.size = S := ⟨_, rfl⟩
  have hSz : S.size + 2 = s.size := by rw [← hS, ByteArray.size_extract]; omega
  have HN := Lib.hid (show UcNo s q from uc_vacno h1 h92 (by omega))
  by_cases hshort : S.size < 2
  · have hsh : (S.size : Int) < 2 := by omega
    clear hk h92 hq hSz
    go_enter Tryz.func63, Tryz.ntmps63
    go_wp2_with fail
    refine bodyPost_ret (results_tmp4 rfl _ _ _) rfl ?_
    exact uc_no HN.out (Below.refl _ _)
  · have HO := Lib.hid (show ∀ v : Int, -2147483648 ≤ v ∧ v ≤ 2147483647 → UcOk s q v false (S.extract 2 S.size) from fun v hv => uc_vac h1 h92 (by omega) (by rw [ByteArray.size_extract]; omega) hv)
    have hsh : ¬ (S.size : Int) < 2 := by omega
    have hsh2 : (2 : Int) ≤ S.size := by omega
    have hc7 : 0 ≤ (s[1].toNat : Int) - 48 := by omega
    have hc8 : (s[1].toNat : Int) - 48 ≤ 7 := by omega
    clear hk h92 hq hSz
    go_enter Tryz.func63, Tryz.ntmps63
    go_wp2_with fail
    go_loop [18, 17, 7] (fun jv vv ev => ∃ (k : Nat) (v : Int), k ≤ 2 ∧ jv = .int .i64 k ∧ vv = .int .i32 v ∧ ev = .nilIface ∧ -2147483648 ≤ v ∧ v ≤ 2147483647) (fun jv _ _ => 2 - (intOf jv).toNat)
    case atStart => exact ⟨0, _, by omega, rfl, rfl, rfl, by omega, by omega⟩
    case round =>
      obtain ⟨k, v, hk, rfl, rfl, rfl, hv1, hv2⟩ := hrel
      by_cases hlt : k < 2
      · have hkS : k < S.size := by omega
        have hkz : (k : Int) < S.size := by omega
        have hlz : (k : Int) < 2 := by omega
        have hxs : (S[k]'hkS).toNat < 256 := (S[k]'hkS).toNat_lt
        by_cases x0 : ((S[k]'hkS).toNat : Int) - 48 < 0
        · go_wp2_with fail
          refine bodyPost_ret (results_tmp4 rfl _ _ _) rfl ?_
          exact uc_no HN.out (Below.refl _ _)
        · by_cases x7 : (7 : Int) < ((S[k]'hkS).toNat : Int) - 48
          · go_wp2_with fail
            refine bodyPost_ret (results_tmp4 rfl _ _ _) rfl ?_
            exact uc_no HN.out (Below.refl _ _)
          · have hw := bits_within .or .i32 (RowKit.wrap32 (v * 8)) (((S[k]'hkS).toNat : Int) - 48)
            have HW := Lib.hid hw
            clear hw
            go_wp2_with fail
            go_round
            case rel => exact ⟨k + 1, _, by omega, by go_num, rfl, rfl, HW.out.1, HW.out.2⟩
            case measure => simp [intOf]; omega
      · obtain rfl : k = 2 := by omega
        have hno := Lib.hid (HO.out v ⟨hv1, hv2⟩)
        by_cases v255 : (255 : Int) < v
        · go_wp2_with fail
          refine bodyPost_ret (results_tmp4 rfl _ _ _) rfl ?_
          exact uc_no HN.out (Below.refl _ _)
        · go_wp2_with fail
          refine bodyPost_ret (results_tmp4 rfl _ _ _) rfl ?_
          exact uc_ok hno.out (Below.refl _ _)
set_option maxHeartbeats 2000000 in
set_option maxRecDepth 100000 in
theorem uc_50 (s : ByteArray) (q : UInt8) (w : World) (ht : Glob w) (h1 : 1 < s.size) (hz : s.size ≤ 1000000000) (hq : q.toNat = 34 ∨ q.toNat = 39) (h92 : (s[0]'(by omega)).toNat = 92) (hk : s[1].toNat = 50) :
    Calls Tryz.prog 63 #[.string s, .int .u8 q.toNat] w (UcPost s q w) := by
  obtain ⟨tp, p, herr⟩ := ht.err
  have hp : 0 < s.size := by omega
  have f0 : ((s.size : Int) == 0) = false := by rw [beq_eq_false_iff_ne]; omega
  have g0 : (0 : Int) < s.size := by omega
  have g1 : (1 : Int) < s.size := by omega
  have g2 : (2 : Int) ≤ s.size := by omega
  have n1 : ¬ (s.size : Int) ≤ 1 := by omega
  have fq : (((s[0]'hp).toNat : Int) == q.toNat) = false := by rw [beq_eq_false_iff_ne]; omega
  have f2 : ¬ (128 : Int) ≤ (s[0]'hp).toNat := by omega
  have f3 : (((s[0]'hp).toNat : Int) == 92) = true := by rw [beq_iff_eq]; omega
  have hx1 : s[1].toNat < 256 := s[1].toNat_lt
  have e97 : ((s[1].toNat : Int) == 97) = false := by rw [beq_eq_false_iff_ne]; omega
  have e98 : ((s[1].toNat : Int) == 98) = false := by rw [beq_eq_false_iff_ne]; omega
  have e102 : ((s[1].toNat : Int) == 102) = false := by rw [beq_eq_false_iff_ne]; omega
  have e110 : ((s[1].toNat : Int) == 110) = false := by rw [beq_eq_false_iff_ne]; omega
  have e114 : ((s[1].toNat : Int) == 114) = false := by rw [beq_eq_false_iff_ne]; omega
  have e116 : ((s[1].toNat : Int) == 116) = false := by rw [beq_eq_false_iff_ne]; omega
  have e118 : ((s[1].toNat : Int) == 118) = false := by rw [beq_eq_false_iff_ne]; omega
  have e120 : ((s[1].toNat : Int) == 120) = false := by rw [beq_eq_false_iff_ne]; omega
  have e117 : ((s[1].toNat : Int) == 117) = false := by rw [beq_eq_false_iff_ne]; omega
  have e85 : ((s[1].toNat : Int) == 85) = false := by rw [beq_eq_false_iff_ne]; omega
  have e48 : ((s[1].toNat : Int) == 48) = false := by rw [beq_eq_false_iff_ne]; omega
  have e49 : ((s[1].toNat : Int) == 49) = false := by rw [beq_eq_false_iff_ne]; omega
  have e50 : ((s[1].toNat : Int) == 50) = true := by rw [beq_iff_eq]; omega
  obtain ⟨S, hS⟩ : ∃ S, s.extract 2 s.size = S := ⟨_, rfl⟩
  have hSz : S.size + 2 = s.size := by rw [← hS, ByteArray.size_extract]; omega
  have HN := Lib.hid (show UcNo s q from uc_vacno h1 h92 (by omega))
  by_cases hshort : S.size < 2
  · have hsh : (S.size : Int) < 2 := by omega
    clear hk h92 hq hSz
    go_enter Tryz.func63, Tryz.ntmps63
    go_wp2_with fail
    refine bodyPost_ret (results_tmp4 rfl _ _ _) rfl ?_
    exact uc_no HN.out (Below.refl _ _)
  · have HO := Lib.hid (show ∀ v : Int, -2147483648 ≤ v ∧ v ≤ 2147483647 → UcOk s q v false (S.extract 2 S.size) from fun v hv => uc_vac h1 h92 (by omega) (by rw [ByteArray.size_extract]; omega) hv)
    have hsh : ¬ (S.size : Int) < 2 := by omega
    have hsh2 : (2 : Int) ≤ S.size := by omega
    have hc7 : 0 ≤ (s[1].toNat : Int) - 48 := by omega
    have hc8 : (s[1].toNat : Int) - 48 ≤ 7 := by omega
    clear hk h92 hq hSz
    go_enter Tryz.func63, Tryz.ntmps63
    go_wp2_with fail
    go_loop [18, 17, 7] (fun jv vv ev => ∃ (k : Nat) (v : Int), k ≤ 2 ∧ jv = .int .i64 k ∧ vv = .int .i32 v ∧ ev = .nilIface ∧ -2147483648 ≤ v ∧ v ≤ 2147483647) (fun jv _ _ => 2 - (intOf jv).toNat)
    case atStart => exact ⟨0, _, by omega, rfl, rfl, rfl, by omega, by omega⟩
    case round =>
      obtain ⟨k, v, hk, rfl, rfl, rfl, hv1, hv2⟩ := hrel
      by_cases hlt : k < 2
      · have hkS : k < S.size := by omega
        have hkz : (k : Int) < S.size := by omega
        have hlz : (k : Int) < 2 := by omega
        have hxs : (S[k]'hkS).toNat < 256 := (S[k]'hkS).toNat_lt
        by_cases x0 : ((S[k]'hkS).toNat : Int) - 48 < 0
        · go_wp2_with fail
          refine bodyPost_ret (results_tmp4 rfl _ _ _) rfl ?_
          exact uc_no HN.out (Below.refl _ _)
        · by_cases x7 : (7 : Int) < ((S[k]'hkS).toNat : Int) - 48
          · go_wp2_with fail
            refine bodyPost_ret (results_tmp4 rfl _ _ _) rfl ?_
            exact uc_no HN.out (Below.refl _ _)
          · have hw := bits_within .or .i32 (RowKit.wrap32 (v * 8)) (((S[k]'hkS).toNat : Int) - 48)
            have HW := Lib.hid hw
            clear hw
            go_wp2_with fail
            go_round
            case rel => exact ⟨k + 1, _, by omega, by go_num, rfl, rfl, HW.out.1, HW.out.2⟩
            case measure => simp [intOf]; omega
      · obtain rfl : k = 2 := by omega
        have hno := Lib.hid (HO.out v ⟨hv1, hv2⟩)
        by_cases v255 : (255 : Int) < v
        · go_wp2_with fail
          refine bodyPost_ret (results_tmp4 rfl _ _ _) rfl ?_
          exact uc_no HN.out (Below.refl _ _)
        · go_wp2_with fail
          refine bodyPost_ret (results_tmp4 rfl _ _ _) rfl ?_
          exact uc_ok hno.out (Below.refl _ _)
set_option maxHeartbeats 2000000 in
set_option maxRecDepth 100000 in
theorem uc_51 (s : ByteArray) (q : UInt8) (w : World) (ht : Glob w) (h1 : 1 < s.size) (hz : s.size ≤ 1000000000) (hq : q.toNat = 34 ∨ q.toNat = 39) (h92 : (s[0]'(by omega)).toNat = 92) (hk : s[1].toNat = 51) :
    Calls Tryz.prog 63 #[.string s, .int .u8 q.toNat] w (UcPost s q w) := by
  obtain ⟨tp, p, herr⟩ := ht.err
  have hp : 0 < s.size := by omega
  have f0 : ((s.size : Int) == 0) = false := by rw [beq_eq_false_iff_ne]; omega
  have g0 : (0 : Int) < s.size := by omega
  have g1 : (1 : Int) < s.size := by omega
  have g2 : (2 : Int) ≤ s.size := by omega
  have n1 : ¬ (s.size : Int) ≤ 1 := by omega
  have fq : (((s[0]'hp).toNat : Int) == q.toNat) = false := by rw [beq_eq_false_iff_ne]; omega
  have f2 : ¬ (128 : Int) ≤ (s[0]'hp).toNat := by omega
  have f3 : (((s[0]'hp).toNat : Int) == 92) = true := by rw [beq_iff_eq]; omega
  have hx1 : s[1].toNat < 256 := s[1].toNat_lt
  have e97 : ((s[1].toNat : Int) == 97) = false := by rw [beq_eq_false_iff_ne]; omega
  have e98 : ((s[1].toNat : Int) == 98) = false := by rw [beq_eq_false_iff_ne]; omega
  have e102 : ((s[1].toNat : Int) == 102) = false := by rw [beq_eq_false_iff_ne]; omega
  have e110 : ((s[1].toNat : Int) == 110) = false := by rw [beq_eq_false_iff_ne]; omega
  have e114 : ((s[1].toNat : Int) == 114) = false := by rw [beq_eq_false_iff_ne]; omega
  have e116 : ((s[1].toNat : Int) == 116) = false := by rw [beq_eq_false_iff_ne]; omega
  have e118 : ((s[1].toNat : Int) == 118) = false := by rw [beq_eq_false_iff_ne]; omega
  have e120 : ((s[1].toNat : Int) == 120) = false := by rw [beq_eq_false_iff_ne]; omega
  have e117 : ((s[1].toNat : Int) == 117) = false := by rw [beq_eq_false_iff_ne]; omega
  have e85 : ((s[1].toNat : Int) == 85) = false := by rw [beq_eq_false_iff_ne]; omega
  have e48 : ((s[1].toNat : Int) == 48) = false := by rw [beq_eq_false_iff_ne]; omega
  have e49 : ((s[1].toNat : Int) == 49) = false := by rw [beq_eq_false_iff_ne]; omega
  have e50 : ((s[1].toNat : Int) == 50) = false := by rw [beq_eq_false_iff_ne]; omega
  have e51 : ((s[1].toNat : Int) == 51) = true := by rw [beq_iff_eq]; omega
  obtain ⟨S, hS⟩ : ∃ S, s.extract 2 s.size = S := ⟨_, rfl⟩
  have hSz : S.size + 2 = s.size := by rw [← hS, ByteArray.size_extract]; omega
  have HN := Lib.hid (show UcNo s q from uc_vacno h1 h92 (by omega))
  by_cases hshort : S.size < 2
  · have hsh : (S.size : Int) < 2 := by omega
    clear hk h92 hq hSz
    go_enter Tryz.func63, Tryz.ntmps63
    go_wp2_with fail
    refine bodyPost_ret (results_tmp4 rfl _ _ _) rfl ?_
    exact uc_no HN.out (Below.refl _ _)
  · have HO := Lib.hid (show ∀ v : Int, -2147483648 ≤ v ∧ v ≤ 2147483647 → UcOk s q v false (S.extract 2 S.size) from fun v hv => uc_vac h1 h92 (by omega) (by rw [ByteArray.size_extract]; omega) hv)
    have hsh : ¬ (S.size : Int) < 2 := by omega
    have hsh2 : (2 : Int) ≤ S.size := by omega
    have hc7 : 0 ≤ (s[1].toNat : Int) - 48 := by omega
    have hc8 : (s[1].toNat : Int) - 48 ≤ 7 := by omega
    clear hk h92 hq hSz
    go_enter Tryz.func63, Tryz.ntmps63
    go_wp2_with fail
    go_loop [18, 17, 7] (fun jv vv ev => ∃ (k : Nat) (v : Int), k ≤ 2 ∧ jv = .int .i64 k ∧ vv = .int .i32 v ∧ ev = .nilIface ∧ -2147483648 ≤ v ∧ v ≤ 2147483647) (fun jv _ _ => 2 - (intOf jv).toNat)
    case atStart => exact ⟨0, _, by omega, rfl, rfl, rfl, by omega, by omega⟩
    case round =>
      obtain ⟨k, v, hk, rfl, rfl, rfl, hv1, hv2⟩ := hrel
      by_cases hlt : k < 2
      · have hkS : k < S.size := by omega
        have hkz : (k : Int) < S.size := by omega
        have hlz : (k : Int) < 2 := by omega
        have hxs : (S[k]'hkS).toNat < 256 := (S[k]'hkS).toNat_lt
        by_cases x0 : ((S[k]'hkS).toNat : Int) - 48 < 0
        · go_wp2_with fail
          refine bodyPost_ret (results_tmp4 rfl _ _ _) rfl ?_
          exact uc_no HN.out (Below.refl _ _)
        · by_cases x7 : (7 : Int) < ((S[k]'hkS).toNat : Int) - 48
          · go_wp2_with fail
            refine bodyPost_ret (results_tmp4 rfl _ _ _) rfl ?_
            exact uc_no HN.out (Below.refl _ _)
          · have hw := bits_within .or .i32 (RowKit.wrap32 (v * 8)) (((S[k]'hkS).toNat : Int) - 48)
            have HW := Lib.hid hw
            clear hw
            go_wp2_with fail
            go_round
            case rel => exact ⟨k + 1, _, by omega, by go_num, rfl, rfl, HW.out.1, HW.out.2⟩
            case measure => simp [intOf]; omega
      · obtain rfl : k = 2 := by omega
        have hno := Lib.hid (HO.out v ⟨hv1, hv2⟩)
        by_cases v255 : (255 : Int) < v
        · go_wp2_with fail
          refine bodyPost_ret (results_tmp4 rfl _ _ _) rfl ?_
          exact uc_no HN.out (Below.refl _ _)
        · go_wp2_with fail
          refine bodyPost_ret (results_tmp4 rfl _ _ _) rfl ?_
          exact uc_ok hno.out (Below.refl _ _)
set_option maxHeartbeats 2000000 in
set_option maxRecDepth 100000 in
theorem uc_52 (s : ByteArray) (q : UInt8) (w : World) (ht : Glob w) (h1 : 1 < s.size) (hz : s.size ≤ 1000000000) (hq : q.toNat = 34 ∨ q.toNat = 39) (h92 : (s[0]'(by omega)).toNat = 92) (hk : s[1].toNat = 52) :
    Calls Tryz.prog 63 #[.string s, .int .u8 q.toNat] w (UcPost s q w) := by
  obtain ⟨tp, p, herr⟩ := ht.err
  have hp : 0 < s.size := by omega
  have f0 : ((s.size : Int) == 0) = false := by rw [beq_eq_false_iff_ne]; omega
  have g0 : (0 : Int) < s.size := by omega
  have g1 : (1 : Int) < s.size := by omega
  have g2 : (2 : Int) ≤ s.size := by omega
  have n1 : ¬ (s.size : Int) ≤ 1 := by omega
  have fq : (((s[0]'hp).toNat : Int) == q.toNat) = false := by rw [beq_eq_false_iff_ne]; omega
  have f2 : ¬ (128 : Int) ≤ (s[0]'hp).toNat := by omega
  have f3 : (((s[0]'hp).toNat : Int) == 92) = true := by rw [beq_iff_eq]; omega
  have hx1 : s[1].toNat < 256 := s[1].toNat_lt
  have e97 : ((s[1].toNat : Int) == 97) = false := by rw [beq_eq_false_iff_ne]; omega
  have e98 : ((s[1].toNat : Int) == 98) = false := by rw [beq_eq_false_iff_ne]; omega
  have e102 : ((s[1].toNat : Int) == 102) = false := by rw [beq_eq_false_iff_ne]; omega
  have e110 : ((s[1].toNat : Int) == 110) = false := by rw [beq_eq_false_iff_ne]; omega
  have e114 : ((s[1].toNat : Int) == 114) = false := by rw [beq_eq_false_iff_ne]; omega
  have e116 : ((s[1].toNat : Int) == 116) = false := by rw [beq_eq_false_iff_ne]; omega
  have e118 : ((s[1].toNat : Int) == 118) = false := by rw [beq_eq_false_iff_ne]; omega
  have e120 : ((s[1].toNat : Int) == 120) = false := by rw [beq_eq_false_iff_ne]; omega
  have e117 : ((s[1].toNat : Int) == 117) = false := by rw [beq_eq_false_iff_ne]; omega
  have e85 : ((s[1].toNat : Int) == 85) = false := by rw [beq_eq_false_iff_ne]; omega
  have e48 : ((s[1].toNat : Int) == 48) = false := by rw [beq_eq_false_iff_ne]; omega
  have e49 : ((s[1].toNat : Int) == 49) = false := by rw [beq_eq_false_iff_ne]; omega
  have e50 : ((s[1].toNat : Int) == 50) = false := by rw [beq_eq_false_iff_ne]; omega
  have e51 : ((s[1].toNat : Int) == 51) = false := by rw [beq_eq_false_iff_ne]; omega
  have e52 : ((s[1].toNat : Int) == 52) = true := by rw [beq_iff_eq]; omega
  obtain ⟨S, hS⟩ : ∃ S, s.extract 2 s.size = S := ⟨_, rfl⟩
  have hSz : S.size + 2 = s.size := by rw [← hS, ByteArray.size_extract]; omega
  have HN := Lib.hid (show UcNo s q from uc_vacno h1 h92 (by omega))
  by_cases hshort : S.size < 2
  · have hsh : (S.size : Int) < 2 := by omega
    clear hk h92 hq hSz
    go_enter Tryz.func63, Tryz.ntmps63
    go_wp2_with fail
    refine bodyPost_ret (results_tmp4 rfl _ _ _) rfl ?_
    exact uc_no HN.out (Below.refl _ _)
  · have HO := Lib.hid (show ∀ v : Int, -2147483648 ≤ v ∧ v ≤ 2147483647 → UcOk s q v false (S.extract 2 S.size) from fun v hv => uc_vac h1 h92 (by omega) (by rw [ByteArray.size_extract]; omega) hv)
    have hsh : ¬ (S.size : Int) < 2 := by omega
    have hsh2 : (2 : Int) ≤ S.size := by omega
    have hc7 : 0 ≤ (s[1].toNat : Int) - 48 := by omega
    have hc8 : (s[1].toNat : Int) - 48 ≤ 7 := by omega
    clear hk h92 hq hSz
    go_enter Tryz.func63, Tryz.ntmps63
    go_wp2_with fail
    go_loop [18, 17, 7] (fun jv vv ev => ∃ (k : Nat) (v : Int), k ≤ 2 ∧ jv = .int .i64 k ∧ vv = .int .i32 v ∧ ev = .nilIface ∧ -2147483648 ≤ v ∧ v ≤ 2147483647) (fun jv _ _ => 2 - (intOf jv).toNat)
    case atStart => exact ⟨0, _, by omega, rfl, rfl, rfl, by omega, by omega⟩
    case round =>
      obtain ⟨k, v, hk, rfl, rfl, rfl, hv1, hv2⟩ := hrel
      by_cases hlt : k < 2
      · have hkS : k < S.size := by omega
        have hkz : (k : Int) < S.size := by omega
        have hlz : (k : Int) < 2 := by omega
        have hxs : (S[k]'hkS).toNat < 256 := (S[k]'hkS).toNat_lt
        by_cases x0 : ((S[k]'hkS).toNat : Int) - 48 < 0
        · go_wp2_with fail
          refine bodyPost_ret (results_tmp4 rfl _ _ _) rfl ?_
          exact uc_no HN.out (Below.refl _ _)
        · by_cases x7 : (7 : Int) < ((S[k]'hkS).toNat : Int) - 48
          · go_wp2_with fail
            refine bodyPost_ret (results_tmp4 rfl _ _ _) rfl ?_
            exact uc_no HN.out (Below.refl _ _)
          · have hw := bits_within .or .i32 (RowKit.wrap32 (v * 8)) (((S[k]'hkS).toNat : Int) - 48)
            have HW := Lib.hid hw
            clear hw
            go_wp2_with fail
            go_round
            case rel => exact ⟨k + 1, _, by omega, by go_num, rfl, rfl, HW.out.1, HW.out.2⟩
            case measure => simp [intOf]; omega
      · obtain rfl : k = 2 := by omega
        have hno := Lib.hid (HO.out v ⟨hv1, hv2⟩)
        by_cases v255 : (255 : Int) < v
        · go_wp2_with fail
          refine bodyPost_ret (results_tmp4 rfl _ _ _) rfl ?_
          exact uc_no HN.out (Below.refl _ _)
        · go_wp2_with fail
          refine bodyPost_ret (results_tmp4 rfl _ _ _) rfl ?_
          exact uc_ok hno.out (Below.refl _ _)
set_option maxHeartbeats 2000000 in
set_option maxRecDepth 100000 in
theorem uc_53 (s : ByteArray) (q : UInt8) (w : World) (ht : Glob w) (h1 : 1 < s.size) (hz : s.size ≤ 1000000000) (hq : q.toNat = 34 ∨ q.toNat = 39) (h92 : (s[0]'(by omega)).toNat = 92) (hk : s[1].toNat = 53) :
    Calls Tryz.prog 63 #[.string s, .int .u8 q.toNat] w (UcPost s q w) := by
  obtain ⟨tp, p, herr⟩ := ht.err
  have hp : 0 < s.size := by omega
  have f0 : ((s.size : Int) == 0) = false := by rw [beq_eq_false_iff_ne]; omega
  have g0 : (0 : Int) < s.size := by omega
  have g1 : (1 : Int) < s.size := by omega
  have g2 : (2 : Int) ≤ s.size := by omega
  have n1 : ¬ (s.size : Int) ≤ 1 := by omega
  have fq : (((s[0]'hp).toNat : Int) == q.toNat) = false := by rw [beq_eq_false_iff_ne]; omega
  have f2 : ¬ (128 : Int) ≤ (s[0]'hp).toNat := by omega
  have f3 : (((s[0]'hp).toNat : Int) == 92) = true := by rw [beq_iff_eq]; omega
  have hx1 : s[1].toNat < 256 := s[1].toNat_lt
  have e97 : ((s[1].toNat : Int) == 97) = false := by rw [beq_eq_false_iff_ne]; omega
  have e98 : ((s[1].toNat : Int) == 98) = false := by rw [beq_eq_false_iff_ne]; omega
  have e102 : ((s[1].toNat : Int) == 102) = false := by rw [beq_eq_false_iff_ne]; omega
  have e110 : ((s[1].toNat : Int) == 110) = false := by rw [beq_eq_false_iff_ne]; omega
  have e114 : ((s[1].toNat : Int) == 114) = false := by rw [beq_eq_false_iff_ne]; omega
  have e116 : ((s[1].toNat : Int) == 116) = false := by rw [beq_eq_false_iff_ne]; omega
  have e118 : ((s[1].toNat : Int) == 118) = false := by rw [beq_eq_false_iff_ne]; omega
  have e120 : ((s[1].toNat : Int) == 120) = false := by rw [beq_eq_false_iff_ne]; omega
  have e117 : ((s[1].toNat : Int) == 117) = false := by rw [beq_eq_false_iff_ne]; omega
  have e85 : ((s[1].toNat : Int) == 85) = false := by rw [beq_eq_false_iff_ne]; omega
  have e48 : ((s[1].toNat : Int) == 48) = false := by rw [beq_eq_false_iff_ne]; omega
  have e49 : ((s[1].toNat : Int) == 49) = false := by rw [beq_eq_false_iff_ne]; omega
  have e50 : ((s[1].toNat : Int) == 50) = false := by rw [beq_eq_false_iff_ne]; omega
  have e51 : ((s[1].toNat : Int) == 51) = false := by rw [beq_eq_false_iff_ne]; omega
  have e52 : ((s[1].toNat : Int) == 52) = false := by rw [beq_eq_false_iff_ne]; omega
  have e53 : ((s[1].toNat : Int) == 53) = true := by rw [beq_iff_eq]; omega
  obtain ⟨S, hS⟩ : ∃ S, s.extract 2 s.size = S := ⟨_, rfl⟩
  have hSz : S.size + 2 = s.size := by rw [← hS, ByteArray.size_extract]; omega
  have HN := Lib.hid (show UcNo s q from uc_vacno h1 h92 (by omega))
  by_cases hshort : S.size < 2
  · have hsh : (S.size : Int) < 2 := by omega
    clear hk h92 hq hSz
    go_enter Tryz.func63, Tryz.ntmps63
    go_wp2_with fail
    refine bodyPost_ret (results_tmp4 rfl _ _ _) rfl ?_
    exact uc_no HN.out (Below.refl _ _)
  · have HO := Lib.hid (show ∀ v : Int, -2147483648 ≤ v ∧ v ≤ 2147483647 → UcOk s q v false (S.extract 2 S.size) from fun v hv => uc_vac h1 h92 (by omega) (by rw [ByteArray.size_extract]; omega) hv)
    have hsh : ¬ (S.size : Int) < 2 := by omega
    have hsh2 : (2 : Int) ≤ S.size := by omega
    have hc7 : 0 ≤ (s[1].toNat : Int) - 48 := by omega
    have hc8 : (s[1].toNat : Int) - 48 ≤ 7 := by omega
    clear hk h92 hq hSz
    go_enter Tryz.func63, Tryz.ntmps63
    go_wp2_with fail
    go_loop [18, 17, 7] (fun jv vv ev => ∃ (k : Nat) (v : Int), k ≤ 2 ∧ jv = .int .i64 k ∧ vv = .int .i32 v ∧ ev = .nilIface ∧ -2147483648 ≤ v ∧ v ≤ 2147483647) (fun jv _ _ => 2 - (intOf jv).toNat)
    case atStart => exact ⟨0, _, by omega, rfl, rfl, rfl, by omega, by omega⟩
    case round =>
      obtain ⟨k, v, hk, rfl, rfl, rfl, hv1, hv2⟩ := hrel
      by_cases hlt : k < 2
      · have hkS : k < S.size := by omega
        have hkz : (k : Int) < S.size := by omega
        have hlz : (k : Int) < 2 := by omega
        have hxs : (S[k]'hkS).toNat < 256 := (S[k]'hkS).toNat_lt
        by_cases x0 : ((S[k]'hkS).toNat : Int) - 48 < 0
        · go_wp2_with fail
          refine bodyPost_ret (results_tmp4 rfl _ _ _) rfl ?_
          exact uc_no HN.out (Below.refl _ _)
        · by_cases x7 : (7 : Int) < ((S[k]'hkS).toNat : Int) - 48
          · go_wp2_with fail
            refine bodyPost_ret (results_tmp4 rfl _ _ _) rfl ?_
            exact uc_no HN.out (Below.refl _ _)
          · have hw := bits_within .or .i32 (RowKit.wrap32 (v * 8)) (((S[k]'hkS).toNat : Int) - 48)
            have HW := Lib.hid hw
            clear hw
            go_wp2_with fail
            go_round
            case rel => exact ⟨k + 1, _, by omega, by go_num, rfl, rfl, HW.out.1, HW.out.2⟩
            case measure => simp [intOf]; omega
      · obtain rfl : k = 2 := by omega
        have hno := Lib.hid (HO.out v ⟨hv1, hv2⟩)
        by_cases v255 : (255 : Int) < v
        · go_wp2_with fail
          refine bodyPost_ret (results_tmp4 rfl _ _ _) rfl ?_
          exact uc_no HN.out (Below.refl _ _)
        · go_wp2_with fail
          refine bodyPost_ret (results_tmp4 rfl _ _ _) rfl ?_
          exact uc_ok hno.out (Below.refl _ _)
set_option maxHeartbeats 2000000 in
set_option maxRecDepth 100000 in
theorem uc_54 (s : ByteArray) (q : UInt8) (w : World) (ht : Glob w) (h1 : 1 < s.size) (hz : s.size ≤ 1000000000) (hq : q.toNat = 34 ∨ q.toNat = 39) (h92 : (s[0]'(by omega)).toNat = 92) (hk : s[1].toNat = 54) :
    Calls Tryz.prog 63 #[.string s, .int .u8 q.toNat] w (UcPost s q w) := by
  obtain ⟨tp, p, herr⟩ := ht.err
  have hp : 0 < s.size := by omega
  have f0 : ((s.size : Int) == 0) = false := by rw [beq_eq_false_iff_ne]; omega
  have g0 : (0 : Int) < s.size := by omega
  have g1 : (1 : Int) < s.size := by omega
  have g2 : (2 : Int) ≤ s.size := by omega
  have n1 : ¬ (s.size : Int) ≤ 1 := by omega
  have fq : (((s[0]'hp).toNat : Int) == q.toNat) = false := by rw [beq_eq_false_iff_ne]; omega
  have f2 : ¬ (128 : Int) ≤ (s[0]'hp).toNat := by omega
  have f3 : (((s[0]'hp).toNat : Int) == 92) = true := by rw [beq_iff_eq]; omega
  have hx1 : s[1].toNat < 256 := s[1].toNat_lt
  have e97 : ((s[1].toNat : Int) == 97) = false := by rw [beq_eq_false_iff_ne]; omega
  have e98 : ((s[1].toNat : Int) == 98) = false := by rw [beq_eq_false_iff_ne]; omega
  have e102 : ((s[1].toNat : Int) == 102) = false := by rw [beq_eq_false_iff_ne]; omega
  have e110 : ((s[1].toNat : Int) == 110) = false := by rw [beq_eq_false_iff_ne]; omega
  have e114 : ((s[1].toNat : Int) == 114) = false := by rw [beq_eq_false_iff_ne]; omega
  have e116 : ((s[1].toNat : Int) == 116) = false := by rw [beq_eq_false_iff_ne]; omega
  have e118 : ((s[1].toNat : Int) == 118) = false := by rw [beq_eq_false_iff_ne]; omega
  have e120 : ((s[1].toNat : Int) == 120) = false := by rw [beq_eq_false_iff_ne]; omega
  have e117 : ((s[1].toNat : Int) == 117) = false := by rw [beq_eq_false_iff_ne]; omega
  have e85 : ((s[1].toNat : Int) == 85) = false := by rw [beq_eq_false_iff_ne]; omega
  have e48 : ((s[1].toNat : Int) == 48) = false := by rw [beq_eq_false_iff_ne]; omega
  have e49 : ((s[1].toNat : Int) == 49) = false := by rw [beq_eq_false_iff_ne]; omega
  have e50 : ((s[1].toNat : Int) == 50) = false := by rw [beq_eq_false_iff_ne]; omega
  have e51 : ((s[1].toNat : Int) == 51) = false := by rw [beq_eq_false_iff_ne]; omega
  have e52 : ((s[1].toNat : Int) == 52) = false := by rw [beq_eq_false_iff_ne]; omega
  have e53 : ((s[1].toNat : Int) == 53) = false := by rw [beq_eq_false_iff_ne]; omega
  have e54 : ((s[1].toNat : Int) == 54) = true := by rw [beq_iff_eq]; omega
  obtain ⟨S, hS⟩ : ∃ S, s.extract 2 s.size = S := ⟨_, rfl⟩
  have hSz : S.size + 2 = s.size := by rw [← hS, ByteArray.size_extract]; omega
  have HN := Lib.hid (show UcNo s q from uc_vacno h1 h92 (by omega))
  by_cases hshort : S.size < 2
  · have hsh : (S.size : Int) < 2 := by omega
    clear hk h92 hq hSz
    go_enter Tryz.func63, Tryz.ntmps63
    go_wp2_with fail
    refine bodyPost_ret (results_tmp4 rfl _ _ _) rfl ?_
    exact uc_no HN.out (Below.refl _ _)
  · have HO := Lib.hid (show ∀ v : Int, -2147483648 ≤ v ∧ v ≤ 2147483647 → UcOk s q v false (S.extract 2 S.size) from fun v hv => uc_vac h1 h92 (by omega) (by rw [ByteArray.size_extract]; omega) hv)
    have hsh : ¬ (S.size : Int) < 2 := by omega
    have hsh2 : (2 : Int) ≤ S.size := by omega
    have hc7 : 0 ≤ (s[1].toNat : Int) - 48 := by omega
    have hc8 : (s[1].toNat : Int) - 48 ≤ 7 := by omega
    clear hk h92 hq hSz
    go_enter Tryz.func63, Tryz.ntmps63
    go_wp2_with fail
    go_loop [18, 17, 7] (fun jv vv ev => ∃ (k : Nat) (v : Int), k ≤ 2 ∧ jv = .int .i64 k ∧ vv = .int .i32 v ∧ ev = .nilIface ∧ -2147483648 ≤ v ∧ v ≤ 2147483647) (fun jv _ _ => 2 - (intOf jv).toNat)
    case atStart => exact ⟨0, _, by omega, rfl, rfl, rfl, by omega, by omega⟩
    case round =>
      obtain ⟨k, v, hk, rfl, rfl, rfl, hv1, hv2⟩ := hrel
      by_cases hlt : k < 2
      · have hkS : k < S.size := by omega
        have hkz : (k : Int) < S.size := by omega
        have hlz : (k : Int) < 2 := by omega
        have hxs : (S[k]'hkS).toNat < 256 := (S[k]'hkS).toNat_lt
        by_cases x0 : ((S[k]'hkS).toNat : Int) - 48 < 0
        · go_wp2_with fail
          refine bodyPost_ret (results_tmp4 rfl _ _ _) rfl ?_
          exact uc_no HN.out (Below.refl _ _)
        · by_cases x7 : (7 : Int) < ((S[k]'hkS).toNat : Int) - 48
          · go_wp2_with fail
            refine bodyPost_ret (results_tmp4 rfl _ _ _) rfl ?_
            exact uc_no HN.out (Below.refl _ _)
          · have hw := bits_within .or .i32 (RowKit.wrap32 (v * 8)) (((S[k]'hkS).toNat : Int) - 48)
            have HW := Lib.hid hw
            clear hw
            go_wp2_with fail
            go_round
            case rel => exact ⟨k + 1, _, by omega, by go_num, rfl, rfl, HW.out.1, HW.out.2⟩
            case measure => simp [intOf]; omega
      · obtain rfl : k = 2 := by omega
        have hno := Lib.hid (HO.out v ⟨hv1, hv2⟩)
        by_cases v255 : (255 : Int) < v
        · go_wp2_with fail
          refine bodyPost_ret (results_tmp4 rfl _ _ _) rfl ?_
          exact uc_no HN.out (Below.refl _ _)
        · go_wp2_with fail
          refine bodyPost_ret (results_tmp4 rfl _ _ _) rfl ?_
          exact uc_ok hno.out (Below.refl _ _)
set_option maxHeartbeats 2000000 in
set_option maxRecDepth 100000 in
theorem uc_55 (s : ByteArray) (q : UInt8) (w : World) (ht : Glob w) (h1 : 1 < s.size) (hz : s.size ≤ 1000000000) (hq : q.toNat = 34 ∨ q.toNat = 39) (h92 : (s[0]'(by omega)).toNat = 92) (hk : s[1].toNat = 55) :
    Calls Tryz.prog 63 #[.string s, .int .u8 q.toNat] w (UcPost s q w) := by
  obtain ⟨tp, p, herr⟩ := ht.err
  have hp : 0 < s.size := by omega
  have f0 : ((s.size : Int) == 0) = false := by rw [beq_eq_false_iff_ne]; omega
  have g0 : (0 : Int) < s.size := by omega
  have g1 : (1 : Int) < s.size := by omega
  have g2 : (2 : Int) ≤ s.size := by omega
  have n1 : ¬ (s.size : Int) ≤ 1 := by omega
  have fq : (((s[0]'hp).toNat : Int) == q.toNat) = false := by rw [beq_eq_false_iff_ne]; omega
  have f2 : ¬ (128 : Int) ≤ (s[0]'hp).toNat := by omega
  have f3 : (((s[0]'hp).toNat : Int) == 92) = true := by rw [beq_iff_eq]; omega
  have hx1 : s[1].toNat < 256 := s[1].toNat_lt
  have e97 : ((s[1].toNat : Int) == 97) = false := by rw [beq_eq_false_iff_ne]; omega
  have e98 : ((s[1].toNat : Int) == 98) = false := by rw [beq_eq_false_iff_ne]; omega
  have e102 : ((s[1].toNat : Int) == 102) = false := by rw [beq_eq_false_iff_ne]; omega
  have e110 : ((s[1].toNat : Int) == 110) = false := by rw [beq_eq_false_iff_ne]; omega
  have e114 : ((s[1].toNat : Int) == 114) = false := by rw [beq_eq_false_iff_ne]; omega
  have e116 : ((s[1].toNat : Int) == 116) = false := by rw [beq_eq_false_iff_ne]; omega
  have e118 : ((s[1].toNat : Int) == 118) = false := by rw [beq_eq_false_iff_ne]; omega
  have e120 : ((s[1].toNat : Int) == 120) = false := by rw [beq_eq_false_iff_ne]; omega
  have e117 : ((s[1].toNat : Int) == 117) = false := by rw [beq_eq_false_iff_ne]; omega
  have e85 : ((s[1].toNat : Int) == 85) = false := by rw [beq_eq_false_iff_ne]; omega
  have e48 : ((s[1].toNat : Int) == 48) = false := by rw [beq_eq_false_iff_ne]; omega
  have e49 : ((s[1].toNat : Int) == 49) = false := by rw [beq_eq_false_iff_ne]; omega
  have e50 : ((s[1].toNat : Int) == 50) = false := by rw [beq_eq_false_iff_ne]; omega
  have e51 : ((s[1].toNat : Int) == 51) = false := by rw [beq_eq_false_iff_ne]; omega
  have e52 : ((s[1].toNat : Int) == 52) = false := by rw [beq_eq_false_iff_ne]; omega
  have e53 : ((s[1].toNat : Int) == 53) = false := by rw [beq_eq_false_iff_ne]; omega
  have e54 : ((s[1].toNat : Int) == 54) = false := by rw [beq_eq_false_iff_ne]; omega
  have e55 : ((s[1].toNat : Int) == 55) = true := by rw [beq_iff_eq]; omega
  obtain ⟨S, hS⟩ : ∃ S, s.extract 2 s.size = S := ⟨_, rfl⟩
  have hSz : S.size + 2 = s.size := by rw [← hS, ByteArray.size_extract]; omega
  have HN := Lib.hid (show UcNo s q from uc_vacno h1 h92 (by omega))
  by_cases hshort : S.size < 2
  · have hsh : (S.size : Int) < 2 := by omega
    clear hk h92 hq hSz
    go_enter Tryz.func63, Tryz.ntmps63
    go_wp2_with fail
    refine bodyPost_ret (results_tmp4 rfl _ _ _) rfl ?_
    exact uc_no HN.out (Below.refl _ _)
  · have HO := Lib.hid (show ∀ v : Int, -2147483648 ≤ v ∧ v ≤ 2147483647 → UcOk s q v false (S.extract 2 S.size) from fun v hv => uc_vac h1 h92 (by omega) (by rw [ByteArray.size_extract]; omega) hv)
    have hsh : ¬ (S.size : Int) < 2 := by omega
    have hsh2 : (2 : Int) ≤ S.size := by omega
    have hc7 : 0 ≤ (s[1].toNat : Int) - 48 := by omega
    have hc8 : (s[1].toNat : Int) - 48 ≤ 7 := by omega
    clear hk h92 hq hSz
    go_enter Tryz.func63, Tryz.ntmps63
    go_wp2_with fail
    go_loop [18, 17, 7] (fun jv vv ev => ∃ (k : Nat) (v : Int), k ≤ 2 ∧ jv = .int .i64 k ∧ vv = .int .i32 v ∧ ev = .nilIface ∧ -2147483648 ≤ v ∧ v ≤ 2147483647) (fun jv _ _ => 2 - (intOf jv).toNat)
    case atStart => exact ⟨0, _, by omega, rfl, rfl, rfl, by omega, by omega⟩
    case round =>
      obtain ⟨k, v, hk, rfl, rfl, rfl, hv1, hv2⟩ := hrel
      by_cases hlt : k < 2
      · have hkS : k < S.size := by omega
        have hkz : (k : Int) < S.size := by omega
        have hlz : (k : Int) < 2 := by omega
        have hxs : (S[k]'hkS).toNat < 256 := (S[k]'hkS).toNat_lt
        by_cases x0 : ((S[k]'hkS).toNat : Int) - 48 < 0
        · go_wp2_with fail
          refine bodyPost_ret (results_tmp4 rfl _ _ _) rfl ?_
          exact uc_no HN.out (Below.refl _ _)
        · by_cases x7 : (7 : Int) < ((S[k]'hkS).toNat : Int) - 48
          · go_wp2_with fail
            refine bodyPost_ret (results_tmp4 rfl _ _ _) rfl ?_
            exact uc_no HN.out (Below.refl _ _)
          · have hw := bits_within .or .i32 (RowKit.wrap32 (v * 8)) (((S[k]'hkS).toNat : Int) - 48)
            have HW := Lib.hid hw
            clear hw
            go_wp2_with fail
            go_round
            case rel => exact ⟨k + 1, _, by omega, by go_num, rfl, rfl, HW.out.1, HW.out.2⟩
            case measure => simp [intOf]; omega
      · obtain rfl : k = 2 := by omega
        have hno := Lib.hid (HO.out v ⟨hv1, hv2⟩)
        by_cases v255 : (255 : Int) < v
        · go_wp2_with fail
          refine bodyPost_ret (results_tmp4 rfl _ _ _) rfl ?_
          exact uc_no HN.out (Below.refl _ _)
        · go_wp2_with fail
          refine bodyPost_ret (results_tmp4 rfl _ _ _) rfl ?_
          exact uc_ok hno.out (Below.refl _ _)
/-- ████ strconv.UnquoteChar, whatever the string. -/
theorem uc_any (s : ByteArray) (q : UInt8) (w : World) (ht : Glob w) (hz : s.size ≤ 1000000000) (hq : q.toNat = 34 ∨ q.toNat = 39) :
    Calls Tryz.prog 63 #[.string s, .int .u8 q.toNat] w (UcPost s q w) := by
  by_cases h0 : s.size = 0
  · exact uc_empty s q w ht h0
  have hp : 0 < s.size := by omega
  by_cases hq0 : s[0] = q
  · exact uc_quote s q w ht hp hz hq hq0
  by_cases h128 : 128 ≤ (s[0]'hp).toNat
  · exact uc_high s q w ht hp hz hq hq0 h128
  by_cases h92 : (s[0]'hp).toNat = 92
  case neg => exact uc_plain s q w ht hp hz hq hq0 (by omega) h92
  by_cases h1 : 1 < s.size
  case neg => exact uc_alone s q w ht (by omega) hq h92
  by_cases c97 : s[1].toNat = 97
  · exact uc_97 s q w ht h1 hz hq h92 c97
  by_cases c98 : s[1].toNat = 98
  · exact uc_98 s q w ht h1 hz hq h92 c98
  by_cases c102 : s[1].toNat = 102
  · exact uc_102 s q w ht h1 hz hq h92 c102
  by_cases c110 : s[1].toNat = 110
  · exact uc_110 s q w ht h1 hz hq h92 c110
  by_cases c114 : s[1].toNat = 114
  · exact uc_114 s q w ht h1 hz hq h92 c114
  by_cases c116 : s[1].toNat = 116
  · exact uc_116 s q w ht h1 hz hq h92 c116
  by_cases c118 : s[1].toNat = 118
  · exact uc_118 s q w ht h1 hz hq h92 c118
  by_cases c120 : s[1].toNat = 120
  · exact uc_120 s q w ht h1 hz hq h92 c120
  by_cases c117 : s[1].toNat = 117
  · exact uc_117 s q w ht h1 hz hq h92 c117
  by_cases c85 : s[1].toNat = 85
  · exact uc_85 s q w ht h1 hz hq h92 c85
  by_cases c48 : s[1].toNat = 48
  · exact uc_48 s q w ht h1 hz hq h92 c48
  by_cases c49 : s[1].toNat = 49
  · exact uc_49 s q w ht h1 hz hq h92 c49
  by_cases c50 : s[1].toNat = 50
  · exact uc_50 s q w ht h1 hz hq h92 c50
  by_cases c51 : s[1].toNat = 51
  · exact uc_51 s q w ht h1 hz hq h92 c51
  by_cases c52 : s[1].toNat = 52
  · exact uc_52 s q w ht h1 hz hq h92 c52
  by_cases c53 : s[1].toNat = 53
  · exact uc_53 s q w ht h1 hz hq h92 c53
  by_cases c54 : s[1].toNat = 54
  · exact uc_54 s q w ht h1 hz hq h92 c54
  by_cases c55 : s[1].toNat = 55
  · exact uc_55 s q w ht h1 hz hq h92 c55
  by_cases c92 : s[1].toNat = 92
  · exact uc_92 s q w ht h1 hz hq h92 c92
  by_cases c39 : s[1].toNat = 39
  · by_cases hs : s[1] = q
    · exact uc_39q s q w ht h1 hz hq h92 c39 hs
    · exact uc_39n s q w ht h1 hz hq h92 c39 hs
  by_cases c34 : s[1].toNat = 34
  · by_cases hs : s[1] = q
    · exact uc_34q s q w ht h1 hz hq h92 c34 hs
    · exact uc_34n s q w ht h1 hz hq h92 c34 hs
  exact uc_else s q w ht h1 hz hq h92 ⟨c97, c98, c102, c110, c114, c116, c118, c120, c117, c85, c48, c49, c50, c51, c52, c53, c54, c55, c92, c39, c34⟩
end Go.Proofs.YteccccpjhpbebaaGreatDoor
