/-
  strconv.unquote: a raw string.
-/
import Derived.Test.YteccccpjhpbebaaGreatDoorTe
namespace Go.Proofs.YteccccpjhpbebaaGreatDoor
open Go.RowKit WireM
set_option linter.unusedVariables false
set_option linter.unusedSimpArgs false

set_option maxHeartbeats 4000000 in
set_option maxRecDepth 1000000 in
theorem uq_raw (s : ByteArray) (q : UInt8) (i : Nat) (w : World) (ht : Glob w) (h2 : 2 ≤ s.size) (hz : s.size ≤ 100000000) (hq : s[0] = q) (hi : ix (s.data.toList.drop 1) q = i) (h96 : q.toNat = 96) (hr : hasB (s.extract 0 (i + 2)).data.toList 13 = false) :
    Calls Tryz.prog 45 #[.string s, .bool true] w (UqPost s w) := by
  have hp0 : 0 < s.size := by omega
  have g0 : ¬ (s.size : Int) < 2 := by omega
  have g1 : (0 : Int) < s.size := by omega
  have g2 : (1 : Int) ≤ s.size := by omega
  have hc := index_any (s.extract 1 s.size) q w
  rw [tail_bs0, bs_data, hi, ← tail_bs0] at hc
  have HC := Lib.hid hc
  have hil := (ix_some hi).1
  rw [List.length_drop] at hil
  have es : s.data.toList.length = s.size := by simp
  rw [es] at hil
  have i2 : i + 2 ≤ s.size := by omega
  have i3 : (i : Int) + 2 ≤ s.size := by omega
  have i4 : ¬ (i : Int) < 0 := by omega
  have i5 : (i : Int) ≤ 100000000 := by omega
  have s1 := fun W => slice_to s (i + 2) ((i : Int) + 2) (by omega) i2 W
  have s2 := fun W => slice_mid s 1 (i + 1) 1 ((i : Int) + 2 - 1) (by omega) (by omega) (by omega) (by omega) W
  have s3 := fun W => slice_from s (i + 2) ((i : Int) + 2) (by omega) i2 W
  have hn := Lib.hid (noq_other hp0 (by rw [hq]; omega))
  have e96 : ((q.toNat : Int) == 96) = true := by rw [beq_iff_eq]; omega
  have hcon := contains_any (s.extract 0 (i + 2)) 13 w
  rw [hr] at hcon
  have HCON := Lib.hid hcon
  have o1 : (s.extract 1 (i + 1)).size ≤ 4 * s.size := by rw [ByteArray.size_extract]; omega
  have o2 : (s.extract (i + 2) s.size).size ≤ s.size := by rw [ByteArray.size_extract]; omega
  clear hi hc es h96 hr hcon
  go_enter Tryz.func45, Tryz.ntmps45
  go_wp2_with fail
  go_at_call 59
  refine HC.out.mono ?_
  rintro e w1 ⟨rfl, rfl⟩
  go_wp2_with fail
  go_at_call 60
  refine HCON.out.mono ?_
  rintro e w1 ⟨rfl, rfl⟩
  go_wp2_with fail
  go_quiet (fail)
  go_wp2_with fail
  go_ret3
  exact uq_yes (fun t ht => absurd ht (hn.out t)) o1 o2 (Go.below_drewN (Below.refl _ _) _)
theorem cr_end {s : ByteArray} {q : UInt8} {i : Nat} (h2 : i + 2 ≤ s.size) (hq : (s[0]'(by omega)) = q) (h96 : q.toNat = 96) (hi : ix (s.data.toList.drop 1) q = i) (hr : hasB (s.extract 0 (i + 2)).data.toList 13 = true) : 1 ≤ i := by
  obtain ⟨k, hk⟩ := hasB_yes hr
  rw [Lib.extract_data] at hk
  simp only [List.drop_zero, Nat.sub_zero] at hk
  rw [List.getElem?_take] at hk
  have n13 : (13 : UInt8).toNat = 13 := rfl
  rcases Nat.eq_zero_or_pos i with rfl | h
  · exfalso
    obtain ⟨_, i1, _⟩ := ix_some hi
    rw [List.getElem?_drop] at i1
    split at hk
    · rename_i hlt
      match k, hlt with
      | 0, _ =>
        rw [list_of0 s (by omega)] at hk
        simp at hk
        rw [hq] at hk; rw [hk] at h96; omega
      | 1, _ =>
        rw [hk] at i1
        injection i1 with i1
        rw [← i1] at h96; omega
    · cases hk
  · exact h
set_option maxHeartbeats 4000000 in
set_option maxRecDepth 1000000 in
theorem uq_rawcr (s : ByteArray) (q : UInt8) (i : Nat) (w : World) (ht : Glob w) (h2 : 2 ≤ s.size) (hz : s.size ≤ 100000000) (hq : s[0] = q) (hi : ix (s.data.toList.drop 1) q = i) (h96 : q.toNat = 96) (hr : hasB (s.extract 0 (i + 2)).data.toList 13 = true) :
    Calls Tryz.prog 45 #[.string s, .bool true] w (UqPost s w) := by
  have hp0 : 0 < s.size := by omega
  have g0 : ¬ (s.size : Int) < 2 := by omega
  have g1 : (0 : Int) < s.size := by omega
  have g2 : (1 : Int) ≤ s.size := by omega
  have hc := index_any (s.extract 1 s.size) q w
  rw [tail_bs0, bs_data, hi, ← tail_bs0] at hc
  have HC := Lib.hid hc
  have hil := (ix_some hi).1
  rw [List.length_drop] at hil
  have es : s.data.toList.length = s.size := by simp
  rw [es] at hil
  have i2 : i + 2 ≤ s.size := by omega
  have i3 : (i : Int) + 2 ≤ s.size := by omega
  have i4 : ¬ (i : Int) < 0 := by omega
  have i5 : (i : Int) ≤ 100000000 := by omega
  have s1 := fun W => slice_to s (i + 2) ((i : Int) + 2) (by omega) i2 W
  have s2 := fun W => slice_mid s 1 (i + 1) 1 ((i : Int) + 2 - 1) (by omega) (by omega) (by omega) (by omega) W
  have s3 := fun W => slice_from s (i + 2) ((i : Int) + 2) (by omega) i2 W
  have hge := cr_end i2 hq h96 hi hr
  have hn := Lib.hid (noq_other hp0 (by rw [hq]; omega))
  have e96 : ((q.toNat : Int) == 96) = true := by rw [beq_iff_eq]; omega
  have hcon := contains_any (s.extract 0 (i + 2)) 13 w
  rw [hr] at hcon
  have HCON := Lib.hid hcon
  have o2 : (s.extract (i + 2) s.size).size ≤ s.size := by rw [ByteArray.size_extract]; omega
  have mk := fun W => make_bytes (i - 1) ((i : Int) + 2 - 1 - 1 - 1) (by omega) (by omega) W
  have hbuf := made_buf (i - 1) (by omega) (Below.refl w.heap.size w)
  clear hi hc es h96 hr hcon
  go_enter Tryz.func45, Tryz.ntmps45
  go_wp2_with fail
  go_at_call 59
  refine HC.out.mono ?_
  rintro e w1 ⟨rfl, rfl⟩
  go_wp2_with fail
  go_at_call 60
  refine HCON.out.mono ?_
  rintro e w1 ⟨rfl, rfl⟩
  go_wp2_with fail
  go_loopw [10, 9] (fun x v wr => ∃ (k : Nat) (L : List UInt8), 1 ≤ k ∧ k ≤ i + 1 ∧ x = .int .i64 k ∧ L.length + 1 ≤ k ∧ BufAt w L v wr) (fun x _ _ => i + 1 - (intOf x).toNat)
  case atStart => exact ⟨1, [], Nat.le_refl _, by omega, rfl, Nat.le_refl _, hbuf⟩
  case round =>
    obtain ⟨k, L, hk1, hk, rfl, hL, hb⟩ := hrel
    clear hbuf mk
    by_cases hlt : k < i + 1
    · have hlz : (k : Int) < (i : Int) + 2 - 1 := by omega
      have hks : k < s.size := by omega
      have hkz : (k : Int) < s.size := by omega
      have hx : s[k].toNat < 256 := s[k].toNat_lt
      generalize hcc : s[k] = c at *
      by_cases h13 : c.toNat = 13
      · have f1 : ((c.toNat : Int) == 13) = true := by rw [beq_iff_eq]; omega
        clear h13
        go_wp2_with fail
        go_roundw
        case rel => exact ⟨k + 1, L, by omega, by omega, by go_num, by omega, hb⟩
        case measure => simp [intOf]; omega
      · have f1 : ((c.toNat : Int) == 13) = false := by rw [beq_eq_false_iff_ne]; omega
        clear h13
        go_wp2_with (at_builtin; refine append_buf rfl _ _ rfl [c] hb #[.int .u8 c.toNat] 1 rfl rfl rfl rfl (by omega) ?_; intro v' w3 hb3)
        clear hb
        go_wp2_with fail
        go_roundw
        case rel => exact ⟨k + 1, L ++ [c], by omega, by omega, by go_num, by simp; omega, hb3⟩
        case measure => simp [intOf]; omega
    · have hlz : ¬ (k : Int) < (i : Int) + 2 - 1 := by omega
      have hcv := buf_string hb
      have o1 : (bs L).size ≤ 4 * s.size := by rw [bs_size]; omega
      go_wp2_with fail
      go_quiet (fail)
      go_wp2_with fail
      go_ret3
      exact uq_yes (fun t ht => absurd ht (hn.out t)) o1 o2 (Go.below_drewN hb.2 _)
end Go.Proofs.YteccccpjhpbebaaGreatDoor
