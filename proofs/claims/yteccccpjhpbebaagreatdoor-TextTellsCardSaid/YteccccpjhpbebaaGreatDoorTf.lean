/-
  PACKAGE text: Fields.
-/
import Derived.Test.YteccccpjhpbebaaGreatDoorTl
import Derived.Deep.Onto
namespace Go.Proofs.YteccccpjhpbebaaGreatDoor
open Go.RowKit WireM
set_option linter.unusedVariables false
set_option linter.unusedSimpArgs false

def whiteAt (s : ByteArray) (i : Nat) : Bool := if h : i < s.size then white s[i] else true
set_option maxHeartbeats 1000000 in
theorem white_any (b : Nat) (s : ByteArray) (i : Nat) (w : World) (hc : w.cell? ⟨b, 0, none⟩ = some (.string s)) (hi : i ≤ s.size) (hs : s.size ≤ 1000000000) :
    Calls Tryz.prog 36 #[.int .i64 i, .pointer (some ⟨b, 0, none⟩)] w fun e w' => e = .returned (.bool (whiteAt s i)) ∧ w = w' := by
  have h63 : (s.size : Int) ≤ 1000000000 := by omega
  by_cases hlt : i < s.size
  · have f0 : ((i : Int) == s.size) = false := by rw [beq_eq_false_iff_ne]; omega
    have g0 : (i : Int) < s.size := by omega
    have HW := Lib.hid (show whiteAt s i = white s[i] by unfold whiteAt; rw [dif_pos hlt])
    have hx : s[i].toNat < 256 := s[i].toNat_lt
    generalize hcc : s[i] = c at *
    by_cases h1 : c.toNat = 32
    · have f1 : ((c.toNat : Int) == 32) = true := by rw [beq_iff_eq]; omega
      have HR := Lib.hid (show whiteAt s i = true by rw [HW.out]; unfold white; simp [h1])
      clear h1
      go_enter Tryz.func36, Tryz.ntmps36
      go_wp2_with fail
      go_ret
      exact ⟨by rw [HR.out]; rfl, rfl⟩
    · have f1 : ((c.toNat : Int) == 32) = false := by rw [beq_eq_false_iff_ne]; omega
      by_cases h2 : c.toNat = 9
      · have f2 : ((c.toNat : Int) == 9) = true := by rw [beq_iff_eq]; omega
        have HR := Lib.hid (show whiteAt s i = true by rw [HW.out]; unfold white; simp [h2])
        clear h1 h2
        go_enter Tryz.func36, Tryz.ntmps36
        go_wp2_with fail
        go_ret
        exact ⟨by rw [HR.out]; rfl, rfl⟩
      · have f2 : ((c.toNat : Int) == 9) = false := by rw [beq_eq_false_iff_ne]; omega
        by_cases h3 : c.toNat = 10
        · have f3 : ((c.toNat : Int) == 10) = true := by rw [beq_iff_eq]; omega
          have HR := Lib.hid (show whiteAt s i = true by rw [HW.out]; unfold white; simp [h3])
          clear h1 h2 h3
          go_enter Tryz.func36, Tryz.ntmps36
          go_wp2_with fail
          go_ret
          exact ⟨by rw [HR.out]; rfl, rfl⟩
        · have f3 : ((c.toNat : Int) == 10) = false := by rw [beq_eq_false_iff_ne]; omega
          have HR := Lib.hid (show whiteAt s i = false by rw [HW.out]; unfold white; simp [h1, h2, h3])
          clear h1 h2 h3
          go_enter Tryz.func36, Tryz.ntmps36
          go_wp2_with fail
          go_ret
          exact ⟨by rw [HR.out]; rfl, rfl⟩
  · have f0 : ((i : Int) == s.size) = true := by rw [beq_iff_eq]; omega
    have HR := Lib.hid (show whiteAt s i = true by unfold whiteAt; rw [dif_neg hlt])
    go_enter Tryz.func36, Tryz.ntmps36
    go_wp2_with fail
    go_ret
    exact ⟨by rw [HR.out]; rfl, rfl⟩

/-- What is left to be done at place k, with a field that begins at st. -/
def FdLeft (s : ByteArray) (k st : Nat) : List (List UInt8) :=
  if k ≤ s.size then fieldsGo ((s.data.toList.take k).drop st) (s.data.toList.drop k) else []
theorem fd_cur {s : ByteArray} {k st : Nat} (hk : k ≤ s.size) : ((s.data.toList.take k).drop st = [] ↔ ¬ st < k) := by
  have e : ((s.data.toList.take k).drop st).length = k - st := by
    rw [List.length_drop, List.length_take]
    have : s.data.toList.length = s.size := by simp
    omega
  constructor
  · intro h; rw [h] at e; simp at e; omega
  · intro h; exact List.eq_nil_of_length_eq_zero (by omega)
theorem fd_white {s : ByteArray} {k st : Nat} (hk : k ≤ s.size) (hw : whiteAt s k = true) : FdLeft s k st = (if st < k then [(s.data.toList.take k).drop st] else []) ++ FdLeft s (k + 1) (k + 1) := by
  have es : s.data.toList.length = s.size := by simp
  have hc := fd_cur (s := s) (st := st) hk
  have hif : (if (s.data.toList.take k).drop st = [] then ([] : List (List UInt8)) else [(s.data.toList.take k).drop st]) = if st < k then [(s.data.toList.take k).drop st] else [] := by
    by_cases h : st < k
    · rw [if_pos h, if_neg (fun e => hc.1 e h)]
    · rw [if_neg h, if_pos (hc.2 h)]
  unfold FdLeft
  rw [if_pos hk]
  by_cases hlt : k < s.size
  · unfold whiteAt at hw
    rw [dif_pos hlt] at hw
    rw [if_pos (show k + 1 ≤ s.size by omega), drop_at s k hlt, fieldsGo, if_pos hw, hif]
    congr 2
    rw [List.drop_of_length_le]
    rw [List.length_take]; omega
  · rw [if_neg (show ¬ k + 1 ≤ s.size by omega), List.append_nil, ← hif, List.drop_of_length_le (show s.data.toList.length ≤ k by omega), fieldsGo]
theorem fd_black {s : ByteArray} {k st : Nat} (hlt : k < s.size) (hst : st ≤ k) (hw : whiteAt s k = false) : FdLeft s k st = FdLeft s (k + 1) st := by
  have es : s.data.toList.length = s.size := by simp
  unfold FdLeft
  unfold whiteAt at hw
  rw [dif_pos hlt] at hw
  rw [if_pos (Nat.le_of_lt hlt), if_pos (show k + 1 ≤ s.size by omega), drop_at s k hlt, fieldsGo, if_neg (by rw [hw]; decide), take_snoc s k hlt, List.drop_append_of_le_length]
  rw [List.length_take]; omega
/-- What the loop of Fields holds. -/
def FdAt (s : ByteArray) (w : World) (k st : Nat) (v : Value) (wr : World) : Prop :=
  ∃ acc, RowAt w acc v wr ∧ acc.length ≤ k ∧ fieldsOf s.data.toList = acc ++ FdLeft s k st
set_option maxHeartbeats 2000000 in
set_option maxRecDepth 100000 in
theorem fields_any (s : ByteArray) (hs : s.size ≤ 1000000000) (w : World) :
    Calls Tryz.prog 18 #[.string s] w fun e w' => ∃ v, e = .returned v ∧ RowAt w (fieldsOf s.data.toList) v w' := by
  obtain ⟨w0, hw0⟩ : ∃ w0, w.alloc (.cells #[.string s] 9) = w0 := ⟨_, rfl⟩
  have hsz : w0.heap.size = w.heap.size + 1 := by rw [← hw0]; simp
  have hbel : Below w.heap.size w w0 := by rw [← hw0]; exact (Below.refl _ w).alloc (Nat.le_refl _) _
  have hbox : w0.cell? ⟨w.heap.size, 0, none⟩ = some (.string s) := by rw [← hw0]; simp
  have hst : FdAt s w0 0 0 (.slice none 0 0) w0 := ⟨[], row_nil (Below.refl _ _), Nat.zero_le _, by simp [FdLeft, fieldsOf]⟩
  have HSZ := Lib.hid hsz
  have HW0 := Lib.hid hw0
  clear hsz hw0
  have h63 : (s.size : Int) ≤ 1000000000 := by omega
  go_enter Tryz.func18, Tryz.ntmps18
  go_wp2_with fail
  rw [HW0.out]
  go_wp2_with fail
  go_loopw [11, 5, 4] (fun i t v wr => ∃ k st : Nat, k ≤ s.size + 1 ∧ st ≤ k ∧ i = .int .i64 k ∧ t = .int .i64 st ∧ FdAt s w0 k st v wr) (fun i _ _ _ => s.size + 1 - (intOf i).toNat)
  case atStart => exact ⟨0, 0, Nat.zero_le _, Nat.le_refl _, rfl, rfl, hst⟩
  case round =>
    obtain ⟨k, st, hk, hstk, rfl, rfl, acc, hrow, hacc, hleft⟩ := hrel
    have HF := Lib.hid hleft
    clear hst hleft
    have hc : wr.cell? ⟨w.heap.size, 0, none⟩ = some (.string s) := by
      rw [hrow.2.cell (p := ⟨w.heap.size, 0, none⟩) (by show w.heap.size < _; rw [HSZ.out]; omega)]; exact hbox
    by_cases hlt : k < s.size + 1
    · have hlz : (k : Int) < s.size + 1 := by omega
      have hks : k ≤ s.size := by omega
      cases hw : whiteAt s k with
      | true =>
        have HL := Lib.hid (fd_white (st := st) hks hw)
        have HW := Lib.hid hw
        clear hw
        by_cases hb : st < k
        · have hbz : (st : Int) < k := by omega
          have hsl := fun W => slice_at s st k (k : Int) rfl (by omega) hks W
          go_wp2_with fail
          go_at_call 36
          refine (white_any w.heap.size s k _ hc hks hs).mono ?_
          rintro e w2 ⟨rfl, rfl⟩
          rw [HW.out]
          go_wp2_with (at_builtin; refine append_row rfl _ _ rfl _ hrow rfl rfl (by omega) ?_; intro v' w3 hb3)
          have hfd : FdAt s w0 (k + 1) (k + 1) v' w3 := ⟨_, hb3, by rw [List.length_append, List.length_singleton]; omega, by
            rw [HF.out, HL.out, if_pos hb, List.append_assoc]
            congr 2
            rw [Lib.extract_data, List.drop_take]⟩
          clear hb3 hsl hrow
          go_wp2_with fail
          go_roundw
          case rel => exact ⟨k + 1, k + 1, by omega, by omega, by go_num, by go_num, hfd⟩
          case measure => simp [intOf]; omega
        · have hbz : ¬ (st : Int) < k := by omega
          go_wp2_with fail
          go_at_call 36
          refine (white_any w.heap.size s k _ hc hks hs).mono ?_
          rintro e w2 ⟨rfl, rfl⟩
          rw [HW.out]
          have hfd : FdAt s w0 (k + 1) (k + 1) _ wr := ⟨_, hrow, by omega, by rw [HF.out, HL.out, if_neg hb]; rfl⟩
          clear hrow
          go_wp2_with fail
          go_roundw
          case rel => exact ⟨k + 1, k + 1, by omega, by omega, by go_num, by go_num, hfd⟩
          case measure => simp [intOf]; omega
      | false =>
        have hlt2 : k < s.size := by
          rcases Nat.lt_or_ge k s.size with h' | h'
          · exact h'
          · unfold whiteAt at hw; rw [dif_neg (by omega)] at hw; cases hw
        have HL := Lib.hid (fd_black (st := st) hlt2 hstk hw)
        have HW := Lib.hid hw
        clear hw
        go_wp2_with fail
        go_at_call 36
        refine (white_any w.heap.size s k _ hc hks hs).mono ?_
        rintro e w2 ⟨rfl, rfl⟩
        rw [HW.out]
        have hfd : FdAt s w0 (k + 1) st _ wr := ⟨_, hrow, by omega, by rw [HF.out, HL.out]⟩
        clear hrow
        go_wp2_with fail
        go_roundw
        case rel => exact ⟨k + 1, st, by omega, by omega, by go_num, rfl, hfd⟩
        case measure => simp [intOf]; omega
    · obtain rfl : k = s.size + 1 := by omega
      have hlz : ¬ ((s.size + 1 : Nat) : Int) < s.size + 1 := by omega
      have HR := Lib.hid (show fieldsOf s.data.toList = acc by rw [HF.out]; unfold FdLeft; rw [if_neg (by omega), List.append_nil])
      go_wp2_with fail
      go_ret
      refine ⟨_, rfl, ?_⟩
      rw [HR.out]
      exact ⟨World.ownsRow.mono hrow.1 (by rw [HSZ.out]; omega), hbel.trans (hrow.2.mono (by rw [HSZ.out]; omega))⟩
end Go.Proofs.YteccccpjhpbebaaGreatDoor
