/-
  PACKAGE text: Unlines and Escape.
-/
import Derived.Test.YteccccpjhpbebaaGreatDoorWk
import Derived.Test.YteccccpjhpbebaaGreatDoorTq
namespace Go.Proofs.YteccccpjhpbebaaGreatDoor
open Go.RowKit WireM
set_option linter.unusedVariables false
set_option linter.unusedSimpArgs false

/-- What a loop that writes into a Builder of its own holds at a round's head. -/
def WlAt (w : World) (xs : List UInt8) (wr : World) : Prop :=
  Lib.IsBuilder 47 5 w.heap.size w.heap.size (Lib.byteCells xs) wr ∧ Below w.heap.size w wr ∧ w.heap.size < wr.heap.size
theorem wl_start (w : World) : WlAt w [] (w.alloc (.cells #[.pointer none, .slice none 0 0] 47)) :=
  ⟨Lib.fresh_isBuilder 47 5 w, (Below.refl _ w).alloc (Nat.le_refl _) _, by simp⟩
theorem wl_byte {w wr w2 : World} {xs : List UInt8} {c : UInt8} (h : WlAt w xs wr) (hf : Lib.IsBuilder 47 5 w.heap.size w.heap.size (Lib.byteCells xs ++ [.int .u8 c.toNat]) w2) (hb : Below w.heap.size wr w2) : WlAt w (xs ++ [c]) w2 := by
  obtain ⟨h1, h2, h3⟩ := h
  refine ⟨?_, h2.trans hb, by have := hb.size; omega⟩
  simpa [Lib.byteCells] using hf
theorem wl_string {w wr w2 : World} {xs : List UInt8} {s : ByteArray} (h : WlAt w xs wr) (hf : Lib.IsBuilder 47 5 w.heap.size w.heap.size (Lib.byteCells xs ++ Lib.strCells s) w2) (hb : Below w.heap.size wr w2) : WlAt w (xs ++ s.data.toList) w2 := by
  obtain ⟨h1, h2, h3⟩ := h
  refine ⟨?_, h2.trans hb, by have := hb.size; omega⟩
  simpa [Lib.byteCells, Lib.strCells] using hf
theorem byteCells_len (xs : List UInt8) : (Lib.byteCells xs).length = xs.length := Lib.byteCells_length xs

def unlTo (L : List ByteArray) (k : Nat) : List UInt8 := unl ((L.take k).map (·.data.toList))
theorem unlTo_succ (L : List ByteArray) (k : Nat) (h : k < L.length) : unlTo L (k + 1) = (unlTo L k ++ (L.getD k .empty).data.toList) ++ [10] := by
  unfold unlTo
  rw [List.take_succ_eq_append_getElem h, List.map_append, unl_append]
  simp [unl, List.getD, h]
theorem unlTo_all (L : List ByteArray) : unlTo L L.length = unl (L.map (·.data.toList)) := by unfold unlTo; rw [List.take_length]
theorem unlTo_mono (L : List ByteArray) (k : Nat) : (unlTo L k).length ≤ (unl (L.map (·.data.toList))).length := by
  unfold unlTo
  conv => rhs; rw [← List.take_append_drop k L, List.map_append, unl_append, List.length_append]
  omega

set_option maxHeartbeats 1000000 in
theorem unlines_any (a : Option Addr) (cap : Nat) (L : List ByteArray) (w : World) (hr : (unl (L.map (·.data.toList))).length ≤ 1000000000)
    (hc : CellsAt w a (L.map Value.string)) :
    Calls Tryz.prog 16 #[.slice a L.length cap] w fun e w' => e = .returned (.string (bs (unl (L.map (·.data.toList))))) ∧ Below w.heap.size w w' := by
  have hll : L.length ≤ 1000000000 := by
    have := lines_sum (L.map (·.data.toList))
    rw [List.length_map] at this
    omega
  have hm : (L.length : Int) ≤ 9223372036854775807 := by omega
  have HL := Lib.hid (fun k => Nat.le_trans (unlTo_mono L k) hr)
  have HA := Lib.hid (unlTo_all L)
  have hst := wl_start w
  clear hr
  go_enter Tryz.func16, Tryz.ntmps16
  go_wp2_with fail
  go_loopw [8] (fun i wr => ∃ k : Nat, k ≤ L.length ∧ i = .int .i64 k ∧ WlAt w (unlTo L k) wr) (fun i _ => L.length - (intOf i).toNat)
  case atStart => exact ⟨0, Nat.zero_le _, rfl, hst⟩
  case round =>
    obtain ⟨k, hk, rfl, hwk⟩ := hrel
    clear hst
    obtain ⟨hb4, B4, hs4⟩ := hwk
    by_cases hlt : k < L.length
    · rcases hc with hc | ⟨b, o, rfl, hbs, hcells⟩
      · simp at hc; subst hc; simp at hlt
      · have hcell : wr.cell? ⟨b, o + k, none⟩ = some (.string (L.getD k .empty)) := by
          rw [B4.cell (p := ⟨b, o + k, none⟩) hbs, hcells k (by simpa using hlt)]
          simp [List.getD, hlt]
        have HS := Lib.hid (unlTo_succ L k hlt)
        have hz1 : (unlTo L (k + 1)).length ≤ 1000000000 := HL.out (k + 1)
        have hz2 : (unlTo L k).length + (L.getD k .empty).size + 1 = (unlTo L (k + 1)).length := by
          rw [HS.out]; simp; omega
        generalize hz0 : L.getD k .empty = z at *
        clear hz0 hcells
        have hl2 : (Lib.byteCells (unlTo L k)).length = (unlTo L k).length := byteCells_len _
        have HZ := Lib.hid hz2
        have HL2 := Lib.hid hl2
        have hz3 : (Lib.byteCells (unlTo L k)).length + z.size ≤ 140737488355328 := by omega
        clear hz2 hl2
        go_wp2_with fail
        go_at_call 33
        refine (writeString_any w.heap.size w.heap.size _ z _ hb4 hz3 (by omega)).mono ?_
        rintro e w5 ⟨rfl, h5, b5⟩
        have hw5 := wl_string ⟨hb4, B4, hs4⟩ h5 b5
        obtain ⟨hb6, B6, hs6⟩ := hw5
        have hl6 : (Lib.byteCells (unlTo L k ++ z.data.toList)).length + 1 ≤ 140737488355328 := by
          rw [byteCells_len, List.length_append]
          have := HZ.out
          have e : z.size = z.data.toList.length := by simp
          omega
        clear h5 b5 hb4 hz3
        go_wp2_with fail
        go_at_call 34
        refine (writeByte_any w.heap.size w.heap.size _ 10 w5 hb6 hl6 (by omega)).mono ?_
        rintro e w7 ⟨rfl, h7, b7⟩
        have hw7 : WlAt w (unlTo L (k + 1)) w7 := by
          rw [HS.out]
          exact wl_byte (c := 10) ⟨hb6, B6, hs6⟩ h7 b7
        clear h7 b7 hb6 hl6
        go_wp2_with fail
        go_roundw
        case rel => exact ⟨k + 1, by omega, by go_num, hw7⟩
        case measure => simp [intOf]; omega
    · obtain rfl : k = L.length := by omega
      rw [HA.out] at hb4
      go_wp2_with fail
      go_at_call 35
      refine (Tryz.Builder_String_any w.heap.size w.heap.size _ wr hb4 (by omega)).mono ?_
      rintro e w6 ⟨rfl, hb8⟩
      go_wp2_with fail
      go_ret
      exact ⟨rfl, B4.trans hb8⟩

def escTo (s : ByteArray) (k : Nat) : List UInt8 := escOf (s.data.toList.take k)
theorem escTo_succ (s : ByteArray) (k : Nat) (h : k < s.size) : escTo s (k + 1) = escTo s k ++ escB s[k] := by
  unfold escTo; rw [take_snoc s k h]; simp [escOf]
theorem escTo_all (s : ByteArray) : escTo s s.size = escOf s.data.toList := by
  unfold escTo; rw [List.take_of_length_le (by simp)]
theorem escTo_len (s : ByteArray) (k : Nat) (h : s.size ≤ 1000000000) : (escTo s k).length ≤ 2000000000 := by
  have := escOf_len (s.data.toList.take k)
  have h2 : (s.data.toList.take k).length ≤ s.size := by rw [List.length_take]; simp; omega
  unfold escTo; omega
set_option maxHeartbeats 1000000 in
theorem escape_any (s : ByteArray) (hs : s.size ≤ 1000000000) (w : World) :
    Calls Tryz.prog 26 #[.string s] w fun e w' => e = .returned (.string (bs (escOf s.data.toList))) ∧ Below w.heap.size w w' := by
  have HL := Lib.hid (fun k => escTo_len s k hs)
  have HA := Lib.hid (escTo_all s)
  have hst := wl_start w
  go_enter Tryz.func26, Tryz.ntmps26
  go_wp2_with fail
  go_loopw [7] (fun i wr => ∃ k : Nat, k ≤ s.size ∧ i = .int .i64 k ∧ WlAt w (escTo s k) wr) (fun i _ => s.size - (intOf i).toNat)
  case atStart => exact ⟨0, Nat.zero_le _, rfl, hst⟩
  case round =>
    obtain ⟨k, hk, rfl, hwk⟩ := hrel
    clear hst
    obtain ⟨hb4, B4, hs4⟩ := hwk
    have hl2 : (Lib.byteCells (escTo s k)).length ≤ 2000000000 := by rw [byteCells_len]; exact HL.out k
    by_cases hlt : k < s.size
    · have HS := Lib.hid (escTo_succ s k hlt)
      have hx : s[k].toNat < 256 := s[k].toNat_lt
      generalize hc : s[k] = c at *
      by_cases hsp : special c = true
      · have HE := Lib.hid (show escB c = [92, c] by unfold escB; rw [if_pos hsp])
        have hspec : ((c.toNat : Int) == 42) = true ∨ (((c.toNat : Int) == 42) = false ∧ ((c.toNat : Int) == 63) = true) ∨ (((c.toNat : Int) == 42) = false ∧ ((c.toNat : Int) == 63) = false ∧ ((c.toNat : Int) == 91) = true) ∨ (((c.toNat : Int) == 42) = false ∧ ((c.toNat : Int) == 63) = false ∧ ((c.toNat : Int) == 91) = false ∧ ((c.toNat : Int) == 92) = true) := by
          unfold special at hsp
          simp only [Bool.or_eq_true, beq_iff_eq, beq_eq_false_iff_ne] at hsp ⊢
          omega
        clear hsp
        rcases hspec with f1 | ⟨f1, f2⟩ | ⟨f1, f2, f3⟩ | ⟨f1, f2, f3, f4⟩
        all_goals
          go_wp2_with fail
          go_at_call 34
          refine (writeByte_any w.heap.size w.heap.size _ 92 wr hb4 (by omega) (by omega)).mono ?_
          rintro e w5 ⟨rfl, h5, b5⟩
          have hw5 := wl_byte (c := 92) ⟨hb4, B4, hs4⟩ h5 b5
          obtain ⟨hb6, B6, hs6⟩ := hw5
          have hl6 : (Lib.byteCells (escTo s k ++ [92])).length + 1 ≤ 140737488355328 := by
            rw [byteCells_len, List.length_append, List.length_singleton]
            have := HL.out k
            omega
          clear h5 b5
          go_wp2_with fail
          go_at_call 34
          refine (writeByte_any w.heap.size w.heap.size _ c.toNat w5 hb6 hl6 (by omega)).mono ?_
          rintro e w7 ⟨rfl, h7, b7⟩
          have hw7 : WlAt w (escTo s (k + 1)) w7 := by
            rw [HS.out, HE.out, show escTo s k ++ [92, c] = (escTo s k ++ [92]) ++ [c] by simp]
            exact wl_byte (c := c) ⟨hb6, B6, hs6⟩ h7 b7
          clear h7 b7 hb6 hl6 hb4
          go_wp2_with fail
          go_roundw
          case rel => exact ⟨k + 1, by omega, by go_num, hw7⟩
          case measure => simp [intOf]; omega
      · have HE := Lib.hid (show escB c = [c] by unfold escB; rw [if_neg hsp])
        have hspec : ((c.toNat : Int) == 42) = false ∧ ((c.toNat : Int) == 63) = false ∧ ((c.toNat : Int) == 91) = false ∧ ((c.toNat : Int) == 92) = false := by
          unfold special at hsp
          simp only [Bool.or_eq_true, beq_iff_eq, beq_eq_false_iff_ne, not_or] at hsp ⊢
          omega
        clear hsp
        obtain ⟨f1, f2, f3, f4⟩ := hspec
        go_wp2_with fail
        go_at_call 34
        refine (writeByte_any w.heap.size w.heap.size _ c.toNat wr hb4 (by omega) (by omega)).mono ?_
        rintro e w7 ⟨rfl, h7, b7⟩
        have hw7 : WlAt w (escTo s (k + 1)) w7 := by
          rw [HS.out, HE.out]
          exact wl_byte (c := c) ⟨hb4, B4, hs4⟩ h7 b7
        clear h7 b7 hb4
        go_wp2_with fail
        go_roundw
        case rel => exact ⟨k + 1, by omega, by go_num, hw7⟩
        case measure => simp [intOf]; omega
    · obtain rfl : k = s.size := by omega
      rw [HA.out] at hb4
      go_wp2_with fail
      go_at_call 35
      refine (Tryz.Builder_String_any w.heap.size w.heap.size _ wr hb4 (by omega)).mono ?_
      rintro e w6 ⟨rfl, hb8⟩
      go_wp2_with fail
      go_ret
      exact ⟨rfl, B4.trans hb8⟩
end Go.Proofs.YteccccpjhpbebaaGreatDoor
