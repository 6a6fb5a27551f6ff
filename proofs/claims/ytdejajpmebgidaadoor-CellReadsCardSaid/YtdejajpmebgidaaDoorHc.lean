/-
  THE REFERENCE OF LAYER 3: Size, fits, pending, Read.
-/
import Derived.Test.YtdejajpmebgidaaDoorHb
namespace Go.Proofs.YtdejajpmebgidaaDoor
open Go.RowKit Go.Maps WireM DiskM
set_option linter.unusedVariables false
set_option linter.unusedSimpArgs false
set_option maxRecDepth 100000

theorem field_one (x y z : Value) (W : World) : (Instr.field 76 (.agg #[x, y, z]) 1).run Tryd.prog W = .ok y W := by
  simp [Instr.field, underlying, Tryd.underlying76, part, asAgg, Result.andThen]
theorem rsize_any {w : World} {r : Nat} {s : St} {q : RP} (h : R0 w r s q) (f : Int) : Calls Tryd.prog 27 #[.pointer (some ⟨r, 0, none⟩), .int .i64 f] w fun e w' => e = .returned (.int .i64 (s.size f)) ∧ Below w.heap.size w w' := by
  have G := Lib.hid (get_any h f)
  have hl : (bs (s.now f)).size = s.size f := rfl
  generalize bs (s.now f) = N at *
  generalize bs (s.last f) = L at *
  have HL := Lib.hid hl
  have fo := field_one (.int .i64 f) (.string N) (.string L)
  clear h hl
  go_enter Tryd.func27, Tryd.ntmps27
  go_wp2_with (go_at_call 42; refine G.out.mono ?_; rintro e w1 ⟨rfl, b1⟩; have B1 := Lib.hid b1; clear b1 G)
  go_ret
  exact ⟨by rw [← HL.out]; rfl, B1.out⟩
theorem fits_any (a : Int) (t : ByteArray) (w : World) (ha : InI a) (ht : t.size ≤ 1099511627776) : Calls Tryd.prog 48 #[.int .i64 a, .string t] w fun e w' => e = .returned (.bool (decide (0 ≤ a ∧ a + t.size ≤ 16777216))) ∧ w = w' := by
  by_cases h0 : 0 ≤ a
  · by_cases h1 : a ≤ 16777216
    · have hw : wrap64 (a + (t.size : Int)) = a + (t.size : Int) := by unfold wrap64; omega
      by_cases h2 : a + (t.size : Int) ≤ 16777216
      · rw [show decide (0 ≤ a ∧ a + (t.size : Int) ≤ 16777216) = true from decide_eq_true ⟨h0, h2⟩]
        go_enter Tryd.func48, Tryd.ntmps48
        go_wp2
        go_ret
        first | exact ⟨rfl, rfl⟩ | exact ⟨by simp [hw, h2], rfl⟩
      · rw [show decide (0 ≤ a ∧ a + (t.size : Int) ≤ 16777216) = false from decide_eq_false (fun h => h2 h.2)]
        go_enter Tryd.func48, Tryd.ntmps48
        go_wp2
        go_ret
        first | exact ⟨rfl, rfl⟩ | exact ⟨by simp [hw, h2], rfl⟩
    · rw [show decide (0 ≤ a ∧ a + (t.size : Int) ≤ 16777216) = false from decide_eq_false (fun h => by omega)]
      go_enter Tryd.func48, Tryd.ntmps48
      go_wp2
      go_ret
      exact ⟨rfl, rfl⟩
  · rw [show decide (0 ≤ a ∧ a + (t.size : Int) ≤ 16777216) = false from decide_eq_false (fun h => by omega)]
    go_enter Tryd.func48, Tryd.ntmps48
    go_wp2
    go_ret
    exact ⟨rfl, rfl⟩
end Go.Proofs.YtdejajpmebgidaaDoor
