/-
  FROM A ROW'S CONDITION ON THE LISTED VARIABLE (the offsets of the slots) TO WHAT THE WALKS ASK.
-/
import Derived.Test.YtdejajpmebgidaaDoorRows
import Derived.Test.YtdejajpmebgidaaDoorKa
import Derived.ProofKit
import Derived.LaidMore
import Derived.LaidLaws
import Derived.OpenShut
import Derived.ShutString
import Derived.ChangeOld
import Derived.Below
import Derived.Stop.Joined
import Derived.Lib.LaidTab
namespace Go.Proofs.YtdejajpmebgidaaDoor
open Go.ChangeShapes Go.WideShapes Go.ChangeAt Go.RowKit
open Go.ChangeMaps (open_string shut_string)
set_option linter.unusedVariables false
set_option linter.unusedSimpArgs false
set_option maxRecDepth 100000

theorem own : ownKnob Tryd.prog.godebug = none := by kernel_rfl
theorem laidOut : laidOutB Tryd.prog = true := by kernel_rfl
def laid1 : List (String × DataW Unit) := [("rehearsal/cell.slotAt", Rows.laid_rehearsal_cell_slotAt)]
/-- The door's own heap meets the condition. -/
theorem door_met (os : Os) (args : Array Value) : laidMetH Tryd.prog laid1 ((World.doorLaid Tryd.prog 400 os).forCall (fun _ _ => 0) ⟨#[], args, []⟩).memory :=
  laidMetH_of_parts3 (fuel := 8) (laidMet_of_run' 8 (by kernel_rfl) (by kernel_rfl)) (by kernel_rfl) (by kernel_rfl)
theorem gSlot : Tryd.prog.globalNamed "rehearsal/cell.slotAt" = some 0 := by kernel_rfl
theorem tSlot : (Tryd.prog.globals[ 0 ]?).map (·.type) = some 64 := by kernel_rfl
theorem dSlot : (Rows.laid_rehearsal_cell_slotAt : DataW Unit) = Lib.tabData .i64 [64, 131072] := by kernel_rfl
theorem of_laid {W : World} (h : laidMetH Tryd.prog laid1 W) : Slots W := by
  rw [MakeChecks.laidMetH_plain _ _ _ (by kernel_rfl)] at h
  obtain ⟨ps, ⟨g0, t0, cs0, f0, p0, q0, hg0, ht0, hv0, hd0, _⟩, _⟩ := h
  obtain rfl := Option.some.inj (gSlot.symm.trans hg0)
  obtain rfl := Option.some.inj (tSlot.symm.trans ht0)
  rw [dSlot] at hd0
  have hT : Lib.TabIs Tryd.prog W "rehearsal/cell.slotAt" .i64 [64, 131072] := by
    unfold Lib.TabIs
    rw [hv0, ← Lib.cells_of_tab Tryd.underlying64 Tryd.underlying3 (by kernel_rfl) (by kernel_rfl) hd0]
  refine ⟨?_, hT.cell gSlot 0 (by decide), hT.cell gSlot 1 (by decide)⟩
  have h0 := hT.cell gSlot 0 (by decide)
  rcases Nat.lt_or_ge 0 W.heap.size with h' | h'
  · exact h'
  · simp [World.cell?, Array.getElem?_eq_none h'] at h0
end Go.Proofs.YtdejajpmebgidaaDoor
