/-
  ROWS OF STRINGS AND BLOCKS AS THINGS BESIDE A DISK AND A CELL; the law's has.
-/
import Derived.Test.YtdejajpmebgidaaDoorKl
import Derived.RangeFuncBox
namespace Go.Proofs.YtdejajpmebgidaaDoor
open Go.RowKit Go.Maps WireM DiskM CellM
set_option linter.unusedVariables false
set_option linter.unusedSimpArgs false
set_option maxRecDepth 100000

theorem infoStr : (Tryd.prog.info? 9).map (fun i => (i.zero, i.size, i.bytes)) = some (some (.string .empty), 1, 16) := by kernel_rfl
def strCells (L : List (List UInt8)) : List Value := L.map fun l => Value.string (bs l)
theorem strCells_len (L : List (List UInt8)) : (strCells L).length = L.length := by simp [strCells]
/-- A slice of strings at the head of its own block. -/
def kStrs (v : Value) (L : List (List UInt8)) : Kd where
  is := fun M w => (∀ b, M b ↔ v.ownBlock = some b) ∧ w.ownsRow 0 9 1 v L.length (strCells L)
  lt := fun M w ⟨hm, h⟩ b hb => (World.ownsRow.lt h b ((hm b).1 hb)).2
  same := fun M w w' ⟨hm, h⟩ he => ⟨hm, row_block h (fun k hk => he k ((hm k).2 hk))⟩
/-- A block. -/
def kHeap (g : Nat) (o : Obj) : Kd where
  is := fun M w => (∀ b, M b ↔ b = g) ∧ w.heap[g]? = some o
  lt := fun M w ⟨hm, h⟩ b hb => by rw [(hm b).1 hb]; exact (Array.getElem?_eq_some_iff.1 h).1
  same := fun M w w' ⟨hm, h⟩ he => ⟨hm, (he g ((hm g).2 rfl)).trans h⟩
theorem Tog.heapAt {w0 w : World} {l : List Kd} (h : Tog w0 w l) {j g : Nat} {o : Obj} (hj : l[j]? = some (kHeap g o)) : w.heap[g]? = some o := by
  obtain ⟨M, ⟨h1, h2⟩, _⟩ := h.focus hj
  exact h2
theorem Tog.rowAt {w0 w : World} {l : List Kd} (h : Tog w0 w l) {j : Nat} {v : Value} {L : List (List UInt8)} (hj : l[j]? = some (kStrs v L)) : w.ownsRow 0 9 1 v L.length (strCells L) := by
  obtain ⟨M, ⟨h1, h2⟩, _⟩ := h.focus hj
  exact h2
theorem Tog.nilRow {w0 w : World} {l : List Kd} (h : Tog w0 w l) : Tog w0 w (l ++ [kStrs (.slice none 0 0) []]) :=
  h.add ⟨fun _ => False, ⟨fun b => ⟨fun h => h.elim, fun h => by simp [Value.ownBlock] at h⟩, World.ownsRow_nil _ _ _ _⟩, fun b hb => hb.elim⟩ (Below.refl _ w)
theorem Tog.block {w0 w : World} {l : List Kd} (h : Tog w0 w l) (o : Obj) : Tog w0 (w.alloc o) (l ++ [kHeap w.heap.size o]) :=
  h.add ⟨fun b => b = w.heap.size, ⟨fun _ => Iff.rfl, heap_alloc_new w _⟩, fun b hb => by rw [hb]; exact Nat.le_refl _⟩ ((Below.refl _ w).alloc (Nat.le_refl _) _)
theorem Tog.oneRow {w0 w : World} {l : List Kd} (h : Tog w0 w l) (m : ByteArray) : Tog w0 (w.alloc (.cells #[.string m] 9)) (l ++ [kStrs (.slice (some ⟨w.heap.size, 0, none⟩) 1 1) [m.data.toList]]) :=
  h.add ⟨fun b => b = w.heap.size, ⟨fun b => by simp [Value.ownBlock]; exact eq_comm, ⟨rfl, .inr ⟨w.heap.size, 1, #[.string m], rfl, Nat.zero_le _, heap_alloc_new w _, Nat.le_refl _, by unfold maxLen; omega, rfl, rfl⟩⟩⟩, fun b hb => by rw [hb]; exact Nat.le_refl _⟩ ((Below.refl _ w).alloc (Nat.le_refl _) _)
end Go.Proofs.YtdejajpmebgidaaDoor
