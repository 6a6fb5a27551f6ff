/-
  PACKAGE cell: a cell in memory; Get, secure, the header.
-/
import Derived.Test.YtdejajpmebgidaaDoorHo
import Derived.Test.YtdejajpmebgidaaDoorJm
namespace Go.Proofs.YtdejajpmebgidaaDoor
open Go.RowKit Go.Maps WireM DiskM CellM
set_option linter.unusedVariables false
set_option linter.unusedSimpArgs false
set_option maxRecDepth 100000

/-- The offsets of the slots lie in memory. -/
structure Slots (w : World) : Prop where
  lt : 0 < w.heap.size
  one : w.cell? ⟨0, 0, none⟩ = some (.int .i64 64)
  two : w.cell? ⟨0, 1, none⟩ = some (.int .i64 131072)
theorem Slots.below {w w' : World} (h : Slots w) (hb : Below w.heap.size w w') : Slots w' := ⟨Nat.lt_of_lt_of_le h.lt hb.size, (hb.cell (p := ⟨0, 0, none⟩) h.lt).trans h.one, (hb.cell (p := ⟨0, 1, none⟩) h.lt).trans h.two⟩
def ccells (p : Nat) (f : Int) (c : CS) : Array Value := #[.pointer (some ⟨p, 0, none⟩), .int .i64 f, .int .i64 (c.slot : Int), .string (bs c.val), .bool c.sure]
/-- A cell (of package cell, or of the reference: the type T says which). -/
def kCell (T : TypeId) (z p : Nat) (f : Int) (c : CS) : Kd where
  is := fun M w => (∀ b, M b ↔ b = z) ∧ w.heap[z]? = some (.cells (ccells p f c) T (0, 0))
  lt := fun M w ⟨hm, h⟩ b hb => by rw [(hm b).1 hb]; exact (Array.getElem?_eq_some_iff.1 h).1
  same := fun M w w' ⟨hm, h⟩ he => ⟨hm, (he z ((hm z).2 rfl)).trans h⟩
structure CellF (w : World) (z p : Nat) (f : Int) (c : CS) : Prop where
  c0 : w.cell? ⟨z, 0, none⟩ = some (.pointer (some ⟨p, 0, none⟩))
  c1 : w.cell? ⟨z, 1, none⟩ = some (.int .i64 f)
  c2 : w.cell? ⟨z, 2, none⟩ = some (.int .i64 (c.slot : Int))
  c3 : w.cell? ⟨z, 3, none⟩ = some (.string (bs c.val))
  c4 : w.cell? ⟨z, 4, none⟩ = some (.bool c.sure)
  fz : ∀ i, w.frozen? ⟨z, i, none⟩ = false
theorem cellF_of {T : TypeId} {w : World} {z p : Nat} {f : Int} {c : CS} (h : w.heap[z]? = some (.cells (ccells p f c) T (0, 0))) : CellF w z p f c :=
  ⟨by rw [Lib.cell_of_heap h]; rfl, by rw [Lib.cell_of_heap h]; rfl, by rw [Lib.cell_of_heap h]; rfl, by rw [Lib.cell_of_heap h]; rfl, by rw [Lib.cell_of_heap h]; rfl, fun i => Lib.frozen_of_heap h i⟩
theorem Tog.cellF {w0 w : World} {l : List Kd} (h : Tog w0 w l) {T : TypeId} {j z p : Nat} {f : Int} {c : CS} (hj : l[j]? = some (kCell T z p f c)) : CellF w z p f c := by
  obtain ⟨M, ⟨h1, h2⟩, _⟩ := h.focus hj
  exact cellF_of h2
theorem Tog.cset {w0 w : World} {l : List Kd} (h : Tog w0 w l) {T : TypeId} {j z p : Nat} {f : Int} {c : CS} (hj : l[j]? = some (kCell T z p f c)) (i : Nat) (v : Value) (c' : CS) (hc : (ccells p f c).setIfInBounds i v = ccells p f c') : Tog w0 (w.setCell ⟨z, i, none⟩ v) (l.set j (kCell T z p f c')) := by
  obtain ⟨M, ⟨h1, h2⟩, h3, h4⟩ := h.focus hj
  refine h4 _ _ ⟨M, ⟨h1, ?_⟩, fun b hb => .inl hb, Chg.set _ _ _ (.inl ((h1 z).2 rfl))⟩
  rw [← hc]
  simp [World.setCell, Array.getElem?_modify, h2]
theorem Tog.cmade {w0 w : World} {l : List Kd} (h : Tog w0 w l) {T : TypeId} (p : Nat) (f : Int) (c : CS) : Tog w0 (w.alloc (.cells (ccells p f c) T)) (l ++ [kCell T w.heap.size p f c]) :=
  h.add ⟨fun b => b = w.heap.size, ⟨fun _ => Iff.rfl, heap_alloc_new w _⟩, fun b hb => by rw [hb]; exact Nat.le_refl _⟩ ((Below.refl _ w).alloc (Nat.le_refl _) _)
theorem ccells_sure (p : Nat) (f : Int) (c : CS) (b : Bool) : (ccells p f c).setIfInBounds 4 (.bool b) = ccells p f { c with sure := b } := rfl
theorem ccells_slot (p : Nat) (f : Int) (c : CS) (k : Nat) : (ccells p f c).setIfInBounds 2 (.int .i64 (k : Int)) = ccells p f { c with slot := k } := rfl
theorem ccells_val (p : Nat) (f : Int) (c : CS) (v : List UInt8) : (ccells p f c).setIfInBounds 3 (.string (bs v)) = ccells p f { c with val := v } := rfl
theorem hdr_run (w : World) (k n : Nat) (hk : k = 1 ∨ k = 2) (hn : n ≤ 65536) (z : Int) (hz : z = 0) :
    (convert 70 9 (.slice (some ⟨w.heap.size, 0, none⟩) 5 5)).run Tryd.prog (w.alloc (.cells #[.int .u8 (k : Int), .int .u8 ((n : Int) % 256), .int .u8 ((n : Int) / 256 % 256), .int .u8 ((n : Int) / 65536), .int .u8 z] 5)) =
      .ok (.string (bs (hdr k n))) (w.alloc (.cells #[.int .u8 (k : Int), .int .u8 ((n : Int) % 256), .int .u8 ((n : Int) / 256 % 256), .int .u8 ((n : Int) / 65536), .int .u8 z] 5)) := by
  subst hz
  have h := run_convert_bytes_back (P := Tryd.prog) (w.alloc (.cells #[.int .u8 (k : Int), .int .u8 ((n : Int) % 256), .int .u8 ((n : Int) / 256 % 256), .int .u8 ((n : Int) / 65536), .int .u8 0] 5)) 70 9 5 ⟨w.heap.size, 0, none⟩ 5 (hdr k n) Tryd.underlying70 Tryd.underlying5 Tryd.underlying9 ?_
  · exact h
  intro j hj
  have hadd : (⟨w.heap.size, 0, none⟩ : Addr).add j = ⟨w.heap.size, j, none⟩ := by unfold Addr.add; split <;> simp_all
  rw [hadd, Lib.cell_of_heap (heap_alloc_new w _)]
  have hj5 : j < 5 := hj
  have c : j = 0 ∨ j = 1 ∨ j = 2 ∨ j = 3 ∨ j = 4 := by omega
  rcases c with rfl | rfl | rfl | rfl | rfl
  · simp [hdr]; omega
  · simp [hdr]
  · simp [hdr]
  · simp [hdr]; omega
  · simp [hdr]; omega
theorem formatHeader_any (k n : Nat) (hk : k = 1 ∨ k = 2) (hn : n ≤ 65536) (w : World) : Calls Tryd.prog 34 #[.int .i64 (k : Int), .int .i64 (n : Int)] w fun e w' => e = .returned (.string (bs (hdr k n))) ∧ Below w.heap.size w w' := by
  have R := hdr_run w k n hk hn ((n : Int) / 16777216) (by omega)
  have B := Lib.hid (Below.refl w.heap.size w)
  go_enter Tryd.func34, Tryd.ntmps34
  go_wp2
  go_ret
  exact ⟨rfl, B.out.alloc (Nat.le_refl _) _⟩
end Go.Proofs.YtdejajpmebgidaaDoor
