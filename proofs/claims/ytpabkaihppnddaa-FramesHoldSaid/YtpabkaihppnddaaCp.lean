/-
  A FRESH BUFFER OF BYTES: a string's bytes, with zero bytes behind them.
-/
import Derived.Test.YtpabkaihppnddaaCk
import Derived.Lib.AppendZerosOnto
namespace Go.Proofs.Ytpabkaihppnddaa
open Go.RowKit
set_option linter.unusedVariables false
set_option linter.unusedSimpArgs false
set_option maxRecDepth 100000
structure BB (B : Nat) (M : List UInt8) (g cap : Nat) (w0 w : World) : Prop where
  own : B ≤ g
  lt : g < w.heap.size
  room : M.length ≤ cap
  all : ∀ i, i < cap → (w.cell? ⟨g, i, none⟩).isSome = true ∧ w.frozen? ⟨g, i, none⟩ = false
  bytes : ∀ j (b : UInt8), M[j]? = some b → w.cell? ⟨g, j, none⟩ = some (.int .u8 (b.toNat : Int))
  bel : Below B w0 w
theorem BB.take {B : Nat} {M : List UInt8} {g cap : Nat} {w0 w : World} (h : BB B M g cap w0 w) (k : Nat) : BB B (M.take k) g cap w0 w :=
  ⟨h.own, h.lt, by have := h.room; rw [List.length_take]; omega, h.all, (fun j b hb => by
    rw [List.getElem?_take] at hb
    split at hb
    · exact h.bytes j b hb
    · cases hb), h.bel⟩
theorem size_setCells (g : Nat) : ∀ (vs : List Value) (o : Nat) (w : World), (w.setCells g o vs).heap.size = w.heap.size
  | [], _, _ => rfl
  | v :: r, o, w => by rw [World.setCells, size_setCells g r]; simp [World.setCell]
theorem below_setCells {B g : Nat} (hB : B ≤ g) : ∀ (vs : List Value) (o : Nat) (w w0 : World), Below B w0 w → Below B w0 (w.setCells g o vs)
  | [], _, _, _, h => h
  | v :: r, o, w, w0, h => by rw [World.setCells]; exact below_setCells hB r _ _ _ (h.setCell (p := ⟨g, o, none⟩) hB v)
theorem bb_made (w : World) (s : ByteArray) : ∃ cap w1, (convert 9 46 (.string s)).run Try.prog w = .ok (.slice (some ⟨w.heap.size, 0, none⟩) s.size cap) w1 ∧ BB w.heap.size s.data.toList w.heap.size cap w w1 := by
  have hr := run_bytes_of_string (P := Try.prog) w 9 46 5 s Try.underlying9 Try.underlying46 Try.underlying5
  have hge := grownCap_ge w s.size 0 5
  have hss : s.data.size = s.size := rfl
  have hsz : (bytesRow s (grownCap w s.size 0 5)).size = grownCap w s.size 0 5 := by unfold bytesRow; simp; omega
  have hb : ∀ (j : Nat) (b : UInt8), s.data.toList[j]? = some b → (bytesRow s (grownCap w s.size 0 5))[j]? = some (.int .u8 (b.toNat : Int)) := by
    intro j b hj
    have hj2 : j < s.data.size := by have := (List.getElem?_eq_some_iff.1 hj).1; simpa using this
    unfold bytesRow
    rw [Array.getElem?_append_left (by simpa using hj2), Array.getElem?_map]
    rw [Array.getElem?_toList] at hj
    rw [hj]; rfl
  generalize hC : bytesRow s (grownCap w s.size 0 5) = C at *
  generalize grownCap w s.size 0 5 = cap at *
  have hn : (w.drew.alloc (.cells C 5 (C.size, C.size + 1))).heap[w.heap.size]? = some (.cells C 5 (C.size, C.size + 1)) := heap_alloc_new w.drew _
  refine ⟨_, _, hr, ⟨Nat.le_refl _, by simp, by simp; omega, (fun i hi => ⟨?_, ?_⟩), (fun j b hj => ?_), (Below.refl _ w).drew.alloc (Nat.le_refl _) _⟩⟩
  · rw [cell_of_row _ _ _ _ _ _ hn, Array.getElem?_eq_getElem (by omega)]; rfl
  · simp only [World.frozen?, hn, Bool.and_eq_false_iff, decide_eq_false_iff_not]
    left; omega
  · rw [cell_of_row _ _ _ _ _ _ hn]
    exact hb j b hj
theorem zeroCells_one (k : Nat) : (Builtin.zeroCells #[.int .u8 0] k).toList = List.replicate k (.int .u8 0) := by
  apply List.ext_getElem?
  intro i
  simp only [Builtin.zeroCells, Array.getElem?_toList, Array.getElem?_map, Array.getElem?_range, List.getElem?_replicate]
  by_cases h : i < k
  · simp [h, Nat.mod_one]
  · simp [h]
theorem bb_zeros {B : Nat} {M : List UInt8} {g cap : Nat} {w0 w : World} (h : BB B M g cap w0 w) (hM : M.length ≤ 64) (hB : B ≤ w.heap.size) (ty : TypeId) : ∃ g' c' w', (Builtin.append_ #[ 46, 3 ] ty #[.slice (some ⟨g, 0, none⟩) M.length cap, .int .i64 64]).run Try.prog w = .ok (.slice (some ⟨g', 0, none⟩) (M.length + 64) c') w' ∧ BB B (M ++ List.replicate 64 0) g' c' w0 w' := by
  obtain ⟨i0, hi, hz0, hz1, hz2⟩ := info_parts elByte.info
  have hl2 : (M ++ List.replicate 64 (0 : UInt8)).length = M.length + 64 := by simp
  by_cases hroom : M.length + 64 ≤ cap
  · obtain ⟨zz, hzz⟩ : ∃ zz, zz = List.replicate 64 (Value.int .u8 0) := ⟨_, rfl⟩
    have hzl : zz.length = 64 := by rw [hzz, List.length_replicate]
    have hz : (Builtin.zeroCells #[.int .u8 0] 64).toList = zz := by rw [zeroCells_one, hzz]
    have hze : ∀ j, j < 64 → zz[j]? = some (.int .u8 0) := fun j hj => by rw [hzz, List.getElem?_replicate, if_pos hj]
    have hzo : ∀ u ∈ zz, u.oneCell' = true := fun u hu => by rw [hzz] at hu; rw [List.eq_of_mem_replicate hu]; rfl
    clear hzz
    have hfr : ∀ j, j < zz.length → (w.cell? ⟨g, M.length + 0 + j, none⟩).isSome = true := fun j hj => (h.all _ (by omega)).1
    have hff : ∀ j, j < zz.length → w.frozen? ⟨g, M.length + 0 + j, none⟩ = false := fun j hj => (h.all _ (by omega)).2
    have hst := run_storeCells_cells (P := Try.prog) g M.length zz 0 w hfr hff hzo
    rw [Nat.add_zero] at hst
    have hw : IntKind.i64.wrap (64 : Int) = 64 := by rw [IntKind.wrap_i64]; omega
    refine ⟨g, cap, w.setCells g M.length zz, ?_, ⟨h.own, by rw [size_setCells]; exact h.lt, by rw [hl2]; exact hroom, (fun i hi => ⟨?_, ?_⟩), (fun j b hj => ?_), below_setCells h.own _ _ _ _ h.bel⟩⟩
    · simp [Builtin.append_, run_underlying Try.underlying46, run_underlying Try.underlying3, sizeOf, typeInfo, zeroValue, hi, hz0, hz1, hz2, asInt, asIntOf, hw, hroom, Value.cells, hz, Addr.add_lit, hst]
    · exact World.isSome_setCells _ _ _ _ _ (h.all i hi).1
    · rw [World.frozen?_setCells]; exact (h.all i hi).2
    · have hj2 := (List.getElem?_eq_some_iff.1 hj).1
      rw [hl2] at hj2
      by_cases c : j < M.length
      · rw [World.cell?_setCells_out g _ M.length w ⟨g, j, none⟩ (fun _ _ => .inl c)]
        rw [List.getElem?_append_left c] at hj
        exact h.bytes j b hj
      · obtain ⟨i, rfl⟩ : ∃ i, j = M.length + i := ⟨j - M.length, by omega⟩
        rw [List.getElem?_append_right (by omega), List.getElem?_replicate, if_pos (by omega)] at hj
        cases hj
        rw [World.cell?_setCells_in g zz M.length w (fun i hi => by simpa using hfr i hi) i (by omega), ← List.getElem?_eq_getElem, hze i (by omega)]
        rfl
  · have hold := run_firstCells_some (P := Try.prog) w.drew i0.size M.length ⟨g, 0, none⟩ M.length cap (byteCells M) (by rw [hz1, byteCells_len]; omega) (fun j u hj => by
      obtain ⟨b, hb⟩ : ∃ b, M[j]? = some b := ⟨_, List.getElem?_eq_getElem (by have := (List.getElem?_eq_some_iff.1 hj).1; rw [byteCells_len] at this; exact this)⟩
      rw [byteCells_at hb] at hj
      cases hj
      rw [addr_add, Nat.zero_add]
      exact h.bytes j b hb)
    have hr := Lib.run_append_grow_zeros (P := Try.prog) w 46 3 ty 5 i0 (.int .u8 0) .i64 .i64 Try.underlying46 Try.underlying3 hi hz0 (some ⟨g, 0, none⟩) M.length cap (byteCells M) hold 64 (by omega) (by omega) (by omega) (by omega) (by rw [hz2]; omega) (growslice_fits (by omega) (by rw [hz2]; omega))
    rw [show Value.cells (.int .u8 0) = #[.int .u8 0] from rfl] at hr
    have hge := grownCap_ge w (M.length + 64) cap 5
    generalize grownCap w (M.length + 64) cap 5 = c2 at *
    have hn : (w.drew.alloc (.cells ((byteCells M).toArray ++ Builtin.zeroCells #[.int .u8 0] 64 ++ Builtin.zeroCells #[.int .u8 0] (c2 - (M.length + 64))) 5)).heap[w.heap.size]? = _ := heap_alloc_new w.drew (.cells ((byteCells M).toArray ++ Builtin.zeroCells #[.int .u8 0] 64 ++ Builtin.zeroCells #[.int .u8 0] (c2 - (M.length + 64))) 5)
    have cl : ((byteCells M).toArray ++ Builtin.zeroCells #[.int .u8 0] 64 ++ Builtin.zeroCells #[.int .u8 0] (c2 - (M.length + 64))).toList = byteCells (M ++ List.replicate 64 0 ++ List.replicate (c2 - (M.length + 64)) 0) := by
      simp only [Array.toList_append, zeroCells_one, byteCells_app]
      simp [byteCells]
    refine ⟨_, _, _, hr, ⟨hB, by simp, by rw [hl2]; exact hge, (fun i hi => ⟨?_, ?_⟩), (fun j b hj => ?_), h.bel.drew.alloc hB _⟩⟩
    · rw [cell_of_row _ _ _ _ _ _ hn, ← Array.getElem?_toList, cl, List.getElem?_eq_getElem (by rw [byteCells_len]; simp; omega)]; rfl
    · exact frozen_of_row _ _ _ _ _ hn
    · rw [cell_of_row _ _ _ _ _ _ hn, ← Array.getElem?_toList, cl]
      exact byteCells_at (by rw [List.getElem?_append_left (by have := (List.getElem?_eq_some_iff.1 hj).1; exact this)]; exact hj)
end Go.Proofs.Ytpabkaihppnddaa
