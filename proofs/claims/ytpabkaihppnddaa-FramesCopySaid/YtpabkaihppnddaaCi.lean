/-
  THE REFERENCE: Alloc, Set, Fill.
-/
import Derived.Test.YtpabkaihppnddaaCh
namespace Go.Proofs.Ytpabkaihppnddaa
open Go.RowKit
set_option linter.unusedVariables false
set_option linter.unusedSimpArgs false
set_option maxRecDepth 100000
theorem madeByte (n : Nat) (W : World) (hn : n ≤ 64) : (Instr.makeSlice 46 (.int .i64 (n : Int)) (.int .i64 (n : Int))).run Try.prog W = .ok (.slice (some ⟨W.heap.size, 0, none⟩) n n) (W.alloc (.cells (byteCells (List.replicate n 0)).toArray 5)) := by
  have := elByte.make n (by unfold maxLen; omega) (by omega) W
  rw [this]
  congr 3
  apply Array.ext'
  have hz : ∀ k, k < (Value.cells (.int .u8 0)).size → (Value.cells (.int .u8 0))[k]! = .int .u8 0 := by
    intro k hk
    obtain rfl : k = 0 := by simpa [Value.cells] using hk
    rfl
  rw [made_same _ (.int .u8 0) _ (by decide) hz]
  simp [byteCells]
/-- A fresh slice of bytes as a string. -/
theorem freshString (W : World) (L : List UInt8) : (convert 46 9 (.slice (some ⟨W.heap.size, 0, none⟩) L.length L.length)).run Try.prog (W.alloc (.cells (byteCells L).toArray 5)).drew = .ok (.string (bs L)) (W.alloc (.cells (byteCells L).toArray 5)).drew :=
  run_convert_bytes_back (P := Try.prog) _ 46 9 5 ⟨W.heap.size, 0, none⟩ L.length L Try.underlying46 Try.underlying5 Try.underlying9 (fun j hj => by
    show (W.alloc (.cells (byteCells L).toArray 5)).cell? _ = _
    rw [addr_add, Nat.zero_add, cell_of_row _ _ j _ _ (0, 0) (heap_alloc_last W _)]
    simpa using byteCells_at (List.getElem?_eq_getElem hj))
section
variable {w0 w : World} {S : Nat → Prop} {l : List Kd}
set_option maxHeartbeats 1000000 in
theorem Tog.ralloc (h : Tog w0 S w l) {i p : Nat} {L : Fm} (hi : l[i]? = some (kRef p L)) : Calls Try.prog 30 #[.pointer (some ⟨p, 0, none⟩)] w fun e w' => e = .returned (.tuple #[.int .i64 L.alloc.2.1, .bool L.alloc.2.2]) ∧ Tog w0 S w' (l.set i (kRef p L.alloc.1)) := by
  obtain ⟨a', c', c1, H⟩ := h.refAt hi
  have ok := h.okRef hi
  have hle := ok.len
  obtain ⟨R, hR⟩ : ∃ R, R = L.alloc := ⟨_, rfl⟩
  rw [← hR]
  have HR := Lib.hid hR
  have OK := Lib.hid ok
  have HH := Lib.hid h
  have HI := Lib.hid hi
  have CE := Lib.hid H
  have HLE := L.hole_le
  clear h hi H hR ok
  go_enter Try.func30, Try.ntmps30
  go_wp2_with fail
  go_loopw [4] (fun i wr => ∃ j : Nat, j ≤ L.length ∧ i = .int .i64 (j : Int) ∧ wr = w ∧ Hid (j ≤ L.hole)) (fun i _ => L.length - (intOf i).toNat)
  case atStart => exact ⟨0, Nat.zero_le _, rfl, rfl, Lib.hid (Nat.zero_le _)⟩
  case round =>
    obtain ⟨j, hj, rfl, rfl, HO⟩ := hrel
    by_cases hlt : j < L.length
    · obtain ⟨o, ho⟩ : ∃ o, L[j]? = some o := ⟨_, List.getElem?_eq_getElem hlt⟩
      obtain ⟨g, rfl, hb, fb, _⟩ := CE.out j o ho
      have g0 : (0 : Int) ≤ (j : Int) := by omega
      have g1 : (j : Int) < (L.length : Int) := by omega
      have w1 : wrap64 ((j : Int) + 1) = (j : Int) + 1 := by unfold wrap64; omega
      have W1 := Lib.hid w1
      have MEAS := Lib.hid (show L.length - (intOf (.int .i64 ((j : Int) + 1))).toNat < L.length - (intOf (.int .i64 (j : Int))).toNat by simp [intOf]; omega)
      cases o with
      | none =>
        have hh := Fm.hole_none HO.out ho
        have E : R = (L.set j (some zpage), (j : Int), true) := by rw [HR.out]; unfold Fm.alloc; rw [hh, if_pos hlt]
        have hb' : wr.cell? ⟨g, j, none⟩ = some (.string ⟨#[]⟩) := hb
        have k1 : ∀ W : World, (Instr.makeSlice 46 (.int .i64 64) (.int .i64 64)).run Try.prog W = .ok (.slice (some ⟨W.heap.size, 0, none⟩) 64 64) (W.alloc (.cells (byteCells (List.replicate 64 0)).toArray 5)) := fun W => madeByte 64 W (by omega)
        have HA := (HH.out.alloc (.cells (byteCells (List.replicate 64 0)).toArray 5)).drew
        obtain ⟨a2, c2, d0, H2⟩ := HA.refAt HI.out
        obtain ⟨g2, rfl, d1, f1, ST⟩ := H2 j _ ho
        have dd0 : (wr.alloc (.cells (byteCells (List.replicate 64 0)).toArray 5)).drew.cell? ⟨p, 0, none⟩ = wr.cell? ⟨p, 0, none⟩ := (Lib.cell?_alloc_some _ c1).trans c1.symm
        rw [dd0, c1] at d0
        simp at d0
        obtain ⟨rfl, rfl⟩ := d0
        rw [c1] at dd0
        have CV : (convert 46 9 (.slice (some ⟨wr.heap.size, 0, none⟩) 64 64)).run Try.prog (wr.alloc (.cells (byteCells (List.replicate 64 0)).toArray 5)).drew = .ok (.string (bs zpage)) (wr.alloc (.cells (byteCells (List.replicate 64 0)).toArray 5)).drew := freshString wr (List.replicate 64 0)
        have FIN := Lib.hid (ST (some zpage) (OK.out.set j (fun q e => by cases e; rfl)))
        generalize (byteCells (List.replicate 64 0)).toArray = Z at *
        have EH := Lib.hid E
        clear hb ho hlt hj w1 HLE HA H2 ST E hh
        go_upto_region 5 with fail
        go_region
        go_wp2
        go_ret2
        exact ⟨by rw [EH.out]; rfl, by rw [EH.out]; exact FIN.out⟩
      | some q =>
        have G := Lib.hid (show ∃ j' : Nat, j' ≤ L.length ∧ Value.int .i64 ((j : Int) + 1) = .int .i64 (j' : Int) ∧ True ∧ Hid (j' ≤ L.hole) from ⟨j + 1, hlt, rfl, trivial, Lib.hid (Fm.hole_some HO.out ho)⟩)
        have hb' : wr.cell? ⟨g, j, none⟩ = some (.string (bs q)) := hb
        have hq := bs_nonempty (OK.out.sz j q ho)
        clear ho hlt hj w1 HLE hb
        go_wp2
        go_roundw
        case rel => first | exact G.out | (rw [W1.out]; exact G.out)
        case measure => first | exact MEAS.out | (rw [W1.out]; exact MEAS.out)
    · have g1 : ¬ (j : Int) < (L.length : Int) := by omega
      have E : R = (L, 0, false) := by have := HO.out; rw [HR.out]; unfold Fm.alloc; rw [if_neg (by omega)]
      have FIN := Lib.hid (show Tog w0 S wr (l.set i (kRef p L)) by rw [Tog.sameAt HI.out]; exact HH.out)
      have EH := Lib.hid E
      clear hlt hj HO HLE E
      go_wp2
      go_ret2
      exact ⟨by rw [EH.out]; rfl, by rw [EH.out]; exact FIN.out⟩
end
end Go.Proofs.Ytpabkaihppnddaa
