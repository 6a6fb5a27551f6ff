/-
  THE REFERENCE OF LAYER 3: get, Size.
-/
import Derived.Test.YtdejajpmebgidaaDoorHa
namespace Go.Proofs.YtdejajpmebgidaaDoor
open Go.RowKit Go.Maps WireM DiskM
set_option linter.unusedVariables false
set_option linter.unusedSimpArgs false
set_option maxRecDepth 100000

theorem getF_at (f : Int) : ∀ (l : List FileT) (j : Nat) (x : FileT), l[j]? = some x → x.1 = f → (∀ m y, m < j → l[m]? = some y → y.1 ≠ f) → getF l f = x.2
  | [], j, x, h, _, _ => by simp at h
  | a :: r, 0, x, h, e, _ => by
    simp at h
    subst h
    unfold getF
    rw [List.find?_cons, show (a.1 == f) = true by simp [e]]
  | a :: r, j + 1, x, h, e, hm => by
    have h1 := getF_at f r j x (by simpa using h) e (fun m y hmj hy => hm (m + 1) y (by omega) (by simpa using hy))
    have h2 : a.1 ≠ f := hm 0 a (by omega) rfl
    unfold getF at h1 ⊢
    rw [List.find?_cons, show (a.1 == f) = false by simp [h2]]
    exact h1
theorem getF_no (f : Int) (l : List FileT) (h : ∀ y ∈ l, y.1 ≠ f) : getF l f = ([], []) := by
  unfold getF
  rw [List.find?_eq_none.2 (fun y hy => by simp [h y hy])]
theorem load3 (w : World) (x y z : Value) : (loadCells ⟨w.heap.size, 0, none⟩ 3).run Tryd.prog (w.alloc (.cells #[x, y, z] 76)) = .ok #[x, y, z] (w.alloc (.cells #[x, y, z] 76)) := by
  have h := run_loadCells_list (P := Tryd.prog) (w := w.alloc (.cells #[x, y, z] 76)) ⟨w.heap.size, 0, none⟩ [x, y, z] (fun j v hj => by
    have e : (⟨w.heap.size, 0, none⟩ : Addr).add j = ⟨w.heap.size, j, none⟩ := by
      unfold Addr.add; split <;> simp_all
    rw [e, Lib.cell_of_heap (heap_alloc_new w _)]
    simpa using hj)
  simpa using h
set_option maxHeartbeats 4000000 in
theorem get_any {w : World} {r : Nat} {s : St} {q : RP} (h : R0 w r s q) (f : Int) : Calls Tryd.prog 42 #[.pointer (some ⟨r, 0, none⟩), .int .i64 f] w fun e w' => e = .returned (.agg #[.int .i64 f, .string (bs (s.now f)), .string (bs (s.last f))]) ∧ Below w.heap.size w w' := by
  have hsrc := srcAt_row h.rowF
  have hn := h.few
  have REL := Lib.hid (h.rel f)
  have c0 := h.c0
  have c0' : ∀ o, (w.alloc o).cell? ⟨r, 0, none⟩ = some q.vF := fun o => (((Below.refl w.heap.size w).alloc (Nat.le_refl _) o).cell (p := ⟨r, 0, none⟩) (h.lt (.inl rfl))).trans c0
  obtain ⟨L, hL⟩ : ∃ L, L = q.files := ⟨_, rfl⟩
  rw [← hL] at hsrc hn REL
  have hform : ∃ ad c, q.vF = .slice ad L.length c ∧ (L = [] ∨ ∃ b off, ad = some ⟨b, off, none⟩ ∧ b < w.heap.size ∧ ∀ j u, (fileCells L)[j]? = some u → w.cell? ⟨b, off + j, none⟩ = some u) := by
    rcases hsrc with ⟨⟨a, c, hv⟩, h0, h1⟩ | ⟨b, off, c, hv, hc⟩
    · exact ⟨a, c, by rw [h0]; exact hv, .inl (List.eq_nil_of_length_eq_zero h0)⟩
    · refine ⟨some ⟨b, off, none⟩, c, hv, .inr ⟨b, off, rfl, h.lt (.inr (.inl (by rw [hv]; rfl))), hc⟩⟩
  obtain ⟨ad, c, hv, hcs⟩ := hform
  rw [hv] at c0'
  have HC := Lib.hid hcs
  have hr := h.lt (.inl rfl)
  clear hsrc h c0 hcs hL hv
  go_enter Tryd.func42, Tryd.ntmps42
  go_wp2
  go_loopw [5] (fun i wr => ∃ j : Nat, j ≤ L.length ∧ i = .int .i64 (j : Int) ∧ wr = w.alloc (.cells #[.int .i64 0, .string ByteArray.empty, .string ByteArray.empty] 76) ∧ Hid (∀ m y, m < j → L[m]? = some y → y.1 ≠ f)) (fun i _ => L.length - (intOf i).toNat)
  case atStart => exact ⟨0, Nat.zero_le _, rfl, rfl, Lib.hid (fun m y hm => by omega)⟩
  case round =>
    obtain ⟨j, hj, rfl, rfl, HO⟩ := hrel
    have HW := Lib.hid ((Below.refl w.heap.size w).alloc (Nat.le_refl _) (.cells #[.int .i64 0, .string ByteArray.empty, .string ByteArray.empty] 76))
    have k1 := c0' (.cells #[.int .i64 0, .string ByteArray.empty, .string ByteArray.empty] 76)
    by_cases hlt : j < L.length
    · obtain ⟨x, hx⟩ : ∃ x, L[j]? = some x := ⟨_, List.getElem?_eq_getElem hlt⟩
      rcases HC.out with e | ⟨b, off, rfl, hb, hc⟩
      · rw [e] at hlt; simp at hlt
      obtain ⟨y0, y1, y2⟩ := fileCells_at L j x hx
      have z0 := (HW.out.cell (p := ⟨b, off + j * 3, none⟩) hb).trans (hc _ _ y0)
      have z1 := (HW.out.cell (p := ⟨b, off + (j * 3 + 1), none⟩) hb).trans (hc _ _ y1)
      have z2 := (HW.out.cell (p := ⟨b, off + (j * 3 + 2), none⟩) hb).trans (hc _ _ y2)
      rw [← Nat.add_assoc] at z1 z2
      have g0 : (0 : Int) ≤ (j : Int) := by omega
      have g1 : (j : Int) < (L.length : Int) := by omega
      have w1' : wrap64 ((j : Int) + 1) = (j : Int) + 1 := by unfold wrap64; omega
      have W1 := Lib.hid w1'
      have MEAS := Lib.hid (show L.length - (intOf (.int .i64 ((j : Int) + 1))).toNat < L.length - (intOf (.int .i64 (j : Int))).toNat by simp [intOf]; omega)
      by_cases hf : x.1 = f
      · have hq : (x.1 == f) = true := by simp [hf]
        have E := Lib.hid (show x.2 = (s.now f, s.last f) by rw [← getF_at f L j x hx hf HO.out]; exact REL.out)
        clear c0' hc hx hlt hj w1' y0 y1 y2 HO
        go_wp2
        have hres : Tryd.f42.results = #[.cell 4 76] := by kernel_rfl
        refine bodyPost_ret (v := .agg #[.int .i64 f, .string (bs x.2.1), .string (bs x.2.2)]) (by simp [results, hres, loadVar, asAddr, load3, Result.andThen]) rfl ?_
        refine ⟨by rw [E.out], (Below.refl _ w).alloc (Nat.le_refl _) _⟩
      · have hq : (x.1 == f) = false := by simp [hf]
        have NX := Lib.hid (show ∃ j' : Nat, j' ≤ L.length ∧ Value.int .i64 ((j : Int) + 1) = .int .i64 (j' : Int) ∧ True ∧ Hid (∀ m y, m < j' → L[m]? = some y → y.1 ≠ f) from ⟨j + 1, hlt, rfl, trivial, Lib.hid (fun m y hm hy => by
          by_cases e : m = j
          · subst e; rw [hx] at hy; cases hy; exact hf
          · exact HO.out m y (by omega) hy)⟩)
        clear c0' hc hx hlt hj w1' y0 y1 y2 HO
        go_wp2
        go_roundw
        case rel => first | (simpa using NX.out) | (rw [W1.out]; simpa using NX.out)
        case measure => first | exact MEAS.out | (rw [W1.out]; exact MEAS.out)
    · have g1 : ¬ (j : Int) < (L.length : Int) := by omega
      have E := Lib.hid (show getF L f = ([], []) from getF_no f L (fun y hy => by
        obtain ⟨m, hm⟩ := List.getElem?_of_mem hy
        exact HO.out m y (by have := (List.getElem?_eq_some_iff.1 hm).1; omega) hm))
      clear c0' hlt hj HO
      go_wp2
      have hres : Tryd.f42.results = #[.cell 4 76] := by kernel_rfl
      refine bodyPost_ret (v := .agg #[.int .i64 f, .string ⟨#[]⟩, .string ⟨#[]⟩]) (by simp [results, hres, loadVar, asAddr, load3, Result.andThen]) rfl ?_
      have e1 := E.out.symm.trans REL.out
      refine ⟨by rw [← (Prod.mk.inj e1).1, ← (Prod.mk.inj e1).2]; rfl, (Below.refl _ w).alloc (Nat.le_refl _) _⟩
end Go.Proofs.YtdejajpmebgidaaDoor
