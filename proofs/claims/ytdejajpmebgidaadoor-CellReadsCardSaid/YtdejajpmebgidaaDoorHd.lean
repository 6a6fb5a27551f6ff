/-
  THE REFERENCE OF LAYER 3: pending.
-/
import Derived.Test.YtdejajpmebgidaaDoorHc
namespace Go.Proofs.YtdejajpmebgidaaDoor
open Go.RowKit Go.Maps WireM DiskM
set_option linter.unusedVariables false
set_option linter.unusedSimpArgs false
set_option maxRecDepth 100000

theorem qCells_at : ∀ (l : List Sec) (j : Nat) (x : Sec), l[j]? = some x → (secCells l)[j * 2]? = some (.int .i64 x.1) ∧ (secCells l)[j * 2 + 1]? = some (.int .i64 (x.2 : Nat))
  | [], j, x, h => by simp at h
  | a :: r, 0, x, h => by
    simp at h
    subst h
    exact ⟨rfl, rfl⟩
  | a :: r, j + 1, x, h => by
    obtain ⟨h1, h2⟩ := qCells_at r j x (by simpa using h)
    have e : ∀ m, (secCells (a :: r))[m + 2]? = (secCells r)[m]? := fun m => by
      show ([Value.int .i64 a.1, .int .i64 (a.2 : Nat)] ++ secCells r)[m + 2]? = _
      rw [List.getElem?_append_right (by simp)]
      simp
    refine ⟨?_, ?_⟩
    · rw [show (j + 1) * 2 = j * 2 + 2 by omega, e]; exact h1
    · rw [show (j + 1) * 2 + 1 = (j * 2 + 1) + 2 by omega, e]; exact h2
set_option maxHeartbeats 4000000 in
theorem pending_any {w : World} {r : Nat} {s : St} {q : RP} (h : R0 w r s q) (hn : s.pend.length ≤ 1099511627776) (f : Int) (n : Nat) : Calls Tryd.prog 57 #[.pointer (some ⟨r, 0, none⟩), .int .i64 f, .int .i64 (n : Int)] w fun e w' => e = .returned (.bool (decide ((f, n) ∈ s.pend))) ∧ w = w' := by
  have hsrc := srcAt_row h.rowQ
  have c1 := h.c1
  obtain ⟨L, hL⟩ : ∃ L, L = s.pend := ⟨_, rfl⟩
  rw [← hL] at hsrc hn ⊢
  have hform : ∃ ad c, q.vQ = .slice ad L.length c ∧ (L = [] ∨ ∃ b off, ad = some ⟨b, off, none⟩ ∧ ∀ j u, (secCells L)[j]? = some u → w.cell? ⟨b, off + j, none⟩ = some u) := by
    rcases hsrc with ⟨⟨a, c, hv⟩, h0, h1⟩ | ⟨b, off, c, hv, hc⟩
    · exact ⟨a, c, by rw [h0]; exact hv, .inl (List.eq_nil_of_length_eq_zero h0)⟩
    · exact ⟨some ⟨b, off, none⟩, c, hv, .inr ⟨b, off, rfl, hc⟩⟩
  obtain ⟨ad, c, hv, hcs⟩ := hform
  rw [hv] at c1
  have HC := Lib.hid hcs
  clear hsrc h hcs hL hv
  go_enter Tryd.func57, Tryd.ntmps57
  go_wp2
  go_loopw [7] (fun i wr => ∃ j : Nat, j ≤ L.length ∧ i = .int .i64 (j : Int) ∧ wr = w ∧ Hid (∀ m y, m < j → L[m]? = some y → y ≠ (f, n))) (fun i _ => L.length - (intOf i).toNat)
  case atStart => exact ⟨0, Nat.zero_le _, rfl, rfl, Lib.hid (fun m y hm => by omega)⟩
  case round =>
    obtain ⟨j, hj, rfl, rfl, HO⟩ := hrel
    by_cases hlt : j < L.length
    · obtain ⟨x, hx⟩ : ∃ x, L[j]? = some x := ⟨_, List.getElem?_eq_getElem hlt⟩
      rcases HC.out with e | ⟨b, off, rfl, hc⟩
      · rw [e] at hlt; simp at hlt
      obtain ⟨y0, y1⟩ := qCells_at L j x hx
      have z0 := hc _ _ y0
      have z1 := hc _ _ y1
      rw [← Nat.add_assoc] at z1
      have g0 : (0 : Int) ≤ (j : Int) := by omega
      have g1 : (j : Int) < (L.length : Int) := by omega
      have w1' : wrap64 ((j : Int) + 1) = (j : Int) + 1 := by unfold wrap64; omega
      have W1 := Lib.hid w1'
      have MEAS := Lib.hid (show L.length - (intOf (.int .i64 ((j : Int) + 1))).toNat < L.length - (intOf (.int .i64 (j : Int))).toNat by simp [intOf]; omega)
      have NX := Lib.hid (show x ≠ (f, n) → ∃ j' : Nat, j' ≤ L.length ∧ Value.int .i64 ((j : Int) + 1) = .int .i64 (j' : Int) ∧ True ∧ Hid (∀ m y, m < j' → L[m]? = some y → y ≠ (f, n)) from fun hne => ⟨j + 1, hlt, rfl, trivial, Lib.hid (fun m y hm hy => by
        by_cases e : m = j
        · subst e; rw [hx] at hy; cases hy; exact hne
        · exact HO.out m y (by omega) hy)⟩)
      by_cases hf : x.1 = f
      · have hq : (x.1 == f) = true := by simp [hf]
        by_cases hn2 : x.2 = n
        · have hq2 : ((x.2 : Int) == (n : Int)) = true := by simp [hn2]
          have E := Lib.hid (show decide ((f, n) ∈ L) = true from decide_eq_true (by rw [← hf, ← hn2]; exact List.mem_of_getElem? hx))
          clear hc hx hlt hj w1' y0 y1 HO NX hf hn2
          go_wp2
          go_ret
          exact ⟨by rw [E.out]; rfl, rfl⟩
        · have hq2 : ((x.2 : Int) == (n : Int)) = false := by rw [beq_eq_false_iff_ne]; omega
          have NX2 := Lib.hid (NX.out (fun e => hn2 (by rw [e])))
          clear hc hx hlt hj w1' y0 y1 HO NX hf hn2
          go_wp2
          go_roundw
          case rel => first | (simpa using NX2.out) | (rw [W1.out]; simpa using NX2.out)
          case measure => first | exact MEAS.out | (rw [W1.out]; exact MEAS.out)
      · have hq : (x.1 == f) = false := by simp [hf]
        have NX2 := Lib.hid (NX.out (fun e => hf (by rw [e])))
        clear hc hx hlt hj w1' y0 y1 HO NX hf
        go_wp2
        go_roundw
        case rel => first | (simpa using NX2.out) | (rw [W1.out]; simpa using NX2.out)
        case measure => first | exact MEAS.out | (rw [W1.out]; exact MEAS.out)
    · have g1 : ¬ (j : Int) < (L.length : Int) := by omega
      have E := Lib.hid (show decide ((f, n) ∈ L) = false from decide_eq_false (fun hm => by
        obtain ⟨m, hm'⟩ := List.getElem?_of_mem hm
        exact HO.out m _ (by have := (List.getElem?_eq_some_iff.1 hm').1; omega) hm' rfl))
      clear hlt hj HO
      go_wp2
      go_ret
      exact ⟨by rw [E.out]; rfl, rfl⟩
end Go.Proofs.YtdejajpmebgidaaDoor
