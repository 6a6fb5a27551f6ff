/-
  PACKAGE disk: slices.IndexFunc and slices.DeleteFunc with the function that unlist hands over.
-/
import Derived.Test.YtdejajpmebgidaaDoorDq
namespace Go.Proofs.YtdejajpmebgidaaDoor
open Go.RowKit Go.Maps WireM DiskM
set_option linter.unusedVariables false
set_option linter.unusedSimpArgs false
set_option maxRecDepth 100000

/-- The set of pending sectors when j of them have been looked at. -/
def setAt (f : Int) (pend : List Sec) (j : Nat) : List Sec := (pend.take j).filter (fun x => decide (x.1 ≠ f)) ++ pend.drop j
theorem setAt_none {f : Int} {pend : List Sec} {j : Nat} (h : ∀ m s, m < j → pend[m]? = some s → s.1 ≠ f) : setAt f pend j = pend := by
  unfold setAt
  rw [List.filter_eq_self.2, List.take_append_drop]
  intro x hx
  obtain ⟨m, hm⟩ := List.getElem?_of_mem hx
  rw [List.getElem?_take] at hm
  split at hm
  · rename_i hlt
    simpa using h m x hlt hm
  · cases hm
theorem setAt_step {f : Int} {pend : List Sec} (hnd : pend.Nodup) {j : Nat} {s : Sec} (hj : pend[j]? = some s) : ∀ x, x ∈ delOf f (setAt f pend j) s ↔ x ∈ setAt f pend (j + 1) := by
  intro x
  have hl := (List.getElem?_eq_some_iff.1 hj).1
  have hs : pend[j] = s := (List.getElem?_eq_some_iff.1 hj).2
  have e1 : pend.take (j + 1) = pend.take j ++ [s] := by rw [List.take_succ_eq_append_getElem hl, hs]
  have e2 : pend.drop j = s :: pend.drop (j + 1) := by rw [List.drop_eq_getElem_cons hl, hs]
  have hsplit : pend = pend.take j ++ (s :: pend.drop (j + 1)) := by rw [← e2, List.take_append_drop]
  rw [hsplit] at hnd
  obtain ⟨n1, n2, n3⟩ := List.nodup_append.1 hnd
  obtain ⟨n4, n5⟩ := List.nodup_cons.1 n2
  unfold delOf setAt
  rw [e1, e2]
  have e4 : (pend.take j ++ [s]).filter (fun x => decide (x.1 ≠ f)) = (pend.take j).filter (fun x => decide (x.1 ≠ f)) ++ [s].filter (fun x => decide (x.1 ≠ f)) := List.filter_append ..
  rw [e4]
  by_cases hf : s.1 = f
  · have e3 : [s].filter (fun x => decide (x.1 ≠ f)) = [] := by simp [hf]
    rw [if_pos hf, e3, List.append_nil]
    simp only [List.mem_filter, List.mem_append, List.mem_cons, decide_eq_true_eq]
    constructor
    · rintro ⟨h1 | h1 | h1, h2⟩
      · exact .inl h1
      · exact absurd h1 h2
      · exact .inr h1
    · rintro (h1 | h1)
      · exact ⟨.inl h1, fun e => h1.2 (e ▸ hf)⟩
      · exact ⟨.inr (.inr h1), fun e => n4 (e ▸ h1)⟩
  · have e3 : [s].filter (fun x => decide (x.1 ≠ f)) = [s] := by simp [hf]
    rw [if_neg hf, e3, List.append_assoc]
    exact Iff.rfl
theorem setAt_in {f : Int} {pend : List Sec} (h : InS pend) (j : Nat) : InS (setAt f pend j) := fun s hs => by
  unfold setAt at hs
  rcases List.mem_append.1 hs with h1 | h1
  · exact h s (List.mem_of_mem_take (List.mem_filter.1 h1).1)
  · exact h s (List.mem_of_mem_drop h1)
abbrev delFn (bfx bdx : Nat) : Value := .func (.func 59) #[] #[.pointer (some ⟨bfx, 0, none⟩), .pointer (some ⟨bdx, 0, none⟩)]
/-- What IndexFunc finds. -/
def Found (w : World) (p bl bfx bdx : Nat) (f : Int) (pend : List Sec) (g cap : Nat) (e : Ending) (w' : World) : Prop :=
  RowD w' g cap pend ∧ Chg (fun b => b = bl) w w' ∧
    ((e = .returned (.int .i64 (-1)) ∧ Del w' p bl bfx bdx f pend ∧ ∀ s ∈ pend, s.1 ≠ f) ∨
     ∃ i s, e = .returned (.int .i64 (i : Nat)) ∧ pend[i]? = some s ∧ s.1 = f ∧ (∀ m s, m < i → pend[m]? = some s → s.1 ≠ f) ∧ Del w' p bl bfx bdx f (setAt f pend (i + 1)))
theorem row_after {w w' : World} {bl g cap : Nat} {d : List Sec} (hr : RowD w g cap d) (hl : ∃ es c, w.heap[bl]? = some (.map es c)) (hc : Chg (fun b => b = bl) w w') : RowD w' g cap d :=
  hr.block (hc.block g hr.lt (fun e => by
    obtain ⟨es, c, e1⟩ := hl
    obtain ⟨cur, e2, _⟩ := hr
    rw [e, e1] at e2; cases e2))
set_option maxHeartbeats 4000000 in
theorem indexFunc_any {w : World} {p bl bfx bdx g cap : Nat} {f : Int} {pend : List Sec} (h : Del w p bl bfx bdx f pend) (hin : InS pend) (hnd : pend.Nodup) (hr : RowD w g cap pend) (hlen : pend.length ≤ 1099511627776) :
    Calls Tryd.prog 61 #[.slice (some ⟨g, 0, none⟩) pend.length cap, delFn bfx bdx] w (Found w p bl bfx bdx f pend g cap) := by
  have HIN := Lib.hid hin
  have HND := Lib.hid hnd
  have HST := Lib.hid (show Del w p bl bfx bdx f pend ∧ RowD w g cap pend ∧ Chg (fun b => b = bl) w w from ⟨h, hr, Chg.refl _ _⟩)
  clear h hr hin hnd
  go_enter Tryd.func61, Tryd.ntmps61
  go_wp2_with fail
  go_loopw [8] (fun i wr => ∃ j : Nat, j ≤ pend.length ∧ i = .int .i64 j ∧ Hid (Del wr p bl bfx bdx f pend ∧ RowD wr g cap pend ∧ Chg (fun b => b = bl) w wr) ∧ Hid (∀ m s, m < j → pend[m]? = some s → s.1 ≠ f)) (fun i _ => pend.length - (intOf i).toNat)
  case atStart => exact ⟨0, Nat.zero_le _, rfl, HST, Lib.hid (fun m s hm => by omega)⟩
  case round =>
    obtain ⟨j, hj, rfl, HR, HM⟩ := hrel
    clear HST
    by_cases hlt : j < pend.length
    · obtain ⟨s, hs⟩ : ∃ s, pend[j]? = some s := ⟨_, List.getElem?_eq_getElem hlt⟩
      obtain ⟨hD, hR, hC⟩ := HR.out
      obtain ⟨r0, r1⟩ := hR.cell hs
      have hS := HIN.out s (List.mem_of_getElem? hs)
      have CL := Lib.hid (closure_any hD HIN.out s.1 s.2 hS.1 hS.2)
      have w1 : wrap64 ((j : Int) + 1) = (j : Int) + 1 := by unfold wrap64; omega
      have g0 : (0 : Int) ≤ (j : Int) := by omega
      have g1 : (j : Int) < (pend.length : Int) := by omega
      by_cases e : s.1 = f
      · have ed : decide (s.1 = f) = true := by simp [e]
        rw [ed] at CL
        have FIN := Lib.hid (show ∀ w', Del w' p bl bfx bdx f (delOf f pend (s.1, s.2)) → Chg (fun b => b = bl) wr w' → Found w p bl bfx bdx f pend g cap (.returned (.int .i64 (j : Nat))) w' from fun w' h1 h2 => by
          refine ⟨row_after hR hD.set.isMap h2, hC.trans h2 (fun i hi => .inl hi), .inr ⟨j, s, rfl, hs, e, HM.out, ⟨h1.num, h1.ptr, h1.fld, h1.set.congr (fun x => ?_)⟩⟩⟩
          rw [← setAt_step HND.out hs, setAt_none HM.out])
        clear hD hR hC hS hs hlt HR HM ed e hj
        go_wp2_with (go_at_call 59; refine CL.out.mono ?_; rintro e w' ⟨rfl, d1, d2⟩; have D1 := Lib.hid d1; have D2 := Lib.hid d2; clear d1 d2)
        go_ret
        exact FIN.out _ D1.out D2.out
      · have ed : decide (s.1 = f) = false := by simp [e]
        rw [ed] at CL
        have FIN := Lib.hid (show ∀ w', Del w' p bl bfx bdx f (delOf f pend (s.1, s.2)) → Chg (fun b => b = bl) wr w' → ∃ j' : Nat, j' ≤ pend.length ∧ Value.int .i64 ((j : Int) + 1) = .int .i64 (j' : Int) ∧ Hid (Del w' p bl bfx bdx f pend ∧ RowD w' g cap pend ∧ Chg (fun b => b = bl) w w') ∧ Hid (∀ m s, m < j' → pend[m]? = some s → s.1 ≠ f) from fun w' h1 h2 => by
          refine ⟨j + 1, hlt, rfl, Lib.hid ⟨?_, row_after hR hD.set.isMap h2, hC.trans h2 (fun i hi => .inl hi)⟩, Lib.hid (fun m s' hm hs' => ?_)⟩
          · unfold delOf at h1
            rwa [if_neg e] at h1
          · by_cases e2 : m = j
            · subst e2; rw [hs] at hs'; cases hs'; exact e
            · exact HM.out m s' (by omega) hs')
        have MEAS := Lib.hid (show pend.length - (intOf (.int .i64 ((j : Int) + 1))).toNat < pend.length - (intOf (.int .i64 (j : Int))).toNat by simp [intOf]; omega)
        have W1 := Lib.hid w1
        clear hD hR hC hS hs hlt HR HM ed e hj w1
        go_wp2_with (go_at_call 59; refine CL.out.mono ?_; rintro e w' ⟨rfl, d1, d2⟩; have D1 := Lib.hid d1; have D2 := Lib.hid d2; clear d1 d2)
        go_roundw
        case rel => first | exact FIN.out _ D1.out D2.out | (rw [W1.out]; exact FIN.out _ D1.out D2.out)
        case measure => first | exact MEAS.out | (rw [W1.out]; exact MEAS.out)
    · have hjk : j = pend.length := by omega
      have g1 : ¬ (j : Int) < (pend.length : Int) := by omega
      have FIN := Lib.hid (show Found w p bl bfx bdx f pend g cap (.returned (.int .i64 (-1))) wr from ⟨HR.out.2.1, HR.out.2.2, .inl ⟨rfl, HR.out.1, fun s hs => by
        obtain ⟨m, hm⟩ := List.getElem?_of_mem hs
        exact HM.out m s (by have := (List.getElem?_eq_some_iff.1 hm).1; omega) hm⟩⟩)
      clear hjk hj hlt HR HM
      go_wp2
      go_ret
      exact FIN.out
end Go.Proofs.YtdejajpmebgidaaDoor
