/-
  TextLines returns true for every slice of strings and every string, and leaves memory that was there as it was: THE STATEMENT (the tied card).
  Conditions: those of the card alone: the listed package-level variables of the library hold what the program's text lays (the card ties them).
-/
import Derived.Test.YteccccpjhpbebaaDoorLy
import Derived.Test.YteccccpjhpbebaaDoorFt
import Derived.Test.YteccccpjhpbebaaDoorCards
import Derived.Test.YteccccpjhpbebaaDoorTie
import Derived.SevenTiedAt
import Derived.Deep.Slices
import Derived.SliceStrings
namespace Go.Proofs.YteccccpjhpbebaaDoor.textLinesDone
open Go.ChangeShapes Go.WideShapes Go.ChangeAt Go.RowKit
open Go.ChangeMaps (open_string shut_string)
set_option linter.unusedVariables false
set_option linter.unusedSimpArgs false

section
variable {H : Type} {enc : TypeId × Value → H} {w : World} {base : Nat} {spare : Nat → Bool} {held : Bool}

theorem add_eq {a : Addr} {j : Nat} {v : Value} (h : w.cell? (a.add j) = some v) : a.add j = ⟨a.block, a.off + j, none⟩ ∧ a.block < w.heap.size := by
  have hs := World.cell?_spot h
  have hb : (a.add j).block = a.block := by unfold Addr.add; split <;> rfl
  have e : a.add j = ⟨a.block, a.off + j, none⟩ := by
    obtain ⟨x, y, z⟩ := a
    by_cases h0 : j = 0
    · subst h0
      simp only [Addr.add, if_true] at hs ⊢
      subst hs
      rfl
    · simp only [Addr.add, if_neg h0]
  refine ⟨e, ?_⟩
  rcases Nat.lt_or_ge a.block w.heap.size with h' | h'
  · exact h'
  · rw [e] at h
    simp [World.cell?, Array.getElem?_eq_none h'] at h
theorem vals_texts {n : Nat} {v : Value} {x : DataW H × List MemPlace} (h : DataW.trod enc Tryd.prog w base spare held n 30 [v] = some x) :
    ∃ (a : Option Addr) (cap : Nat) (T : List ByteArray), v = .slice a T.length cap ∧ CellsAt w a (T.map Value.string) ∧ T.length ≤ maxLen ∧ ∀ t ∈ T, t.size ≤ maxLen := by
  rcases open_strings Tryd.underlying30 Tryd.underlying9 (by kernel_rfl) h with ⟨hcs, _⟩ | ⟨a, len, cap, zs, hcs, _, hl, hm, hz, _, hcell, hwf⟩
  · simp at hcs
    exact ⟨none, 0, [], hcs, .inl rfl, by simp, by simp⟩
  · simp at hcs
    have hle : len ≤ zs.length := by rw [hz]; split <;> omega
    have hlen : (zs.take len).length = len := by rw [List.length_take, Nat.min_eq_left hle]
    refine ⟨some a, cap, zs.take len, by rw [hlen]; exact hcs, ?_, by omega, fun t ht => hwf t (List.mem_of_mem_take ht)⟩
    by_cases h0 : len = 0
    · left; simp [h0]
    · right
      obtain ⟨e0, hb⟩ := add_eq (hcell 0 (by omega))
      refine ⟨a.block, a.off, ?_, hb, fun i hi => ?_⟩
      · have : a.add 0 = a := by unfold Addr.add; simp
        rw [← this, e0]
      · have hi' : i < len := by simpa [Nat.min_eq_left hle] using hi
        have hc := hcell i (by omega)
        rw [(add_eq hc).1] at hc
        rw [hc, List.getElem?_map, List.getElem?_take_of_lt hi', List.getElem?_eq_getElem (by omega)]
        simp [List.getD, show i < zs.length by omega]
end

set_option maxRecDepth 100000 in
theorem lifted (os : Os) (started : os.Started) (H : Type) (enc : TypeId × Value → H) :
    ReturnsInHanded {} Tryd.checked os 4 .any (fun w args => (Rows.textLinesSpec.pre enc Tryd.prog Tryd.f4 [] false w args ∧ laidMetH Tryd.prog laid7 w) ∧ sizedMet enc Tryd.prog Tryd.f4 (OpenSpec.ofChange Rows.textLinesSpec) false w args)
      (Rows.textLinesSpec.post enc Tryd.prog Tryd.f4 false true false false) := by
  refine returns_shaped (C := Tryd.checked) (X := fun w _ => laidMetH Tryd.prog laid7 w) (fun _ _ _ hh h => h.of_heap hh) own started (by kernel_rfl) Tryd.func4
    (ChangeSpec.witness_shaped (enc := enc) (C := Tryd.checked) (os := os) (X := fun w _ => laidMetH Tryd.prog laid7 w) false (putFirst (World.doorLaid Tryd.prog 1000 os)) #[.slice none 0 0, .string .empty] 8 rfl (World.shaped_of_RefB (by kernel_rfl) (by kernel_rfl)) (by kernel_rfl) (by kernel_rfl) (by kernel_rfl) (door_met os _)) ?_
  intro W base args ds gs before hval0 hW hL hS
  have hval : ∀ (j : Nat) t v, Tryd.f4.params[j]? = some t → args[j]? = some v → Value.okWide Tryd.prog W .any base t v := hval0
  have hW' := hW
  obtain ⟨p, q, hA0, hV, rfl, hfz, hnd⟩ := hW
  have hA : DataW.TrodAll enc Tryd.prog W 0 (fun _ => true) true Tryd.f4.params.toList args.toList ds p := hA0
  rw [Tryd.params4] at hA hval
  obtain ⟨v0, vs0, d0, ds0, p0, q0, hargs, rfl, rfl, h0, r0⟩ := trodAll_cons hA
  obtain ⟨v1, vs1, d1, ds1, p1, q1, rfl, rfl, rfl, h1, r1⟩ := trodAll_cons r0
  obtain ⟨rfl, rfl, rfl⟩ := trodAll_nil r1
  obtain rfl : args = #[v0, v1] := by cases args; simp_all
  obtain ⟨rfl, rfl⟩ := trodVars_none hV
  have k0 := h0
  have lt0 : ∀ x ∈ p0, x.block < W.heap.size := by obtain ⟨m, hm⟩ := k0; exact DataW.trod_lt m _ _ _ hm
  obtain ⟨a0, len0, cap0, rfl⟩ := okWide_slice Tryd.underlying30 (hval 0 30 v0 rfl rfl)
  obtain ⟨m0, hm0⟩ := h0
  obtain ⟨a, cap, T, hv0, hcells, hTl, hTs⟩ := vals_texts hm0
  rw [hv0] at k0 hW' hval ⊢
  obtain ⟨s, rfl, rfl, rfl, hs⟩ := open_string Tryd.underlying9 (hval 1 9 v1 rfl rfl) h1
  have ht := of_laid hL hS
  clear hA0 hval0
  unfold maxLen at hTl hTs hs
  refine (lineslaw_any a cap T s W ht hcells (by omega) (by omega) (fun t h => by have := hTs t h; omega)).mono fun e W' ⟨he, bel⟩ => ?_
  subst he
  exact ⟨_, rfl, _, _, _, [], _, [], hW', trodAll_mk1 (shut_bool Tryd.underlying4 _), (trodAll_cons_mk (Below.trod laidOut (by kernel_rfl) (of_decide_eq_true (by kernel_rfl)) k0 bel lt0) (trodAll_cons_mk (shut_string Tryd.underlying9 (by unfold maxLen; omega)) trodAll_mk0)), rfl, bel.frame _, fun h => by cases h⟩

theorem said : Rows.TextLinesSaid :=
  OpenClaim.holds_of_wide 4 Tryd.f4 rfl rfl rfl rfl rfl rfl rfl ⟨rfl, rfl, rfl, rfl, rfl⟩ rfl rfl rfl rfl rfl (by kernel_rfl) Tryd.func4 (by kernel_rfl)
    (of_decide_eq_true (by kernel_rfl)) (by unfold Func.isWrapper; rw [if_neg (of_decide_eq_false (by kernel_rfl))]; exact ⟨rfl, rfl⟩)
    (fun os started H enc _ => lifted os started H enc)

/-- ████ THE STATEMENT ████ -/
theorem proved : Rows.TextLinesCardSaid :=
  Claim7.holds_tied_plain_at .later [] [.data, .data, .data, .data, .sentinel, .sentinel, .pinned] true (true, "37451ff1d6d971a2230838cac965e1523ca296ecda094da912a05efb822ccf22") true
    said (fun _ h => by cases h) (by kernel_rfl) (fun _ h => by cases h) textLines_row_tie rfl ⟨rfl, rfl⟩ (by kernel_rfl) rfl
    (fun f fn hf hfn => by
      obtain rfl : f = 4 := Option.some.inj ((show Tryd.prog.funcNamed "rehearsal/rehearsallaw02.TextLines" = some 4 by kernel_rfl).symm.trans hf) |>.symm
      obtain rfl : fn = Tryd.f4 := (Option.some.inj (Tryd.func4.symm.trans hfn)).symm
      exact ⟨by kernel_rfl, fun j t ht => by
        rw [Tryd.params4] at ht
        have hm : t ∈ [ 30, 9 ] := by simpa using Array.mem_of_getElem? ht
        have hall : ([ 30, 9 ].all fun u => !Tryd.prog.wantsStandIn u) = true := by kernel_rfl
        exact (show Tryd.prog.wantsStandIn t = false by simpa using List.all_eq_true.1 hall t hm)⟩)
    (by kernel_rfl)
#print axioms proved
end Go.Proofs.YteccccpjhpbebaaDoor.textLinesDone
