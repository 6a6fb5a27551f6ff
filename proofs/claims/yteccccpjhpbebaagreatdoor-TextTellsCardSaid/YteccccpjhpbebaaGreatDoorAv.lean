/-
  TextTells returns true for every int, two strings and a slice of strings, and leaves memory that was there as it was: THE STATEMENT (the tied card).
  Conditions: those of the card alone: the listed package-level variables of the library hold what the program's text lays (the card ties them).
-/
import Derived.Test.YteccccpjhpbebaaGreatDoorUt
import Derived.Test.YteccccpjhpbebaaGreatDoorFt
import Derived.Test.YteccccpjhpbebaaGreatDoorCards
import Derived.Test.YteccccpjhpbebaaGreatDoorTie
import Derived.SevenTiedAt
import Derived.Deep.Slices
import Derived.SliceStrings
namespace Go.Proofs.YteccccpjhpbebaaGreatDoor.textTellsDone
open Go.ChangeShapes Go.WideShapes Go.ChangeAt Go.RowKit
open Go.ChangeMaps (open_string shut_string)
set_option linter.unusedVariables false
set_option linter.unusedSimpArgs false

section
variable {H : Type} {enc : TypeId × Value → H} {w : World} {base : Nat} {spare : Nat → Bool} {held : Bool}

theorem add_eq {a : Addr} {j : Nat} {v : Value} (h : w.cell? (a.add j) = some v) : a.add j = ⟨a.block, a.off + j, none⟩ ∧ a.block < w.heap.size := by
  have hs := World.cell?_spot h
  have hb : (a.add j).block = a.block := by unfold Addr.add; split <;> rfl
  have e : a.add j = ⟨a.block, a.off + j, none⟩ := by
    obtain ⟨x, y, z⟩ := a
    by_cases h0 : j = 0
    · subst h0
      simp only [Addr.add, if_true] at hs ⊢
      subst hs
      rfl
    · simp only [Addr.add, if_neg h0]
  refine ⟨e, ?_⟩
  rcases Nat.lt_or_ge a.block w.heap.size with h' | h'
  · exact h'
  · rw [e] at h
    simp [World.cell?, Array.getElem?_eq_none h'] at h
theorem vals_texts {n : Nat} {v : Value} {x : DataW H × List MemPlace} (h : DataW.trod enc Tryz.prog w base spare held n 22 [v] = some x) :
    ∃ (a : Option Addr) (cap : Nat) (T : List ByteArray), v = .slice a T.length cap ∧ CellsAt w a (T.map Value.string) ∧ T.length ≤ maxLen ∧ ∀ t ∈ T, t.size ≤ maxLen := by
  rcases open_strings Tryz.underlying22 Tryz.underlying9 (by kernel_rfl) h with ⟨hcs, _⟩ | ⟨a, len, cap, zs, hcs, _, hl, hm, hz, _, hcell, hwf⟩
  · simp at hcs
    exact ⟨none, 0, [], hcs, .inl rfl, by simp, by simp⟩
  · simp at hcs
    have hle : len ≤ zs.length := by rw [hz]; split <;> omega
    have hlen : (zs.take len).length = len := by rw [List.length_take, Nat.min_eq_left hle]
    refine ⟨some a, cap, zs.take len, by rw [hlen]; exact hcs, ?_, by omega, fun t ht => hwf t (List.mem_of_mem_take ht)⟩
    by_cases h0 : len = 0
    · left; simp [h0]
    · right
      obtain ⟨e0, hb⟩ := add_eq (hcell 0 (by omega))
      refine ⟨a.block, a.off, ?_, hb, fun i hi => ?_⟩
      · have : a.add 0 = a := by unfold Addr.add; simp
        rw [← this, e0]
      · have hi' : i < len := by simpa [Nat.min_eq_left hle] using hi
        have hc := hcell i (by omega)
        rw [(add_eq hc).1] at hc
        rw [hc, List.getElem?_map, List.getElem?_take_of_lt hi', List.getElem?_eq_getElem (by omega)]
        simp [List.getD, show i < zs.length by omega]
end

set_option maxRecDepth 100000 in
theorem lifted (os : Os) (started : os.Started) (H : Type) (enc : TypeId × Value → H) :
    ReturnsInHanded {} Tryz.checked os 3 .any (fun w args => (Rows.textTellsSpec.pre enc Tryz.prog Tryz.f3 [] false w args ∧ laidMetH Tryz.prog laid7 w) ∧ sizedMet enc Tryz.prog Tryz.f3 (OpenSpec.ofChange Rows.textTellsSpec) false w args)
      (Rows.textTellsSpec.post enc Tryz.prog Tryz.f3 false true false false) := by
  refine returns_shaped (C := Tryz.checked) (X := fun w _ => laidMetH Tryz.prog laid7 w) (fun _ _ _ hh h => h.of_heap hh) own started (by kernel_rfl) Tryz.func3
    (ChangeSpec.witness_shaped (enc := enc) (C := Tryz.checked) (os := os) (X := fun w _ => laidMetH Tryz.prog laid7 w) false (putFirst (World.doorLaid Tryz.prog 1000 os)) #[.int .i64 0, .string .empty, .string .empty, .slice none 0 0] 8 rfl (World.shaped_of_RefB (by kernel_rfl) (by kernel_rfl)) (by kernel_rfl) (by kernel_rfl) (by kernel_rfl) (door_met os _)) ?_
  intro W base args ds gs before hval0 hW hL hS
  have hval : ∀ (j : Nat) t v, Tryz.f3.params[j]? = some t → args[j]? = some v → Value.okWide Tryz.prog W .any base t v := hval0
  have hW' := hW
  obtain ⟨pp, q, hA0, hV, rfl, hfz, hnd⟩ := hW
  have hA : DataW.TrodAll enc Tryz.prog W 0 (fun _ => true) true Tryz.f3.params.toList args.toList ds pp := hA0
  rw [Tryz.params3] at hA hval
  obtain ⟨v0, vs0, d0, ds0, p0, q0, hargs, rfl, rfl, h0, r0⟩ := trodAll_cons hA
  obtain ⟨v1, vs1, d1, ds1, p1, q1, rfl, rfl, rfl, h1, r1⟩ := trodAll_cons r0
  obtain ⟨v2, vs2, d2, ds2, p2, q2, rfl, rfl, rfl, h2, r2⟩ := trodAll_cons r1
  obtain ⟨v3, vs3, d3, ds3, p3, q3, rfl, rfl, rfl, h3, r3⟩ := trodAll_cons r2
  obtain ⟨rfl, rfl, rfl⟩ := trodAll_nil r3
  obtain rfl : args = #[v0, v1, v2, v3] := by cases args; simp_all
  obtain ⟨rfl, rfl⟩ := trodVars_none hV
  have k3 := h3
  have lt3 : ∀ x ∈ p3, x.block < W.heap.size := by obtain ⟨m, hm⟩ := k3; exact DataW.trod_lt m _ _ _ hm
  obtain ⟨a0, len0, cap0, rfl⟩ := okWide_slice Tryz.underlying22 (hval 3 22 v3 rfl rfl)
  obtain ⟨m0, hm0⟩ := h3
  obtain ⟨a, cap, T, hv3, hcells, hTl, hTs⟩ := vals_texts hm0
  rw [hv3] at k3 hW' hval ⊢
  obtain ⟨n, rfl, rfl, rfl, wn⟩ := open_int Tryz.underlying3 (hval 0 3 v0 rfl rfl) h0
  obtain ⟨s, rfl, rfl, rfl, hs⟩ := open_string Tryz.underlying9 (hval 1 9 v1 rfl rfl) h1
  obtain ⟨p, rfl, rfl, rfl, hp⟩ := open_string Tryz.underlying9 (hval 2 9 v2 rfl rfl) h2
  have ht := of_laid hL hS
  clear hA0 hval0
  unfold maxLen at hTl hTs hs hp
  have hn : WireM.InR n := by
    have h := wn
    simp only [Lit.wf, IntKind.min, IntKind.max, IntKind.signed, IntKind.bits, Bool.and_eq_true, decide_eq_true_eq, if_true] at h
    unfold WireM.InR; omega
  refine (tells_any n s p a cap T W ht hn hcells (by omega) (by omega) (by omega) (fun t h => by have := hTs t h; omega)).mono fun e W' ⟨he, bel⟩ => ?_
  subst he
  exact ⟨_, rfl, _, _, _, [], _, [], hW', trodAll_mk1 (shut_bool Tryz.underlying4 _), (trodAll_cons_mk (shut_int Tryz.underlying3 wn) (trodAll_cons_mk (shut_string Tryz.underlying9 (by unfold maxLen; omega)) (trodAll_cons_mk (shut_string Tryz.underlying9 (by unfold maxLen; omega)) (trodAll_cons_mk (Below.trod laidOut (by kernel_rfl) (of_decide_eq_true (by kernel_rfl)) k3 bel lt3) trodAll_mk0)))), rfl, bel.frame _, fun h => by cases h⟩

theorem said : Rows.TextTellsSaid :=
  OpenClaim.holds_of_wide 3 Tryz.f3 rfl rfl rfl rfl rfl rfl rfl ⟨rfl, rfl, rfl, rfl, rfl⟩ rfl rfl rfl rfl rfl (by kernel_rfl) Tryz.func3 (by kernel_rfl)
    (of_decide_eq_true (by kernel_rfl)) (by unfold Func.isWrapper; rw [if_neg (of_decide_eq_false (by kernel_rfl))]; exact ⟨rfl, rfl⟩)
    (fun os started H enc _ => lifted os started H enc)

/-- ████ THE STATEMENT ████ -/
theorem proved : Rows.TextTellsCardSaid :=
  Claim7.holds_tied_plain_at .later [] [.data, .data, .data, .data, .sentinel, .sentinel, .pinned] true (true, "b38159ab113c3276e677f27e31b84705c05fff9929c262ba72d1927dbd89535a") true
    said (fun _ h => by cases h) (by kernel_rfl) (fun _ h => by cases h) textTells_row_tie rfl ⟨rfl, rfl⟩ (by kernel_rfl) rfl
    (fun f fn hf hfn => by
      obtain rfl : f = 3 := Option.some.inj ((show Tryz.prog.funcNamed "rehearsal/rehearsallaw02.TextTells" = some 3 by kernel_rfl).symm.trans hf) |>.symm
      obtain rfl : fn = Tryz.f3 := (Option.some.inj (Tryz.func3.symm.trans hfn)).symm
      exact ⟨by kernel_rfl, fun j t ht => by
        rw [Tryz.params3] at ht
        have hm : t ∈ [ 3, 9, 9, 22 ] := by simpa using Array.mem_of_getElem? ht
        have hall : ([ 3, 9, 9, 22 ].all fun u => !Tryz.prog.wantsStandIn u) = true := by kernel_rfl
        exact (show Tryz.prog.wantsStandIn t = false by simpa using List.all_eq_true.1 hall t hm)⟩)
    (by kernel_rfl)
#print axioms proved
end Go.Proofs.YteccccpjhpbebaaGreatDoor.textTellsDone
