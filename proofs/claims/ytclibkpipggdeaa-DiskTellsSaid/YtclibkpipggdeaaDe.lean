/-
  THE LAWS OF LAYER 3: played, after, byteAt.
-/
import Derived.Test.YtclibkpipggdeaaDc
namespace Go.Proofs.Ytclibkpipggdeaa
open Go.RowKit Go.Maps WireM DiskM
set_option linter.unusedVariables false
set_option linter.unusedSimpArgs false

theorem act_keep (s : St) (A : ActV) : (actS s A).1.keep = s.keep ∨ (actS s A).1.keep = [] ∨ (actS s A).1.keep = A.keep := by
  have two : ∀ {l : List Int}, (l = s.keep ∨ l = []) → l = s.keep ∨ l = [] ∨ l = A.keep := fun h => h.elim .inl (fun h => .inr (.inl h))
  unfold actS
  split
  · refine two ?_
    unfold St.sync
    split
    · exact begin_keep s _
    · split <;> exact begin_keep s A.f
  split
  · refine two ?_
    unfold St.trunc
    split
    · exact begin_keep s _
    · split <;> exact begin_keep s A.f
  split
  · exact .inl rfl
  split
  · exact .inr (.inr rfl)
  split
  · exact two (crash_keep s _)
  split
  · exact .inl rfl
  · refine two ?_
    unfold St.write
    split
    · exact .inl rfl
    · split
      · exact strike_keep (s.add _ _ _) _
      · exact strike_keep s _
theorem act_keep60 {s : St} {A : ActV} (h : s.keep.length ≤ 60) (hA : A.keep.length ≤ 60) : (actS s A).1.keep.length ≤ 60 := by
  rcases act_keep s A with e | e | e <;> rw [e]
  · exact h
  · simp
  · exact hA
def runActs (s : St) (l : List ActV) : St := l.foldl (fun s A => (actS s A).1) s
theorem runActs_snoc (s : St) (l : List ActV) {j : Nat} {A : ActV} (h : l[j]? = some A) : runActs s (l.take (j + 1)) = (actS (runActs s (l.take j)) A).1 := by
  have hl := (List.getElem?_eq_some_iff.1 h).1
  have hs : l[j] = A := (List.getElem?_eq_some_iff.1 h).2
  unfold runActs
  rw [List.take_succ_eq_append_getElem hl, hs, List.foldl_append]
  rfl
/-- A disk whose blocks lie from B on. -/
def DAt (B : Nat) (w : World) (p : Nat) (s : St) (q : Parts) : Prop := DiskIs w p s q ∧ (∀ b, Mine p q b → B ≤ b) ∧ s.keep.length ≤ 60
theorem DAt.turn {B : Nat} {w w' : World} {p : Nat} {s s' : St} {q : Parts} (h : DAt B w p s q) (hB : B ≤ w.heap.size) (ht : Turn w p q s' w') (hk : s'.keep.length ≤ 60) : (∃ q', DAt B w' p s' q') ∧ Below B w w' := by
  obtain ⟨q', h1, m1, c1⟩ := ht
  refine ⟨⟨q', h1, fun b hb => ?_, hk⟩, c1.below hB (fun k hk hm => by have := h.2.1 k hm; omega)⟩
  rcases m1 b hb with h2 | h2
  · exact h.2.1 b h2
  · omega
end Go.Proofs.Ytclibkpipggdeaa
