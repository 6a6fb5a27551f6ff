/-
  FramesLeast.
-/
import Derived.Test.YtpabkaihppnddaaCq
namespace Go.Proofs.Ytpabkaihppnddaa
open Go.RowKit
set_option linter.unusedVariables false
set_option linter.unusedSimpArgs false
set_option maxRecDepth 100000
theorem hole_first {L : Fm} {m : Nat} (hm : L[m]? = some none) (h : ∀ k, k < m → ∃ q, L[k]? = some (some q)) : L.hole = m := by
  have hk : ∀ k, k ≤ m → k ≤ L.hole := by
    intro k
    induction k with
    | zero => intro _; exact Nat.zero_le _
    | succ k ih =>
      intro hkm
      obtain ⟨q, hq⟩ := h k (by omega)
      exact Fm.hole_some (ih (by omega)) hq
  exact Fm.hole_none (hk m (Nat.le_refl _)) hm
theorem hole_full {L : Fm} (h : ∀ k, k < L.length → ∃ q, L[k]? = some (some q)) : ¬ L.hole < L.length := fun hl => by
  have e := hole_is hl
  obtain ⟨q, hq⟩ := h _ hl
  rw [e] at hq
  cases hq
theorem alloc_at {L : Fm} {m : Nat} (hm : L[m]? = some none) (h : ∀ k, k < m → ∃ q, L[k]? = some (some q)) : L.alloc = (L.set m (some zpage), (m : Int), true) := by
  have e := hole_first hm h
  unfold Fm.alloc
  rw [e, if_pos (List.getElem?_eq_some_iff.1 hm).1]
theorem alloc_full {L : Fm} (h : ∀ k, k < L.length → ∃ q, L[k]? = some (some q)) : L.alloc = (L, 0, false) := by unfold Fm.alloc; rw [if_neg (hole_full h)]
/-- The frames below i are allocated; of the others those that are not marked. -/
def Below3 (N : Nat) (F : List Bool) (i : Nat) (L : Fm) : Prop := L.length = N ∧ F.length = N ∧ ∀ k, k < N → (k < i ∨ F[k]? = some false → ∃ q, L[k]? = some (some q)) ∧ (i ≤ k → F[k]? = some true → L[k]? = some none)
def marks (L : Fm) : List Bool := L.map (fun o => !o.isSome)
def bitCells (F : List Bool) : List Value := F.map .bool
theorem marks_at {L : Fm} {k : Nat} {o : Option (List UInt8)} (h : L[k]? = some o) : (marks L)[k]? = some (!o.isSome) := by simp [marks, h]
theorem bits_at {F : List Bool} {k : Nat} {b : Bool} (h : F[k]? = some b) : (bitCells F)[k]? = some (.bool b) := by simp [bitCells, h]
theorem marks_set (L : Fm) (k : Nat) : (bitCells (marks L)).set k (.bool true) = bitCells (marks (L.set k none)) := by simp [bitCells, marks, List.map_set]
theorem marks_same {L : Fm} {k : Nat} (h : L[k]? = some none) : L.set k none = L := by
  apply List.ext_getElem?
  intro i
  rw [List.getElem?_set]
  split
  · rename_i e; subst e; rw [if_pos (List.getElem?_eq_some_iff.1 h).1]; exact h.symm
  · rfl
theorem below3_start {N : Nat} {L : Fm} (h : L.length = N) : Below3 N (marks L) 0 L := ⟨h, by simp [marks, h], fun k hk => by
  obtain ⟨o, ho⟩ : ∃ o, L[k]? = some o := ⟨_, List.getElem?_eq_getElem (by omega)⟩
  rw [marks_at ho]
  cases o with
  | none => exact ⟨fun e => by rcases e with e | e <;> simp at e, fun _ _ => ho⟩
  | some q => exact ⟨fun _ => ⟨q, ho⟩, fun _ e => by simp at e⟩⟩
theorem below3_skip {N i : Nat} {F : List Bool} {L : Fm} (h : Below3 N F i L) (hF : F[i]? = some false) : Below3 N F (i + 1) L := ⟨h.1, h.2.1, fun k hk => by
  obtain ⟨h1, h2⟩ := h.2.2 k hk
  refine ⟨fun e => ?_, fun e => h2 (by omega)⟩
  by_cases c : k = i
  · subst c; exact h1 (.inr hF)
  · exact h1 (e.imp (fun e => by omega) id)⟩
theorem below3_alloc {N i : Nat} {F : List Bool} {L : Fm} (h : Below3 N F i L) (hi : i < N) (hF : F[i]? = some true) : L.alloc = (L.set i (some zpage), (i : Int), true) ∧ Below3 N F (i + 1) (L.set i (some zpage)) := by
  have hn := (h.2.2 i hi).2 (Nat.le_refl _) hF
  refine ⟨alloc_at hn (fun k hk => (h.2.2 k (by omega)).1 (.inl hk)), by simp [h.1], h.2.1, fun k hk => ?_⟩
  obtain ⟨h1, h2⟩ := h.2.2 k hk
  have hl := h.1
  rw [List.getElem?_set]
  by_cases c : i = k
  · subst c
    rw [if_pos rfl, if_pos (by omega)]
    exact ⟨fun _ => ⟨_, rfl⟩, fun e => by omega⟩
  · rw [if_neg c]
    exact ⟨fun e => h1 (e.imp (fun e => by omega) id), fun e => h2 (by omega)⟩
theorem below3_end {N : Nat} {F : List Bool} {L : Fm} (h : Below3 N F N L) : L.alloc = (L, 0, false) ∧ L.used = N := by
  have hf : ∀ k, k < L.length → ∃ q, L[k]? = some (some q) := fun k hk => by
    have := h.1
    exact (h.2.2 k (by omega)).1 (.inl (by omega))
  exact ⟨alloc_full hf, by rw [used_full (hole_full hf)]; exact h.1⟩
/-- The first i frames are allocated, the others free. -/
def First (N i : Nat) (L : Fm) : Prop := L.length = N ∧ ∀ k, k < N → (k < i → ∃ q, L[k]? = some (some q)) ∧ (i ≤ k → L[k]? = some none)
theorem first_new (N : Nat) (h : N ≤ 60) : First N 0 (Fm.new N) := by
  have e : Fm.new N = List.replicate N none := by unfold Fm.new; congr 1; omega
  rw [e]
  exact ⟨by simp, fun k hk => ⟨fun e => by omega, fun _ => by rw [List.getElem?_replicate, if_pos hk]⟩⟩
theorem first_step {N i : Nat} {L : Fm} (h : First N i L) (hi : i < N) (s : ByteArray) : L.alloc = (L.set i (some zpage), (i : Int), true) ∧ Fm.fill (L.set i (some zpage)) (i : Int) s = (L.set i (some (fillOf s)), 0) ∧ First N (i + 1) (L.set i (some (fillOf s))) := by
  have hl := h.1
  refine ⟨alloc_at ((h.2 i hi).2 (Nat.le_refl _)) (fun k hk => (h.2 k (by omega)).1 hk), ?_, by simp [hl], fun k hk => ?_⟩
  · unfold Fm.fill Fm.has
    rw [Fm.pg_at, List.getElem?_set_self (by omega)]
    simp
  · obtain ⟨h1, h2⟩ := h.2 k hk
    rw [List.getElem?_set]
    by_cases c : i = k
    · subst c
      rw [if_pos rfl, if_pos (by omega)]
      exact ⟨fun _ => ⟨_, rfl⟩, fun e => by omega⟩
    · rw [if_neg c]
      exact ⟨fun e => h1 (by omega), fun e => h2 (by omega)⟩
inductive Way2 (N : Nat) (L : Fm) (f : Int) : Prop
  | take (m : Nat) (q : List UInt8) : f = m → m < N → L[m]? = some (some q) → L.free f = (L.set m none, 0) → Way2 N L f
  | gone (m : Nat) : f = m → m < N → L[m]? = some none → L.free f = (L, 4) → Way2 N L f
  | out : ¬ (0 ≤ f ∧ f < N) → L.free f = (L, 4) → Way2 N L f
theorem way2_of {N : Nat} {L : Fm} (h : L.length = N) (f : Int) : Way2 N L f := by
  by_cases c : 0 ≤ f ∧ f < N
  · obtain ⟨m, rfl⟩ : ∃ m : Nat, f = m := ⟨f.toNat, by omega⟩
    obtain ⟨o, ho⟩ : ∃ o, L[m]? = some o := ⟨_, List.getElem?_eq_getElem (by omega)⟩
    cases o with
    | none =>
      refine .gone m rfl (by omega) ho ?_
      unfold Fm.free Fm.has; rw [Fm.pg_at, ho]; rfl
    | some q =>
      refine .take m q rfl (by omega) ho ?_
      unfold Fm.free Fm.has; rw [Fm.pg_at, ho]; simp
  · refine .out c ?_
    unfold Fm.free Fm.has
    by_cases c0 : 0 ≤ f
    · rw [Fm.pg_big L (by omega)]; rfl
    · rw [Fm.pg_neg L (by omega)]; rfl
end Go.Proofs.Ytpabkaihppnddaa
