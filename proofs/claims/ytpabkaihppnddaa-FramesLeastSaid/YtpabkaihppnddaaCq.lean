/-
  FramesHold: the ways of a turn; pages put and written.
-/
import Derived.Test.YtpabkaihppnddaaCo
namespace Go.Proofs.Ytpabkaihppnddaa
open Go.RowKit
set_option linter.unusedVariables false
set_option linter.unusedSimpArgs false
set_option maxRecDepth 100000
theorem used_set {L : Fm} {m : Nat} (h : L[m]? = some none) (q : List UInt8) : Fm.used (L.set m (some q)) = L.used + 1 := by
  unfold Fm.used
  have hl := (List.getElem?_eq_some_iff.1 h).1
  have he := (List.getElem?_eq_some_iff.1 h).2
  rw [List.set_eq_take_append_cons_drop, if_pos hl]
  have e : L = L.take m ++ none :: L.drop (m + 1) := by
    rw [← he, List.getElem_cons_drop, List.take_append_drop]
  conv => rhs; rw [e]
  simp [List.countP_append, List.countP_cons]
  omega
theorem used_full {L : Fm} (h : ¬ L.hole < L.length) : L.used = L.length := by
  unfold Fm.used
  rw [List.countP_eq_length]
  intro o ho
  cases o with
  | some q => rfl
  | none =>
    exfalso
    obtain ⟨k, hk⟩ := List.getElem?_of_mem ho
    have hk2 := (List.getElem?_eq_some_iff.1 hk).1
    have := Fm.hole_none (L := L) (k := k) (by have := L.hole_le; omega) hk
    omega
theorem hole_is {L : Fm} (h : L.hole < L.length) : L[L.hole]? = some none := by
  cases e : L[L.hole]? with
  | none => rw [List.getElem?_eq_none_iff] at e; omega
  | some o =>
    cases o with
    | none => rfl
    | some q => have := Fm.hole_some (Nat.le_refl _) e; omega
inductive Way (L : Fm) (A : OpV) : Prop
  | al (m : Nat) : A.d % 4 = 0 → L.op A = (L.set m (some zpage), (m : Int), true, 0) → m < L.length → L[m]? = some none → Way L A
  | nl : A.d % 4 = 0 → L.op A = (L, 0, false, 0) → L.used = L.length → Way L A
  | fr (m : Nat) (q : List UInt8) : A.d % 4 = 1 → A.f = m → L[m]? = some (some q) → L.op A = (L.set m none, 0, false, 0) → Way L A
  | nf : A.d % 4 = 1 → L.op A = (L, 0, false, 4) → Way L A
  | st (m k : Nat) (q : List UInt8) : A.d % 4 = 2 → A.f = m → A.a = k → k < 64 → L[m]? = some (some q) → L.op A = (L.set m (some (q.set k A.b)), 0, false, 0) → Way L A
  | ns (e : Int) : A.d % 4 = 2 → e = 3 ∨ e = 4 → L.op A = (L, 0, false, e) → Way L A
  | fi (m : Nat) (q : List UInt8) : A.d % 4 = 3 → A.f = m → L[m]? = some (some q) → L.op A = (L.set m (some (fillOf A.s)), 0, false, 0) → Way L A
  | nfi : A.d % 4 = 3 → L.op A = (L, 0, false, 4) → Way L A
theorem way_of (L : Fm) (A : OpV) : Way L A := by
  have hr : A.d % 4 = 0 ∨ A.d % 4 = 1 ∨ A.d % 4 = 2 ∨ A.d % 4 = 3 := by omega
  rcases hr with hr | hr | hr | hr
  · by_cases h : L.hole < L.length
    · refine .al L.hole hr ?_ h (hole_is h)
      unfold Fm.op Fm.alloc; rw [if_pos hr, if_pos h]
    · refine .nl hr ?_ (used_full h)
      unfold Fm.op Fm.alloc; rw [if_pos hr, if_neg h]
  · have e : L.op A = ((L.free A.f).1, 0, false, (L.free A.f).2) := by unfold Fm.op; rw [if_neg (by omega), if_pos hr]
    by_cases h : L.has A.f = true
    · obtain ⟨q, hp⟩ : ∃ q, L.pg A.f = some q := Option.isSome_iff_exists.1 h
      obtain ⟨m, hm, _, hq⟩ := Fm.pg_some hp
      refine .fr m q hr hm hq ?_
      rw [e]; unfold Fm.free; rw [if_pos h, hm, Int.toNat_natCast]
    · refine .nf hr ?_
      rw [e]; unfold Fm.free; rw [if_neg h]
  · have e : L.op A = ((L.put A.f A.a A.b).1, 0, false, (L.put A.f A.a A.b).2) := by unfold Fm.op; rw [if_neg (by omega), if_neg (by omega), if_pos hr]
    cases hp : L.pg A.f with
    | none =>
      refine .ns 4 hr (.inr rfl) ?_
      rw [e]; unfold Fm.put; rw [hp]
    | some q =>
      obtain ⟨m, hm, _, hq⟩ := Fm.pg_some hp
      by_cases h : 0 ≤ A.a ∧ A.a < 64
      · refine .st m A.a.toNat q hr hm (by omega) (by omega) hq ?_
        rw [e]; unfold Fm.put; rw [hp]; simp only; rw [if_pos h, hm, Int.toNat_natCast]
      · refine .ns 3 hr (.inl rfl) ?_
        rw [e]; unfold Fm.put; rw [hp]; simp only; rw [if_neg h]
  · have e : L.op A = ((L.fill A.f A.s).1, 0, false, (L.fill A.f A.s).2) := by unfold Fm.op; rw [if_neg (by omega), if_neg (by omega), if_neg (by omega)]
    by_cases h : L.has A.f = true
    · obtain ⟨q, hp⟩ : ∃ q, L.pg A.f = some q := Option.isSome_iff_exists.1 h
      obtain ⟨m, hm, _, hq⟩ := Fm.pg_some hp
      refine .fi m q hr hm hq ?_
      rw [e]; unfold Fm.fill; rw [if_pos h, hm, Int.toNat_natCast]
    · refine .nfi hr ?_
      rw [e]; unfold Fm.fill; rw [if_neg h]
section
variable {w0 w : World} {S : Nat → Prop} {l tl : List Kd} {k k' : Kd} {g N : Nat} {vs : List Value} {L : Fm}
/-- The last of the things in the place of another one. -/
theorem Tog.swapIn (h : Tog w0 S w (l ++ [k'])) {i : Nat} (hi : i < l.length) : Tog w0 S w (l.set i k') := by
  refine h.sub (fun j => if j = i then l.length else j) (fun j kj hj => ?_) (fun a b ha hb e => ?_)
  · rw [List.getElem?_set] at hj
    by_cases e : i = j
    · subst e
      rw [if_pos rfl, if_pos hi] at hj
      cases hj
      rw [if_pos rfl, List.getElem?_append_right (Nat.le_refl _), Nat.sub_self]; rfl
    · rw [if_neg e] at hj
      rw [if_neg (fun x => e x.symm), List.getElem?_append_left (List.getElem?_eq_some_iff.1 hj).1]
      exact hj
  · rw [List.length_set] at ha hb
    split at e <;> split at e <;> omega
theorem Tog.lastAt {g : Nat} {o : Obj} (h : Tog w0 S w (l ++ [kHeap g o])) : w.heap[g]? = some o :=
  h.heapAt (j := l.length) (by rw [List.getElem?_append_right (Nat.le_refl _), Nat.sub_self]; rfl)
/-- A page's slice is put into the slice of pages. -/
theorem Tog.putPage {v' : Value} {o' : Option (List UInt8)} {m : Nat} (h : Tog w0 S w ((k :: kOut g N vs :: (inn vs L ++ tl)) ++ [kPg v' o'])) (hv : vs.length = L.length) (hm : m < L.length) :
    (∃ u, w.cell? ⟨g, m, none⟩ = some u) ∧ w.frozen? ⟨g, m, none⟩ = false ∧ Tog w0 S (w.setCell ⟨g, m, none⟩ v') (k :: kOut g N (vs.set m v') :: (inn (vs.set m v') (L.set m o') ++ tl)) := by
  have hil := inn_len hv
  have h1 := h.swapIn (i := m + 2) (by simp [hil]; omega)
  rw [List.set_cons_succ, List.set_cons_succ, List.set_append_left _ _ (by omega), inn_set] at h1
  have h2 := h1.setOne (i := 1) rfl m v'
  exact ⟨⟨_, h.rowCell (i := 1) rfl (List.getElem?_eq_getElem (show m < vs.length by omega))⟩, h.rowFz (i := 1) rfl m, h2⟩
/-- A byte of a page is written. -/
theorem Tog.setByte {m j : Nat} {q : List UInt8} {b0 : UInt8} (h : Tog w0 S w (k :: kOut g N vs :: (inn vs L ++ tl))) (hv : vs.length = L.length) (ho : L[m]? = some (some q)) (hj : q[j]? = some b0) (b : UInt8) :
    ∃ gb c, vs[m]? = some (.slice (some ⟨gb, 0, none⟩) q.length c) ∧ w.cell? ⟨g, m, none⟩ = some (.slice (some ⟨gb, 0, none⟩) q.length c) ∧ w.cell? ⟨gb, j, none⟩ = some (.int .u8 (b0.toNat : Int)) ∧ w.frozen? ⟨gb, j, none⟩ = false ∧
      Tog w0 S (w.setCell ⟨gb, j, none⟩ (.int .u8 (b.toNat : Int))) (k :: kOut g N vs :: (inn vs (L.set m (some (q.set j b))) ++ tl)) := by
  have hl := (List.getElem?_eq_some_iff.1 ho).1
  obtain ⟨v, hv2⟩ : ∃ v, vs[m]? = some v := ⟨_, List.getElem?_eq_getElem (by omega)⟩
  have hi : (k :: kOut g N vs :: (inn vs L ++ tl))[m + 2]? = some (kPg v (some q)) := by
    rw [List.getElem?_cons_succ, List.getElem?_cons_succ, List.getElem?_append_left (by rw [inn_len hv]; exact hl)]
    exact inn_at hv2 ho
  obtain ⟨M, ⟨h0, a, c, e, H⟩, _, CL⟩ := h.focus hi
  obtain ⟨gb, rfl, hM, hc, hf⟩ := H j b0 hj
  subst e
  have hjl := (List.getElem?_eq_some_iff.1 hj).1
  refine ⟨gb, c, hv2, h.rowCell (i := 1) rfl hv2, hc, hf, ?_⟩
  have h3 := CL (kPg (.slice (some ⟨gb, 0, none⟩) q.length c) (some (q.set j b))) (w.setCell ⟨gb, j, none⟩ (.int .u8 (b.toNat : Int))) ⟨M, ⟨(fun x hx => by simp [World.setCell]; exact h0 x hx), some ⟨gb, 0, none⟩, c, by simp, (fun i bi hbi => ?_)⟩, fun x hx => .inl hx, Chg.set _ _ _ (.inl hM)⟩
  · rw [List.set_cons_succ, List.set_cons_succ, List.set_append_left _ _ (by rw [inn_len hv]; exact hl), inn_set] at h3
    have e2 : vs.set m (.slice (some ⟨gb, 0, none⟩) q.length c) = vs := by
      apply List.ext_getElem?
      intro i
      rw [List.getElem?_set]
      split
      · rename_i e; subst e; rw [if_pos (by omega)]; exact hv2.symm
      · rfl
    rw [e2] at h3
    exact h3
  · simp only [Option.getD_some] at hbi
    refine ⟨gb, rfl, hM, ?_, ?_⟩
    · rw [List.getElem?_set] at hbi
      split at hbi
      · rename_i e
        subst e
        cases hbi
        exact World.cell?_setCell_same _ _ _ hc
      · rename_i e
        obtain ⟨g2, e2, _, hc2, _⟩ := H i bi hbi
        cases e2
        rw [World.cell?_setCell_other _ _ _ _ (by simp)]
        exact hc2
    · have hil : i < q.length := by have := (List.getElem?_eq_some_iff.1 hbi).1; simpa using this
      obtain ⟨g2, e2, _, _, hf2⟩ := H i _ (List.getElem?_eq_getElem hil)
      cases e2
      rw [World.frozen?_setCell]
      exact hf2
/-- Fresh pages. -/
theorem Tog.nilPage (h : Tog w0 S w l) : Tog w0 S w (l ++ [kPg (.slice none 0 0) none]) :=
  h.add ⟨fun _ => False, ⟨fun b hb => hb.elim, none, 0, rfl, fun j b hb => by simp at hb⟩, fun b hb => hb.elim⟩ (Below.refl _ w)
theorem Tog.madePage (h : Tog w0 S w l) {q : List UInt8} : Tog w0 S (w.alloc (.cells (byteCells q).toArray 5)) (l ++ [kPg (.slice (some ⟨w.heap.size, 0, none⟩) q.length q.length) (some q)]) :=
  h.add ⟨fun b => b = w.heap.size, ⟨fun b hb => by subst hb; simp, some ⟨w.heap.size, 0, none⟩, q.length, rfl, fun j b hb => ⟨w.heap.size, rfl, rfl, by
    rw [cell_of_row _ _ _ _ _ _ (heap_alloc_last w _)]; simpa using byteCells_at hb, frozen_of_row _ _ _ _ _ (heap_alloc_last w _)⟩⟩, fun b hb => by subst hb; exact Nat.le_refl _⟩ ((Below.refl _ w).alloc (Nat.le_refl _) _)
theorem Tog.bufPage (h : Tog w0 S w l) {M : List UInt8} {g c : Nat} {w' : World} (hb : BB w.heap.size M g c w w') (n : Nat) (hn : n ≤ M.length) : Tog w0 S w' (l ++ [kPg (.slice (some ⟨g, 0, none⟩) n c) (some (M.take n))]) :=
  h.add ⟨fun b => b = g, ⟨fun b e => by subst e; exact hb.lt, some ⟨g, 0, none⟩, c, by simp; omega, fun j b hj => ⟨g, rfl, rfl, (hb.take n).bytes j b hj, by
    have h1 := (List.getElem?_eq_some_iff.1 hj).1
    have h2 := hb.room
    have h3 : ((some (M.take n)).getD []).length ≤ M.length := by simp; omega
    exact (hb.all j (by omega)).2⟩⟩, fun b e => by subst e; exact hb.own⟩ hb.bel
end
end Go.Proofs.Ytpabkaihppnddaa
