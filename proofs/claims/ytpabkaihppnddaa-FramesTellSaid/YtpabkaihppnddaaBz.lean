/-
  COMPOUND THINGS; ROWS THAT ARE MADE AND WRITTEN (no name of the program in this text).
-/
import Derived.Test.YtpabkaihppnddaaBa
import Derived.Deep.MidRow
namespace Go.Proofs.Ytpabkaihppnddaa
open Go.RowKit
set_option linter.unusedVariables false
set_option linter.unusedSimpArgs false
set_option maxRecDepth 100000

/-- Two things as one. -/
def kAnd (a b : Kd) : Kd where
  is := fun M w => ∃ M1 M2, a.is M1 w ∧ b.is M2 w ∧ (∀ x, M1 x → M2 x → False) ∧ ∀ x, M x ↔ M1 x ∨ M2 x
  lt := fun M w ⟨M1, M2, h1, h2, _, hm⟩ x hx => ((hm x).1 hx).elim (a.lt M1 w h1 x) (b.lt M2 w h2 x)
  same := fun M w w' ⟨M1, M2, h1, h2, hd, hm⟩ he => ⟨M1, M2, a.same _ _ _ h1 (fun x hx => he x ((hm x).2 (.inl hx))), b.same _ _ _ h2 (fun x hx => he x ((hm x).2 (.inr hx))), hd, hm⟩
/-- A thing of one of many forms. -/
def kEx {α : Type} (k : α → Kd) : Kd where
  is := fun M w => ∃ x, (k x).is M w
  lt := fun M w ⟨x, h⟩ => (k x).lt M w h
  same := fun M w w' ⟨x, h⟩ he => ⟨x, (k x).same M w w' h he⟩
/-- A thing, and a fact. -/
def kIf (φ : Prop) (k : Kd) : Kd where
  is := fun M w => φ ∧ k.is M w
  lt := fun M w ⟨_, h⟩ => k.lt M w h
  same := fun M w w' ⟨p, h⟩ he => ⟨p, k.same M w w' h he⟩
section
variable {w0 w w' : World} {S : Nat → Prop} {l : List Kd} {k k' a b : Kd}
theorem Tog.ofAnd (h : Tog w0 S w (kAnd a b :: l)) : Tog w0 S w (a :: b :: l) := by
  obtain ⟨_, h⟩ := h.split (k1 := fun _ : Unit => a) (k2 := fun _ => b) (fun M ⟨M1, M2, h1, h2, hd, hm⟩ => ⟨(), M1, M2, h1, h2, hd, fun x hx => (hm x).2 hx⟩)
  exact h
theorem Tog.toAnd (h : Tog w0 S w (a :: b :: l)) : Tog w0 S w (kAnd a b :: l) := h.merge (fun M1 M2 h1 h2 hd => ⟨M1, M2, h1, h2, hd, fun _ => Iff.rfl⟩)
theorem Tog.turnHead (h : Tog w0 S w (k :: l)) (hk : ∀ M, k.is M w → k'.is M w) : Tog w0 S w (k' :: l) := by
  obtain ⟨⟨Ms, h1, h2⟩, h3⟩ := h
  refine ⟨⟨Ms, fun i kj hi => ?_, h2⟩, h3⟩
  cases i with
  | zero => simp at hi; subst hi; exact ⟨hk _ (h1 0 k rfl).1, (h1 0 k rfl).2⟩
  | succ i => exact h1 (i + 1) kj hi
theorem Tog.ofEx {α : Type} {k : α → Kd} (h : Tog w0 S w (kEx k :: l)) : ∃ x, Tog w0 S w (k x :: l) := by
  obtain ⟨M, ⟨x, hx⟩, _⟩ := h.focus (i := 0) rfl
  obtain ⟨⟨Ms, h1, h2⟩, h3⟩ := h
  obtain ⟨⟨x, hx⟩, hS⟩ := h1 0 _ rfl
  refine ⟨x, ⟨Ms, fun i kj hi => ?_, h2⟩, h3⟩
  cases i with
  | zero => simp at hi; subst hi; exact ⟨hx, hS⟩
  | succ i => exact h1 (i + 1) kj hi
theorem Tog.toEx {α : Type} {k : α → Kd} (x : α) (h : Tog w0 S w (k x :: l)) : Tog w0 S w (kEx k :: l) := h.turnHead (fun M h => ⟨x, h⟩)
theorem Tog.ofIf {φ : Prop} (h : Tog w0 S w (kIf φ k :: l)) : φ ∧ Tog w0 S w (k :: l) := by
  obtain ⟨M, ⟨p, hx⟩, _⟩ := h.focus (i := 0) rfl
  exact ⟨p, h.turnHead (fun M h => h.2)⟩
theorem Tog.toIf {φ : Prop} (p : φ) (h : Tog w0 S w (k :: l)) : Tog w0 S w (kIf φ k :: l) := h.turnHead (fun M h => ⟨p, h⟩)
theorem Tog.factAt {φ : Prop} (h : Tog w0 S w l) {i : Nat} (hi : l[i]? = some (kIf φ k)) : φ := by
  obtain ⟨M, ⟨p, hx⟩, _⟩ := h.focus hi
  exact p

theorem Tog.front {m : List Kd} (h : Tog w0 S w (l ++ m)) : Tog w0 S w l :=
  h.sub id (fun i k hk => by rw [id, List.getElem?_append_left (List.getElem?_eq_some_iff.1 hk).1]; exact hk) (fun _ _ _ _ e => e)
/-- A thing that is wholly new. -/
theorem Tog.addNew (h : Tog w0 S w l) (h2 : Tog w (fun _ => False) w' [k]) : Tog w0 S w' (l ++ [k]) := by
  have ht := h2.top
  obtain ⟨⟨Ms, h1, _⟩, _⟩ := h2
  exact h.add ⟨Ms 0, (h1 0 k rfl).1, fun b hb => ((h1 0 k rfl).2 b hb).elim (fun e => e.elim) id⟩ ht
/-- Cells written into a row. -/
theorem row_setCells {base : Nat} {e : TypeId} {size n g cap : Nat} : ∀ (vs : List Value) (o : Nat) (w : World) (xs : List Value), w.ownsRow base e size (.slice (some ⟨g, 0, none⟩) n cap) n xs →
    ∃ ys, (w.setCells g o vs).ownsRow base e size (.slice (some ⟨g, 0, none⟩) n cap) n ys ∧ w.grownBy (w.setCells g o vs) (some g) ∧ ys.length = xs.length ∧ ∀ j, ys[j]? = if o ≤ j ∧ j < o + vs.length ∧ j < xs.length then vs[j - o]? else xs[j]?
  | [], o, w, xs, h => ⟨xs, h, ⟨rfl, rfl, rfl, Nat.le_refl _, fun _ _ _ => rfl⟩, rfl, fun j => by rw [if_neg (by simp; omega)]⟩
  | v :: r, o, w, xs, h => by
    obtain ⟨h1, g1⟩ := World.ownsRow.stored h o v
    obtain ⟨ys, h2, g2, e1, e2⟩ := row_setCells r (o + 1) _ _ h1
    refine ⟨ys, h2, g1.trans g2, by rw [e1, List.length_set], fun j => ?_⟩
    rw [e2 j, List.length_set, List.getElem?_set, List.length_cons]
    by_cases c1 : o + 1 ≤ j ∧ j < o + 1 + r.length ∧ j < xs.length
    · rw [if_pos c1, if_pos (by omega), show j - o = (j - (o + 1)) + 1 by omega, List.getElem?_cons_succ]
    · rw [if_neg c1]
      by_cases c2 : o = j
      · subst c2
        by_cases c3 : o < xs.length
        · rw [if_pos rfl, if_pos c3, if_pos (by omega), Nat.sub_self]; rfl
        · rw [if_pos rfl, if_neg c3, if_neg (by omega), List.getElem?_eq_none (by omega)]
      · rw [if_neg c2, if_neg (by omega)]
theorem row_setList {base : Nat} {e : TypeId} {size n g cap o : Nat} {w : World} {vs xs : List Value} (h : w.ownsRow base e size (.slice (some ⟨g, 0, none⟩) n cap) n xs) (ho : o + vs.length ≤ xs.length) :
    (w.setCells g o vs).ownsRow base e size (.slice (some ⟨g, 0, none⟩) n cap) n (xs.take o ++ vs ++ xs.drop (o + vs.length)) ∧ w.grownBy (w.setCells g o vs) (some g) := by
  obtain ⟨ys, h2, g2, e1, e2⟩ := row_setCells vs o w xs h
  have e : ys = xs.take o ++ vs ++ xs.drop (o + vs.length) := by
    apply List.ext_getElem?
    intro j
    rw [e2 j]
    have hlt : (xs.take o).length = o := by rw [List.length_take]; omega
    by_cases c1 : j < o
    · rw [if_neg (by omega), List.append_assoc, List.getElem?_append_left (by omega), List.getElem?_take_of_lt c1]
    · by_cases c2 : j < o + vs.length
      · rw [if_pos (by omega), List.append_assoc, List.getElem?_append_right (by omega), hlt, List.getElem?_append_left (by omega)]
      · rw [if_neg (by omega), List.getElem?_append_right (by rw [List.length_append]; omega), List.length_append, hlt, List.getElem?_drop]
        congr 1; omega
  exact ⟨e ▸ h2, g2⟩
/-- A row among other things, some of its cells written. -/
theorem Tog.setRow (h : Tog w0 S w l) {i : Nat} {E : TypeId} {size n g c o : Nat} {xs vs : List Value} (hi : l[i]? = some (kRow E size (.slice (some ⟨g, 0, none⟩) n c) n xs)) (ho : o + vs.length ≤ xs.length) :
    Tog w0 S (w.setCells g o vs) (l.set i (kRow E size (.slice (some ⟨g, 0, none⟩) n c) n (xs.take o ++ vs ++ xs.drop (o + vs.length)))) := by
  obtain ⟨M, ⟨h1, h2⟩, _, h5⟩ := h.focus hi
  obtain ⟨r1, r2⟩ := row_setList h2 ho
  exact h5 _ _ ⟨M, ⟨h1, r1⟩, fun b hb => .inl hb, Chg.of_grown r2 (fun k e => .inl ((h1 k).2 (by cases e; rfl)))⟩
/-- .. one cell. -/
theorem Tog.setOne (h : Tog w0 S w l) {i : Nat} {E : TypeId} {size n g c : Nat} {xs : List Value} (hi : l[i]? = some (kRow E size (.slice (some ⟨g, 0, none⟩) n c) n xs)) (j : Nat) (u : Value) :
    Tog w0 S (w.setCell ⟨g, j, none⟩ u) (l.set i (kRow E size (.slice (some ⟨g, 0, none⟩) n c) n (xs.set j u))) := by
  obtain ⟨M, ⟨h1, h2⟩, _, h5⟩ := h.focus hi
  obtain ⟨r1, r2⟩ := World.ownsRow.stored h2 j u
  exact h5 _ _ ⟨M, ⟨h1, r1⟩, fun b hb => .inl hb, Chg.of_grown r2 (fun k e => .inl ((h1 k).2 (by cases e; rfl)))⟩
/-- A slice literal's or make's block behind an alloc, as a row. -/
theorem Tog.rowCell (h : Tog w0 S w l) {i : Nat} {E : TypeId} {size n g c : Nat} {xs : List Value} (hi : l[i]? = some (kRow E size (.slice (some ⟨g, 0, none⟩) n c) n xs)) {j : Nat} {u : Value} (hj : xs[j]? = some u) : w.cell? ⟨g, j, none⟩ = some u := by
  have h1 := (h.rowAt hi).cells (g := g) rfl j u hj
  rw [addr_add, Nat.zero_add] at h1
  exact h1
theorem Tog.rowFz (h : Tog w0 S w l) {i : Nat} {E : TypeId} {size n g c : Nat} {xs : List Value} (hi : l[i]? = some (kRow E size (.slice (some ⟨g, 0, none⟩) n c) n xs)) (j : Nat) : w.frozen? ⟨g, j, none⟩ = false := World.ownsRow.frozenAt (h.rowAt hi) j
/-- A part of a row. -/
theorem Tog.rangeRow (h : Tog w0 S w l) {i : Nat} {E : TypeId} {size n g c : Nat} {xs : List Value} (hi : l[i]? = some (kRow E size (.slice (some ⟨g, 0, none⟩) n c) n xs)) (o m : Nat) : w.rangeAt g o ((xs.drop o).take m) := fun j v hv => by
  rw [List.getElem?_take] at hv
  split at hv
  · rw [List.getElem?_drop] at hv; exact h.rowCell hi hv
  · cases hv
theorem Tog.thereRow (h : Tog w0 S w l) {i : Nat} {E : TypeId} {size n g c : Nat} {xs : List Value} (hi : l[i]? = some (kRow E size (.slice (some ⟨g, 0, none⟩) n c) n xs)) {o m : Nat} (ho : o + m ≤ xs.length) : w.there g o m := fun j hj =>
  ⟨by rw [h.rowCell hi (List.getElem?_eq_getElem (show o + j < xs.length by omega))]; rfl, h.rowFz hi _⟩
end
/-- make, n a variable. -/
theorem El.make {P : Program} {St E : TypeId} {z : Value} {size bytes : Nat} (el : El P St E z size bytes) (n : Nat) (h63 : n ≤ maxLen) (hb : bytes * n ≤ 281474976710656) (W : World) :
    (Instr.makeSlice St (.int .i64 (n : Int)) (.int .i64 (n : Int))).run P W = .ok (.slice (some ⟨W.heap.size, 0, none⟩) n n) (W.alloc (.cells (madeCells z.cells (n * size)) E)) := by
  obtain ⟨i0, hi, hz0, hz1, hz2⟩ := info_parts el.info
  have h63' : (n : Int) ≤ 9223372036854775807 := by
    have h := h63
    simp [maxLen] at h
    omega
  have hb' : (i0.bytes : Int) * (n : Int) ≤ 281474976710656 := by
    have h : ((i0.bytes * n : Nat) : Int) ≤ 281474976710656 := by rw [hz2]; omega
    rwa [Int.natCast_mul] at h
  have hr := run_make (P := P) W St E i0 z el.und hi hz0 .i64 .i64 n n (by omega) (Int.le_refl _) hb' h63'
  simp only [Int.toNat_natCast] at hr
  rw [hz1] at hr
  exact hr
theorem madeCells_at (c : Array Value) (n j : Nat) (hj : j < n) : (madeCells c n)[j]? = some (c[j % c.size]!) := by simp [madeCells, hj]
end Go.Proofs.Ytpabkaihppnddaa
