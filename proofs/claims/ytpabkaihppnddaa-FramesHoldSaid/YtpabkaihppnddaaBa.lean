/-
  THINGS IN MEMORY THAT SHARE NO BLOCKS: rows, blocks, what a call may turn, append (no name of the program in this text).
-/
import Derived.Test.YtpabkaihppnddaaProg
import Derived.WalkKit
import Derived.WalkSpells
import Derived.WalkLawsBesides
import Derived.Lib.Hide
import Derived.BigQuiet
import Derived.Deep.QuietTactic
import Derived.Outline
import Derived.Deep.RegionLaw
import Derived.Deep.RegionHeld3
import Derived.Deep.AppendLies
import Derived.Deep.AppendSrc
import Derived.Deep.DeepCutAuto
import Derived.StillTailTactics
import Derived.RegionTactic
import Derived.OwnWalk
import Derived.Lib.SliceRun
namespace Go.Proofs.Ytpabkaihppnddaa
open Go.RowKit
set_option linter.unusedVariables false
set_option linter.unusedSimpArgs false
set_option maxRecDepth 100000

def InI (n : Int) : Prop := -9223372036854775808 ≤ n ∧ n ≤ 9223372036854775807
/-- The world has grown; of the blocks that were there only those of a set may have turned. -/
structure Chg (S : Nat → Prop) (w w' : World) : Prop where
  os : w'.os = w.os
  tape : w'.tape = w.tape
  output : w'.output = w.output
  size : w.heap.size ≤ w'.heap.size
  block : ∀ k, k < w.heap.size → ¬ S k → w'.heap[k]? = w.heap[k]?
theorem Chg.refl (S : Nat → Prop) (w : World) : Chg S w w := ⟨rfl, rfl, rfl, Nat.le_refl _, fun _ _ _ => rfl⟩
theorem Chg.trans {S S' : Nat → Prop} {a b c : World} (h : Chg S a b) (k : Chg S' b c) (hS : ∀ i, S' i → S i ∨ a.heap.size ≤ i) : Chg S a c :=
  ⟨k.os.trans h.os, k.tape.trans h.tape, k.output.trans h.output, Nat.le_trans h.size k.size, fun i hi hn =>
    (k.block i (Nat.lt_of_lt_of_le hi h.size) (fun h1 => by
      rcases hS i h1 with h2 | h2
      · exact hn h2
      · omega)).trans (h.block i hi hn)⟩
theorem Chg.mono {S S' : Nat → Prop} {a b : World} (h : Chg S a b) (hS : ∀ i, i < a.heap.size → S i → S' i) : Chg S' a b := ⟨h.os, h.tape, h.output, h.size, fun k hk hn => h.block k hk (fun h1 => hn (hS k hk h1))⟩
theorem Chg.of_grown {S : Nat → Prop} {a b : World} {row : Option Nat} (h : a.grownBy b row) (hS : ∀ k, row = some k → S k ∨ a.heap.size ≤ k) : Chg S a b :=
  ⟨h.os, h.tape, h.output, h.size, fun k hk hn => h.block k hk (fun e => by
    rcases hS k e.symm with h1 | h1
    · exact hn h1
    · omega)⟩
theorem Chg.of_below {S : Nat → Prop} {a b : World} (h : Below a.heap.size a b) : Chg S a b := ⟨h.os, h.tape, h.output, h.size, fun k hk _ => h.block k hk⟩
theorem Chg.set {S : Nat → Prop} (w : World) {b : Nat} (o : Nat) (v : Value) (hS : S b ∨ w.heap.size ≤ b) : Chg S w (w.setCell ⟨b, o, none⟩ v) :=
  ⟨rfl, rfl, rfl, by simp [World.setCell], fun k hk hn => Below.heap_setCell _ _ _ _ (fun e => by
    rcases hS with h1 | h1
    · exact hn (e ▸ h1)
    · simp at e; omega)⟩
theorem Chg.alloc {S : Nat → Prop} (w : World) (o : Obj) : Chg S w (w.alloc o) := Chg.of_grown (World.grownBy_alloc w o none) (fun _ e => by cases e)
theorem Chg.drew {S : Nat → Prop} {a w : World} (h : Chg S a w) : Chg S a w.drew := ⟨h.os, h.tape, h.output, h.size, h.block⟩
theorem Chg.below {S : Nat → Prop} {B : Nat} {a b : World} (h : Chg S a b) (hB : B ≤ a.heap.size) (hS : ∀ k, k < B → ¬ S k) : Below B a b := ⟨h.os, h.tape, h.output, h.size, fun k hk => h.block k (by omega) (hS k hk)⟩
theorem Chg.cell {S : Nat → Prop} {a b : World} (h : Chg S a b) {p : Addr} (hp : p.block < a.heap.size) (hS : ¬ S p.block) : b.cell? p = a.cell? p := World.cell?_of_block (h.block _ hp hS)

theorem row_block {w w' : World} {base : Nat} {e : TypeId} {size n : Nat} {v : Value} {xs : List Value} (h : w.ownsRow base e size v n xs) (hb : ∀ k, v.ownBlock = some k → w'.heap[k]? = w.heap[k]?) : w'.ownsRow base e size v n xs := by
  refine ⟨h.1, ?_⟩
  rcases h.2 with hn | ⟨g, cap, cur, rfl, hbb, hgg, rest⟩
  · exact .inl hn
  · exact .inr ⟨g, cap, cur, rfl, hbb, (hb g rfl).trans hgg, rest⟩
theorem row_base {w : World} {base : Nat} {e : TypeId} {size n : Nat} {v : Value} {xs : List Value} (h : w.ownsRow base e size v n xs) : w.ownsRow 0 e size v n xs := by
  refine ⟨h.1, ?_⟩
  rcases h.2 with h2 | ⟨g, cap, cur, hv, hb, r⟩
  · exact .inl h2
  · exact .inr ⟨g, cap, cur, hv, Nat.zero_le _, r⟩
theorem row_tag {w : World} {base : Nat} {e : TypeId} {size n : Nat} {v : Value} {xs : List Value} (h : w.ownsRow base e size v n xs) {k : Nat} (hk : v.ownBlock = some k) : ∃ cur, w.heap[k]? = some (.cells cur e (0, 0)) := by
  rcases h.2 with ⟨rfl, _⟩ | ⟨g, cap, cur, rfl, hbb, hgg, rest⟩
  · simp [Value.ownBlock] at hk
  · simp [Value.ownBlock] at hk; subst hk; exact ⟨cur, hgg⟩
theorem row_form {w : World} {base : Nat} {e : TypeId} {size n : Nat} {v : Value} {xs : List Value} (h : w.ownsRow base e size v n xs) : ∃ a c, v = .slice a n c ∧ (a = none → n = 0) := by
  rcases h.2 with ⟨rfl, rfl⟩ | ⟨g, cap, cur, rfl, _⟩
  · exact ⟨none, 0, rfl, fun _ => rfl⟩
  · exact ⟨_, cap, rfl, fun e => by cases e⟩
theorem row_pos {w : World} {base : Nat} {e : TypeId} {size n : Nat} {v : Value} {xs : List Value} (h : w.ownsRow base e size v n xs) (hn : 0 < n) : ∃ g c, v = .slice (some ⟨g, 0, none⟩) n c ∧ g < w.heap.size := by
  obtain ⟨g, c, hv, _, hl⟩ := h.form hn
  exact ⟨g, c, hv, hl⟩
theorem addr_add (b o j : Nat) : (⟨b, o, none⟩ : Addr).add j = ⟨b, o + j, none⟩ := by unfold Addr.add; split <;> simp_all
/-- A slice that reads as cells: no element, or an address with the cells behind it. -/
def SrcAt (w : World) (v : Value) (n : Nat) (xs : List Value) : Prop :=
  ((∃ a c, v = .slice a 0 c) ∧ n = 0 ∧ xs = []) ∨ ∃ b off c, v = .slice (some ⟨b, off, none⟩) n c ∧ ∀ j u, xs[j]? = some u → w.cell? ⟨b, off + j, none⟩ = some u
theorem srcAt_row {w : World} {base : Nat} {e : TypeId} {size n : Nat} {v : Value} {xs : List Value} (h : w.ownsRow base e size v n xs) : SrcAt w v n xs := by
  rcases h.2 with ⟨rfl, rfl⟩ | ⟨g, cap, cur, rfl, hb, hg, hnc, hcm, hcs, htake⟩
  · exact .inl ⟨⟨none, 0, rfl⟩, rfl, List.eq_nil_of_length_eq_zero (by simpa using h.1)⟩
  · refine .inr ⟨g, 0, cap, rfl, fun j u hj => ?_⟩
    have h2 := h.cells (g := g) rfl j u hj
    rw [← addr_add]; exact h2
theorem srcAt_kept {S : Nat → Prop} {w w' : World} {v : Value} {n : Nat} {xs : List Value} (h : SrcAt w v n xs) (hc : Chg S w w') (hS : xs ≠ [] → ∀ b, v.ownBlock = some b → ¬ S b) (hl : ∀ b j, w.cell? ⟨b, j, none⟩ ≠ none → b < w.heap.size) : SrcAt w' v n xs := by
  rcases h with h | ⟨b, off, c, rfl, h⟩
  · exact .inl h
  · refine .inr ⟨b, off, c, rfl, fun j u hj => ?_⟩
    have h1 := h j u hj
    rw [← h1]
    exact hc.cell (hl b (off + j) (by rw [h1]; simp)) (hS (fun e => by rw [e] at hj; simp at hj) b rfl)

/-- A kind of thing in memory: its blocks, and what holds of it. It speaks of its own blocks alone. -/
structure Kd where
  is : (Nat → Prop) → World → Prop
  lt : ∀ M w, is M w → ∀ b, M b → b < w.heap.size
  same : ∀ M w w', is M w → (∀ b, M b → w'.heap[b]? = w.heap[b]?) → is M w'
/-- Things that share no blocks; each block lies in S or is younger than the world of the beginning, of which only S may have turned. -/
structure Tog (w0 : World) (S : Nat → Prop) (w : World) (l : List Kd) : Prop where
  ex : ∃ Ms : Nat → Nat → Prop, (∀ i k, l[i]? = some k → k.is (Ms i) w ∧ ∀ b, Ms i b → S b ∨ w0.heap.size ≤ b) ∧ ∀ i j b, i ≠ j → i < l.length → j < l.length → Ms i b → Ms j b → False
  chg : Chg S w0 w
section
variable {w0 w w' : World} {S : Nat → Prop} {l : List Kd} {k k' : Kd}
theorem Tog.nil (w : World) (S : Nat → Prop) : Tog w S w [] := ⟨⟨fun _ _ => False, fun i k h => by simp at h, fun i j b _ h => by simp at h⟩, Chg.refl _ _⟩
theorem Tog.on (h : Tog w0 S w l) (hb : Below w.heap.size w w') : Tog w0 S w' l := by
  obtain ⟨⟨Ms, h1, h2⟩, h3⟩ := h
  exact ⟨⟨Ms, fun i k hk => ⟨k.same _ _ _ (h1 i k hk).1 (fun b hm => hb.block b (k.lt _ _ (h1 i k hk).1 b hm)), (h1 i k hk).2⟩, h2⟩, h3.trans (Chg.of_below (S := fun _ => False) hb) (fun _ h => h.elim)⟩
theorem Tog.drew (h : Tog w0 S w l) : Tog w0 S w.drew l := h.on ⟨rfl, rfl, rfl, Nat.le_refl _, fun _ _ => rfl⟩
theorem Tog.drewN (h : Tog w0 S w l) (n : Nat) : Tog w0 S (w.drewN n) l := h.on ⟨rfl, rfl, rfl, Nat.le_refl _, fun _ _ => rfl⟩
/-- What a call makes of a thing. -/
def KTurn (M : Nat → Prop) (w : World) (k' : Kd) (w' : World) : Prop := ∃ M', k'.is M' w' ∧ (∀ b, M' b → M b ∨ w.heap.size ≤ b) ∧ Chg M w w'
theorem Tog.focus (h : Tog w0 S w l) {i : Nat} (hi : l[i]? = some k) : ∃ M, k.is M w ∧ (∀ b, M b → S b ∨ w0.heap.size ≤ b) ∧ ∀ k' w', KTurn M w k' w' → Tog w0 S w' (l.set i k') := by
  obtain ⟨⟨Ms, h1, h2⟩, h3⟩ := h
  have hil : i < l.length := (List.getElem?_eq_some_iff.1 hi).1
  refine ⟨Ms i, (h1 i k hi).1, (h1 i k hi).2, fun k' w' ⟨M', t1, t2, t3⟩ => ⟨⟨fun j => if j = i then M' else Ms j, fun j kj hj => ?_, fun a b x hab ha hb x1 x2 => ?_⟩, ?_⟩⟩
  · by_cases e : j = i
    · subst e
      rw [List.getElem?_set_self hil] at hj
      cases hj
      simp only [if_true]
      refine ⟨t1, fun b hb => ?_⟩
      rcases t2 b hb with h | h
      · exact (h1 j k hi).2 b h
      · exact .inr (Nat.le_trans h3.size h)
    · rw [List.getElem?_set_ne (fun h => e h.symm)] at hj
      simp only [if_neg e]
      have hjl : j < l.length := (List.getElem?_eq_some_iff.1 hj).1
      exact ⟨kj.same _ _ _ (h1 j kj hj).1 (fun b hb => t3.block b (kj.lt _ _ (h1 j kj hj).1 b hb) (fun hm => h2 j i b e hjl hil hb hm)), (h1 j kj hj).2⟩
  · rw [List.length_set] at ha hb
    have lt : ∀ j, j < l.length → ∀ b, Ms j b → b < w.heap.size := fun j hj b hb => (l[j]).lt _ _ (h1 j l[j] (List.getElem?_eq_getElem hj)).1 b hb
    try simp only at x1 x2
    split at x1 <;> split at x2
    · rename_i e1 e2; exact hab (e1.trans e2.symm)
    · rename_i e1 e2
      rcases t2 x x1 with h | h
      · exact h2 i b x (fun e => e2 e.symm) hil hb h x2
      · have := lt b hb x x2; omega
    · rename_i e1 e2
      rcases t2 x x2 with h | h
      · exact h2 a i x e1 ha hil x1 h
      · have := lt a ha x x1; omega
    · exact h2 a b x hab ha hb x1 x2
  · exact h3.trans t3 (fun b hb => (h1 i k hi).2 b hb)
theorem Tog.add (h : Tog w0 S w l) (hf : ∃ M, k.is M w' ∧ ∀ b, M b → w.heap.size ≤ b) (hb : Below w.heap.size w w') : Tog w0 S w' (l ++ [k]) := by
  have h' := h.on hb
  obtain ⟨⟨Ms, h1, h2⟩, h3⟩ := h
  obtain ⟨M, m1, m2⟩ := hf
  have lt : ∀ j, j < l.length → ∀ b, Ms j b → b < w.heap.size := fun j hj b hb => (l[j]).lt _ _ (h1 j l[j] (List.getElem?_eq_getElem hj)).1 b hb
  refine ⟨⟨fun j => if j = l.length then M else Ms j, fun j kj hj => ?_, fun a b x hab ha hb' x1 x2 => ?_⟩, h'.chg⟩
  · by_cases e : j = l.length
    · subst e
      simp at hj
      subst hj
      simp only [if_true]
      exact ⟨m1, fun b hb' => .inr (Nat.le_trans h3.size (m2 b hb'))⟩
    · have hjl : j < l.length := by
        have := (List.getElem?_eq_some_iff.1 hj).1
        simp at this; omega
      rw [List.getElem?_append_left hjl] at hj
      simp only [if_neg e]
      exact ⟨kj.same _ _ _ (h1 j kj hj).1 (fun b hm => hb.block b (lt j hjl b hm)), (h1 j kj hj).2⟩
  · simp at ha hb'
    try simp only at x1 x2
    split at x1 <;> split at x2
    · rename_i e1 e2; exact hab (e1.trans e2.symm)
    · rename_i e1 e2
      have := lt b (by omega) x x2
      have := m2 x x1
      omega
    · rename_i e1 e2
      have := lt a (by omega) x x1
      have := m2 x x2
      omega
    · exact h2 a b x hab (by omega) (by omega) x1 x2
/-- Some of the things, in any order. -/
theorem Tog.sub (h : Tog w0 S w l) {l' : List Kd} (φ : Nat → Nat) (hφ : ∀ i k, l'[i]? = some k → l[φ i]? = some k) (hinj : ∀ i j, i < l'.length → j < l'.length → φ i = φ j → i = j) : Tog w0 S w l' := by
  obtain ⟨⟨Ms, h1, h2⟩, h3⟩ := h
  have lt : ∀ i, i < l'.length → φ i < l.length := fun i hi => (List.getElem?_eq_some_iff.1 (hφ i l'[i] (List.getElem?_eq_getElem hi))).1
  exact ⟨⟨fun i => Ms (φ i), fun i k hk => h1 _ k (hφ i k hk), fun i j b hij hi hj x1 x2 => h2 _ _ b (fun e => hij (hinj i j hi hj e)) (lt i hi) (lt j hj) x1 x2⟩, h3⟩
/-- .. by their numbers. -/
theorem Tog.pick (h : Tog w0 S w l) (ix : List Nat) {l' : List Kd} (hn : ix.Nodup) (hl : ix.map (fun j => l[j]?) = l'.map some) : Tog w0 S w l' := by
  have e : ix.length = l'.length := by have := congrArg List.length hl; simpa using this
  have gd : ∀ i, (hi : i < ix.length) → ix.getD i 0 = ix[i] := fun i hi => by rw [List.getD_eq_getElem?_getD, List.getElem?_eq_getElem hi]; rfl
  refine h.sub (fun i => ix.getD i 0) (fun i k hk => ?_) (fun i j hi hj he => ?_)
  · have hi : i < l'.length := (List.getElem?_eq_some_iff.1 hk).1
    have hi2 : i < ix.length := by omega
    have h1 : (ix.map (fun j => l[j]?))[i]? = (l'.map some)[i]? := by rw [hl]
    rw [List.getElem?_map, List.getElem?_map, hk, List.getElem?_eq_getElem hi2] at h1
    simp only [Option.map_some, Option.some.injEq] at h1
    simp only [gd i hi2]
    exact h1
  · have hi2 : i < ix.length := by omega
    have hj2 : j < ix.length := by omega
    simp only [gd i hi2, gd j hj2] at he
    have hp := List.pairwise_iff_getElem.1 hn
    rcases Nat.lt_trichotomy i j with h | h | h
    · exact absurd he (hp i j hi2 hj2 h)
    · exact h
    · exact absurd he.symm (hp j i hj2 hi2 h)
/-- One thing alone; what is made of it, and what is new, goes back among the others. -/
theorem Tog.inner (h : Tog w0 S w l) {i : Nat} (hi : l[i]? = some k) : ∃ M, Tog w M w [k] ∧ ∀ k' w' new, Tog w M w' (k' :: new) → Tog w0 S w' (l.set i k' ++ new) := by
  obtain ⟨⟨Ms, h1, h2⟩, h3⟩ := h
  have hil : i < l.length := (List.getElem?_eq_some_iff.1 hi).1
  refine ⟨Ms i, ⟨⟨fun _ => Ms i, fun j kj hj => ?_, fun a b x hab ha hb => by simp at ha hb; omega⟩, Chg.refl _ _⟩, fun k' w' new ⟨⟨Ns, n1, n2⟩, n3⟩ => ?_⟩
  · obtain ⟨hj0, hj1⟩ : j = 0 ∧ kj = k := by
      cases j with
      | zero => simp at hj; exact ⟨rfl, hj.symm⟩
      | succ j => simp at hj
    subst hj1
    exact ⟨(h1 i kj hi).1, fun b hb => .inl hb⟩
  · have lt : ∀ j, j < l.length → ∀ b, Ms j b → b < w.heap.size := fun j hj b hb => (l[j]).lt _ _ (h1 j l[j] (List.getElem?_eq_getElem hj)).1 b hb
    have nn : ∀ m, m < (k' :: new).length → ∀ b, Ns m b → Ms i b ∨ w.heap.size ≤ b := fun m hm b hb => (n1 m _ (List.getElem?_eq_getElem hm)).2 b hb
    refine ⟨⟨fun j => if j = i then Ns 0 else if j < l.length then Ms j else Ns (j - l.length + 1), fun j kj hj => ?_, fun a b x hab ha hb x1 x2 => ?_⟩, h3.trans n3 (fun b hb => (h1 i k hi).2 b hb)⟩
    · by_cases e : j = i
      · subst e
        rw [List.getElem?_append_left (by simpa using hil), List.getElem?_set_self hil] at hj
        cases hj
        simp only [if_true]
        refine ⟨(n1 0 k' rfl).1, fun b hb => ?_⟩
        rcases nn 0 (by simp) b hb with h | h
        · exact (h1 j k hi).2 b h
        · exact .inr (Nat.le_trans h3.size h)
      · by_cases hjl : j < l.length
        · rw [List.getElem?_append_left (by simpa using hjl), List.getElem?_set_ne (fun h => e h.symm)] at hj
          simp only [if_neg e, if_pos hjl]
          exact ⟨kj.same _ _ _ (h1 j kj hj).1 (fun b hb => n3.block b (kj.lt _ _ (h1 j kj hj).1 b hb) (fun hm => h2 j i b e hjl hil hb hm)), (h1 j kj hj).2⟩
        · rw [List.getElem?_append_right (by simpa using hjl), List.length_set] at hj
          simp only [if_neg e, if_neg hjl]
          have hj' : (k' :: new)[j - l.length + 1]? = some kj := by simpa using hj
          refine ⟨(n1 _ kj hj').1, fun b hb => ?_⟩
          rcases (n1 _ kj hj').2 b hb with h | h
          · exact (h1 i k hi).2 b h
          · exact .inr (Nat.le_trans h3.size h)
    · simp only [List.length_append, List.length_set] at ha hb
      have nl : ∀ j, ¬ j < l.length → j < l.length + new.length → j - l.length + 1 < (k' :: new).length := fun j h1 h2 => by simp; omega
      have cross : ∀ m, m < (k' :: new).length → ∀ j, j ≠ i → j < l.length → Ns m x → Ms j x → False := fun m hm j hji hj y1 y2 => by
        rcases nn m hm x y1 with h | h
        · exact h2 i j x (fun e => hji e.symm) hil hj h y2
        · have := lt j hj x y2; omega
      try simp only at x1 x2
      split at x1 <;> split at x2
      · rename_i e1 e2; exact hab (e1.trans e2.symm)
      · rename_i e1 e2
        split at x2
        · rename_i e3; exact cross 0 (by simp) b e2 e3 x1 x2
        · rename_i e3; exact n2 0 (b - l.length + 1) x (by omega) (by simp) (nl b e3 hb) x1 x2
      · rename_i e1 e2
        split at x1
        · rename_i e3; exact cross 0 (by simp) a e1 e3 x2 x1
        · rename_i e3; exact n2 (a - l.length + 1) 0 x (by omega) (nl a e3 ha) (by simp) x1 x2
      · rename_i e1 e2
        split at x1 <;> split at x2
        · rename_i e3 e4; exact h2 a b x hab e3 e4 x1 x2
        · rename_i e3 e4; exact cross _ (nl b e4 hb) a e1 e3 x2 x1
        · rename_i e3 e4; exact cross _ (nl a e3 ha) b e2 e4 x1 x2
        · rename_i e3 e4; exact n2 _ _ x (by omega) (nl a e3 ha) (nl b e4 hb) x1 x2
/-- A thing falls into two. -/
theorem Tog.split (h : Tog w0 S w (k :: l)) {α : Type} {k1 k2 : α → Kd} (hk : ∀ M, k.is M w → ∃ x M1 M2, (k1 x).is M1 w ∧ (k2 x).is M2 w ∧ (∀ b, M1 b → M2 b → False) ∧ ∀ b, M1 b ∨ M2 b → M b) : ∃ x, Tog w0 S w (k1 x :: k2 x :: l) := by
  obtain ⟨⟨Ms, h1, h2⟩, h3⟩ := h
  obtain ⟨x, M1, M2, a1, a2, a3, a4⟩ := hk (Ms 0) (h1 0 k rfl).1
  refine ⟨x, ⟨fun j => match j with | 0 => M1 | 1 => M2 | j + 2 => Ms (j + 1), fun j kj hj => ?_, fun a b y hab ha hb y1 y2 => ?_⟩, h3⟩
  · match j, hj with
    | 0, hj => simp at hj; subst hj; exact ⟨a1, fun b hb => (h1 0 k rfl).2 b (a4 b (.inl hb))⟩
    | 1, hj => simp at hj; subst hj; exact ⟨a2, fun b hb => (h1 0 k rfl).2 b (a4 b (.inr hb))⟩
    | j + 2, hj => exact h1 (j + 1) kj (by simpa using hj)
  · have s0 : ∀ m, 0 < m → m < (k :: l).length → Ms 0 y → Ms m y → False := fun m hm hl z1 z2 => h2 0 m y (by omega) (by simp) hl z1 z2
    simp only [List.length_cons] at ha hb
    match a, b, ha, hb, hab, y1, y2 with
    | 0, 0, _, _, hab, _, _ => exact hab rfl
    | 1, 1, _, _, hab, _, _ => exact hab rfl
    | 0, 1, _, _, _, y1, y2 => exact a3 y y1 y2
    | 1, 0, _, _, _, y1, y2 => exact a3 y y2 y1
    | 0, b + 2, _, hb, _, y1, y2 => exact s0 (b + 1) (by omega) (by simp; omega) (a4 y (.inl y1)) y2
    | 1, b + 2, _, hb, _, y1, y2 => exact s0 (b + 1) (by omega) (by simp; omega) (a4 y (.inr y1)) y2
    | a + 2, 0, ha, _, _, y1, y2 => exact s0 (a + 1) (by omega) (by simp; omega) (a4 y (.inl y2)) y1
    | a + 2, 1, ha, _, _, y1, y2 => exact s0 (a + 1) (by omega) (by simp; omega) (a4 y (.inr y2)) y1
    | a + 2, b + 2, ha, hb, hab, y1, y2 => exact h2 (a + 1) (b + 1) y (by omega) (by simp; omega) (by simp; omega) y1 y2
/-- Two things become one. -/
theorem Tog.merge (h : Tog w0 S w (k :: k' :: l)) {kk : Kd} (hk : ∀ M1 M2, k.is M1 w → k'.is M2 w → (∀ b, M1 b → M2 b → False) → kk.is (fun b => M1 b ∨ M2 b) w) : Tog w0 S w (kk :: l) := by
  obtain ⟨⟨Ms, h1, h2⟩, h3⟩ := h
  refine ⟨⟨fun j => match j with | 0 => (fun b => Ms 0 b ∨ Ms 1 b) | j + 1 => Ms (j + 2), fun j kj hj => ?_, fun a b y hab ha hb y1 y2 => ?_⟩, h3⟩
  · match j, hj with
    | 0, hj =>
      simp at hj; subst hj
      exact ⟨hk _ _ (h1 0 k rfl).1 (h1 1 k' rfl).1 (fun b x1 x2 => h2 0 1 b (by omega) (by simp) (by simp) x1 x2), fun b hb => hb.elim ((h1 0 k rfl).2 b) ((h1 1 k' rfl).2 b)⟩
    | j + 1, hj => exact h1 (j + 2) kj (by simpa using hj)
  · simp only [List.length_cons] at ha hb
    match a, b, ha, hb, hab, y1, y2 with
    | 0, 0, _, _, hab, _, _ => exact hab rfl
    | 0, b + 1, _, hb, _, y1, y2 => exact y1.elim (fun z => h2 0 (b + 2) y (by omega) (by simp) (by simp; omega) z y2) (fun z => h2 1 (b + 2) y (by omega) (by simp) (by simp; omega) z y2)
    | a + 1, 0, ha, _, _, y1, y2 => exact y2.elim (fun z => h2 0 (a + 2) y (by omega) (by simp) (by simp; omega) z y1) (fun z => h2 1 (a + 2) y (by omega) (by simp) (by simp; omega) z y1)
    | a + 1, b + 1, ha, hb, hab, y1, y2 => exact h2 (a + 2) (b + 2) y (by omega) (by simp; omega) (by simp; omega) y1 y2

/-- A block. -/
def kHeap (g : Nat) (o : Obj) : Kd where
  is := fun M w => (∀ b, M b ↔ b = g) ∧ w.heap[g]? = some o
  lt := fun M w ⟨hm, h⟩ b hb => by rw [(hm b).1 hb]; exact (Array.getElem?_eq_some_iff.1 h).1
  same := fun M w w' ⟨hm, h⟩ he => ⟨hm, (he g ((hm g).2 rfl)).trans h⟩
/-- A slice at the head of its own block. -/
def kRow (E : TypeId) (size : Nat) (v : Value) (n : Nat) (xs : List Value) : Kd where
  is := fun M w => (∀ b, M b ↔ v.ownBlock = some b) ∧ w.ownsRow 0 E size v n xs
  lt := fun M w ⟨hm, h⟩ b hb => (World.ownsRow.lt h b ((hm b).1 hb)).2
  same := fun M w w' ⟨hm, h⟩ he => ⟨hm, row_block h (fun k hk => he k ((hm k).2 hk))⟩
theorem Tog.heapAt (h : Tog w0 S w l) {j g : Nat} {o : Obj} (hj : l[j]? = some (kHeap g o)) : w.heap[g]? = some o := by
  obtain ⟨M, ⟨h1, h2⟩, _⟩ := h.focus hj
  exact h2
theorem Tog.cellAt (h : Tog w0 S w l) {j g : Nat} {cs : Array Value} {t : TypeId} {f : Nat × Nat} (hj : l[j]? = some (kHeap g (.cells cs t f))) (i : Nat) {v : Value} (hv : cs[i]? = some v) : w.cell? ⟨g, i, none⟩ = some v := by
  rw [Lib.cell_of_heap (h.heapAt hj)]; exact hv
theorem Tog.fzAt (h : Tog w0 S w l) {j g : Nat} {cs : Array Value} {t : TypeId} (hj : l[j]? = some (kHeap g (.cells cs t (0, 0)))) (i : Nat) : w.frozen? ⟨g, i, none⟩ = false := Lib.frozen_of_heap (h.heapAt hj) i
theorem Tog.ltAt (h : Tog w0 S w l) {j g : Nat} {o : Obj} (hj : l[j]? = some (kHeap g o)) : g < w.heap.size := (Array.getElem?_eq_some_iff.1 (h.heapAt hj)).1
theorem Tog.rowAt (h : Tog w0 S w l) {j : Nat} {E : TypeId} {size n : Nat} {v : Value} {xs : List Value} (hj : l[j]? = some (kRow E size v n xs)) : w.ownsRow 0 E size v n xs := by
  obtain ⟨M, ⟨h1, h2⟩, _⟩ := h.focus hj
  exact h2
theorem Tog.block (h : Tog w0 S w l) (o : Obj) : Tog w0 S (w.alloc o) (l ++ [kHeap w.heap.size o]) :=
  h.add ⟨fun b => b = w.heap.size, ⟨fun _ => Iff.rfl, heap_alloc_new w _⟩, fun b hb => by rw [hb]; exact Nat.le_refl _⟩ ((Below.refl _ w).alloc (Nat.le_refl _) _)
theorem Tog.alloc (h : Tog w0 S w l) (o : Obj) : Tog w0 S (w.alloc o) l := h.on ((Below.refl _ w).alloc (Nat.le_refl _) _)
theorem Tog.nilRow (h : Tog w0 S w l) (E : TypeId) (size : Nat) : Tog w0 S w (l ++ [kRow E size (.slice none 0 0) 0 []]) :=
  h.add ⟨fun _ => False, ⟨fun b => ⟨fun h => h.elim, fun h => by simp [Value.ownBlock] at h⟩, World.ownsRow_nil _ _ _ _⟩, fun b hb => hb.elim⟩ (Below.refl _ w)
/-- A slice literal of n elements. -/
theorem Tog.made (h : Tog w0 S w l) (E : TypeId) (size n : Nat) (cs : Array Value) (hc : cs.size = n * size) (hn : n ≤ maxLen) : Tog w0 S (w.alloc (.cells cs E)) (l ++ [kRow E size (.slice (some ⟨w.heap.size, 0, none⟩) n n) n cs.toList]) :=
  h.add ⟨fun b => b = w.heap.size, ⟨fun b => by simp [Value.ownBlock]; exact eq_comm, ⟨by simpa using hc, .inr ⟨w.heap.size, n, cs, rfl, Nat.zero_le _, heap_alloc_new w _, Nat.le_refl _, hn, hc, by rw [← hc, ← Array.length_toList]; exact List.take_length⟩⟩⟩, fun b hb => by rw [hb]; exact Nat.le_refl _⟩ ((Below.refl _ w).alloc (Nat.le_refl _) _)
theorem Tog.store (h : Tog w0 S w l) {j g : Nat} {cs : Array Value} {t : TypeId} {f : Nat × Nat} (hj : l[j]? = some (kHeap g (.cells cs t f))) (i : Nat) (v : Value) : Tog w0 S (w.setCell ⟨g, i, none⟩ v) (l.set j (kHeap g (.cells (cs.setIfInBounds i v) t f))) := by
  obtain ⟨M, ⟨h1, h2⟩, _, h5⟩ := h.focus hj
  refine h5 _ _ ⟨M, ⟨h1, ?_⟩, fun b hb => .inl hb, Chg.set _ _ _ (.inl ((h1 g).2 rfl))⟩
  simp [World.setCell, Array.getElem?_modify, h2]
/-- What lies before the beginning, and in no block that may turn. -/
theorem Tog.old (h : Tog w0 S w l) {p : Addr} (hp : p.block < w0.heap.size) (hS : ¬ S p.block) : w.cell? p = w0.cell? p := h.chg.cell hp hS
theorem Tog.top (h : Tog w0 (fun _ => False) w l) : Below w0.heap.size w0 w := h.chg.below (Nat.le_refl _) (fun _ _ h => h)
end

/-- What append asks of a slice's type and its element's. -/
structure El (P : Program) (St E : TypeId) (z : Value) (size bytes : Nat) : Prop where
  und : P.underlying St = some (.slice E)
  info : (P.info? E).map (fun i => (i.zero, i.size, i.bytes)) = some (some z, size, bytes)
  zs : z.cells.size = size
  pos : 0 < size
section
variable {P : Program} {St E : TypeId} {z : Value} {size bytes : Nat}
theorem El.run (el : El P St E z size bytes) (ty : TypeId) {w : World} {base : Nat} {v : Value} {n : Nat} {xs : List Value} (hown : w.ownsRow base E size v n xs) {x : Value} {m : Nat} {news : List Value} (hs : SrcAt w x m news) (hl : news.length = m * size)
    (h1 : ∀ u ∈ news, u.oneCell' = true) (h63 : n + m ≤ maxLen) (hbytes : (n + m) * bytes ≤ 140737488355328) (hbase : base ≤ w.heap.size) :
    ∃ a c w', (Builtin.append_ #[St, St] ty #[v, x]).run P w = .ok (.slice a (n + m) c) w' ∧ w'.ownsRow base E size (.slice a (n + m) c) (n + m) (xs ++ news) ∧ w.grownBy w' v.ownBlock ∧ ∀ k, (Value.slice a (n + m) c).ownBlock = some k → v.ownBlock = some k ∨ k = w.heap.size := by
  obtain ⟨i0, hi, hz0, hz1, hz2⟩ := info_parts el.info
  have main : ∀ ad c, x = .slice (some ad) m c → (∀ j u, news[j]? = some u → w.cell? (ad.add j) = some u) → ∃ a c w', (Builtin.append_ #[St, St] ty #[v, x]).run P w = .ok (.slice a (n + m) c) w' ∧ w'.ownsRow base E size (.slice a (n + m) c) (n + m) (xs ++ news) ∧ w.grownBy w' v.ownBlock ∧ ∀ k, (Value.slice a (n + m) c).ownBlock = some k → v.ownBlock = some k ∨ k = w.heap.size := by
    rintro ad c rfl hc
    obtain ⟨v', w', hr, h2, h3, _, h5⟩ := run_append_own_at (P := P) w base St ty E i0 z size bytes el.und hi hz0 hz1 hz2 el.zs el.pos v n xs hown ad m c news hl hc h1 h63 hbytes hbase
    obtain ⟨a, c', rfl, _⟩ := row_form h2
    refine ⟨a, c', w', hr, h2, h3, fun k hk => ?_⟩
    rcases h5 with h5 | h5
    · exact .inl (by rw [← h5]; exact hk)
    · exact .inr (by rw [hk] at h5; simpa using h5)
  rcases hs with ⟨⟨a, c, rfl⟩, rfl, rfl⟩ | ⟨b, o, c, rfl, hc⟩
  · cases a with
    | some ad => exact main ad c rfl (fun j u hj => by simp at hj)
    | none =>
      have hs : Src P i0.size St (.slice none 0 c) 0 [] w := Src.ofNil w el.und c
      obtain ⟨a', c', hv, _⟩ := row_form hown
      refine ⟨a', c', w, ?_, by rw [Nat.add_zero, List.append_nil, ← hv]; exact hown, ⟨rfl, rfl, rfl, Nat.le_refl _, fun _ _ _ => rfl⟩, fun k hk => .inl (by rw [hv]; exact hk)⟩
      rcases hown.2 with ⟨rfl, h0⟩ | ⟨g, cap, cur, rfl, hb, hg, hnc, hcm, hcs, htake⟩
      · subst h0
        obtain ⟨rfl, rfl⟩ : none = a' ∧ 0 = c' := by simpa using hv
        simp [Builtin.append_, run_underlying el.und, sizeOf, typeInfo, hi, hs.len, hs.cells]
      · obtain ⟨rfl, rfl⟩ : a' = some ⟨g, 0, none⟩ ∧ c' = cap := by
          simp at hv; exact ⟨hv.1.symm, hv.2.symm⟩
        have := run_append_room_src (P := P) w St St ty E i0 el.und hi g 0 n c' (.slice none 0 c) 0 [] hs (by omega) (by simp) (by simp)
        rw [this]; rfl
  · exact main _ c rfl (fun j u hj => by rw [addr_add]; exact hc j u hj)
/-- append to a row among other things. -/
theorem Tog.app (el : El P St E z size bytes) (ty : TypeId) {w0 w : World} {S : Nat → Prop} {l : List Kd} (h : Tog w0 S w l) {i : Nat} {v : Value} {n : Nat} {xs : List Value} (hi : l[i]? = some (kRow E size v n xs)) {x : Value} {m : Nat} {news : List Value}
    (hs : SrcAt w x m news) (hl : news.length = m * size) (h1 : ∀ u ∈ news, u.oneCell' = true) (h63 : n + m ≤ maxLen) (hbytes : (n + m) * bytes ≤ 140737488355328) :
    ∃ a c w', (Builtin.append_ #[St, St] ty #[v, x]).run P w = .ok (.slice a (n + m) c) w' ∧ Tog w0 S w' (l.set i (kRow E size (.slice a (n + m) c) (n + m) (xs ++ news))) ∧ w.heap.size ≤ w'.heap.size := by
  obtain ⟨M, ⟨h1', h2⟩, _, h5⟩ := h.focus hi
  obtain ⟨a, c, w', r1, r2, r3, r4⟩ := el.run ty h2 hs hl h1 h63 hbytes (Nat.zero_le _)
  refine ⟨a, c, w', r1, h5 _ _ ⟨fun b => (Value.slice a (n + m) c).ownBlock = some b, ⟨fun _ => Iff.rfl, r2⟩, fun b hb => ?_, Chg.of_grown r3 (fun k e => .inl ((h1' k).2 e))⟩, r3.size⟩
  rcases r4 b hb with e | e
  · exact .inl ((h1' b).2 e)
  · exact .inr (by omega)
theorem Tog.wp_app (el : El P St E z size bytes) {o : Oper} {act : Act} {K : Act → World → Prop} {Q : Exit → Act → World → Prop} (s x : Operand) (ho : o.op = .call { callee := .builtin .append, args := #[s, x], argTypes := #[St, St] })
    {w0 w : World} {S : Nat → Prop} {l : List Kd} (h : Tog w0 S w l) (i : Nat) {v : Value} {n : Nat} {xs : List Value} (hi : l[i]? = some (kRow E size v n xs)) {X : Value} {m : Nat} {news : List Value} (hv : act.eval s = v) (hx : act.eval x = X)
    (hs : SrcAt w X m news) (hl : news.length = m * size) (h1 : ∀ u ∈ news, u.oneCell' = true) (h63 : n + m ≤ maxLen) (hbytes : (n + m) * bytes ≤ 140737488355328)
    (hK : ∀ a c w', Tog w0 S w' (l.set i (kRow E size (.slice a (n + m) c) (n + m) (xs ++ news))) → w.heap.size ≤ w'.heap.size → K (act.put o.dst (.slice a (n + m) c)) w') : o.wp P act w K Q := by
  obtain ⟨a, c, w', hr, h2, h3⟩ := h.app el o.type hi hs hl h1 h63 hbytes
  unfold Oper.wp execOp
  simp only [ho, resolve, invoke, builtin, Sem.run_bind, Sem.run_pure, Result.andThen_ok, List.map_toArray, List.map_cons, List.map_nil, hv, hx, hr]
  exact hK a c w' h2 h3
theorem Tog.wpList_app (el : El P St E z size bytes) {ops : Array Oper} {rest : List Oper} {o : Oper} {act : Act} {Q : Exit → Act → World → Prop} (hgd : o.guard = none) (s x : Operand) (ho : o.op = .call { callee := .builtin .append, args := #[s, x], argTypes := #[St, St] })
    {w0 w : World} {S : Nat → Prop} {l : List Kd} (h : Tog w0 S w l) (i : Nat) {v : Value} {n : Nat} {xs : List Value} (hi : l[i]? = some (kRow E size v n xs)) {X : Value} {m : Nat} {news : List Value} (hv : act.eval s = v) (hx : act.eval x = X)
    (hs : SrcAt w X m news) (hl : news.length = m * size) (h1 : ∀ u ∈ news, u.oneCell' = true) (h63 : n + m ≤ maxLen) (hbytes : (n + m) * bytes ≤ 140737488355328)
    (hK : ∀ a c w', Tog w0 S w' (l.set i (kRow E size (.slice a (n + m) c) (n + m) (xs ++ news))) → w.heap.size ≤ w'.heap.size → wpList P ops Q rest (act.put o.dst (.slice a (n + m) c)) w') : wpList P ops Q (o :: rest) act w :=
  wpList_plain hgd fun _ hk => h.wp_app el s x ho i hi hv hx hs hl h1 h63 hbytes fun a c w' h2 h3 => hk _ _ (hK a c w' h2 h3)
theorem Tog.step_app (el : El P St E z size bytes) {ops : Array Oper} {o : Oper} {act : Act} {K : Act → World → Prop} {Q : Exit → Act → World → Prop} {F : Prop} (hgd : o.guard = none) (s x : Operand) (ho : o.op = .call { callee := .builtin .append, args := #[s, x], argTypes := #[St, St] })
    {w0 w : World} {S : Nat → Prop} {l : List Kd} (h : Tog w0 S w l) (i : Nat) {v : Value} {n : Nat} {xs : List Value} (hi : l[i]? = some (kRow E size v n xs)) {X : Value} {m : Nat} {news : List Value} (hv : act.eval s = v) (hx : act.eval x = X)
    (hs : SrcAt w X m news) (hl : news.length = m * size) (h1 : ∀ u ∈ news, u.oneCell' = true) (h63 : n + m ≤ maxLen) (hbytes : (n + m) * bytes ≤ 140737488355328)
    (hK : ∀ a c w', Tog w0 S w' (l.set i (kRow E size (.slice a (n + m) c) (n + m) (xs ++ news))) → w.heap.size ≤ w'.heap.size → K (act.put o.dst (.slice a (n + m) c)) w') : if Region.wanted o (yielded ops act.tmps) = true then Oper.wp P o act w K Q else F := by
  have hw : Region.wanted o (yielded ops act.tmps) = true := by simp [Region.wanted, hgd]
  rw [if_pos hw]
  exact h.wp_app el s x ho i hi hv hx hs hl h1 h63 hbytes hK
end
end Go.Proofs.Ytpabkaihppnddaa
