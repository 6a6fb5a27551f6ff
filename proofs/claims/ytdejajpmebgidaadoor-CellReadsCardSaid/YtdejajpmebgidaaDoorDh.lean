/-
  A DISK OF PACKAGE disk IN MEMORY, and its small methods.
-/
import Derived.Test.YtdejajpmebgidaaDoorDg
import Derived.BigQuiet
import Derived.Deep.QuietTactic
import Derived.Outline
import Derived.Lib.BufferMore
namespace Go.Proofs.YtdejajpmebgidaaDoor
open Go.RowKit Go.Maps WireM DiskM
set_option linter.unusedVariables false
set_option linter.unusedSimpArgs false

/-- The world has grown; of the blocks that were there only those of a set may have turned. -/
structure Chg (S : Nat → Prop) (w w' : World) : Prop where
  os : w'.os = w.os
  tape : w'.tape = w.tape
  output : w'.output = w.output
  size : w.heap.size ≤ w'.heap.size
  block : ∀ k, k < w.heap.size → ¬ S k → w'.heap[k]? = w.heap[k]?
theorem Chg.refl (S : Nat → Prop) (w : World) : Chg S w w := ⟨rfl, rfl, rfl, Nat.le_refl _, fun _ _ _ => rfl⟩
theorem Chg.trans {S S' : Nat → Prop} {a b c : World} (h : Chg S a b) (k : Chg S' b c) (hS : ∀ i, S' i → S i ∨ a.heap.size ≤ i) : Chg S a c :=
  ⟨k.os.trans h.os, k.tape.trans h.tape, k.output.trans h.output, Nat.le_trans h.size k.size, fun i hi hn =>
    (k.block i (Nat.lt_of_lt_of_le hi h.size) (fun h1 => by
      rcases hS i h1 with h2 | h2
      · exact hn h2
      · omega)).trans (h.block i hi hn)⟩
theorem Chg.mono {S S' : Nat → Prop} {a b : World} (h : Chg S a b) (hS : ∀ i, i < a.heap.size → S i → S' i) : Chg S' a b := ⟨h.os, h.tape, h.output, h.size, fun k hk hn => h.block k hk (fun h1 => hn (hS k hk h1))⟩
theorem Chg.of_grown {S : Nat → Prop} {a b : World} {row : Option Nat} (h : a.grownBy b row) (hS : ∀ k, row = some k → S k ∨ a.heap.size ≤ k) : Chg S a b :=
  ⟨h.os, h.tape, h.output, h.size, fun k hk hn => h.block k hk (fun e => by
    rcases hS k e.symm with h1 | h1
    · exact hn h1
    · omega)⟩
theorem Chg.of_below {S : Nat → Prop} {a b : World} (h : Below a.heap.size a b) : Chg S a b := ⟨h.os, h.tape, h.output, h.size, fun k hk _ => h.block k hk⟩
theorem Chg.of_turned {S : Nat → Prop} {a b : World} {m : Nat} (h : a.mapTurned b m) (hS : S m ∨ a.heap.size ≤ m) : Chg S a b := Chg.of_grown h.grown (fun k e => by cases e; exact hS)
theorem Chg.set {S : Nat → Prop} (w : World) {b : Nat} (o : Nat) (v : Value) (hS : S b ∨ w.heap.size ≤ b) : Chg S w (w.setCell ⟨b, o, none⟩ v) :=
  ⟨rfl, rfl, rfl, by simp [World.setCell], fun k hk hn => Below.heap_setCell _ _ _ _ (fun e => by
    rcases hS with h1 | h1
    · exact hn (e ▸ h1)
    · simp at e; omega)⟩
theorem Chg.alloc {S : Nat → Prop} (w : World) (o : Obj) : Chg S w (w.alloc o) := Chg.of_grown (World.grownBy_alloc w o none) (fun _ e => by cases e)
theorem Chg.drew {S : Nat → Prop} {a w : World} (h : Chg S a w) : Chg S a w.drew := ⟨h.os, h.tape, h.output, h.size, h.block⟩
theorem Chg.below {S : Nat → Prop} {B : Nat} {a b : World} (h : Chg S a b) (hB : B ≤ a.heap.size) (hS : ∀ k, k < B → ¬ S k) : Below B a b := ⟨h.os, h.tape, h.output, h.size, fun k hk => h.block k (by omega) (hS k hk)⟩

/-- Slices that own their row. -/
def ByteRow (w : World) (v : Value) (L : List UInt8) : Prop := w.ownsRow 0 5 1 v L.length (Lib.byteCells L)
def secCells (p : List Sec) : List Value := p.flatMap fun s => [.int .i64 s.1, .int .i64 s.2]
def SecRow (w : World) (v : Value) (p : List Sec) : Prop := w.ownsRow 0 78 2 v p.length (secCells p)
def intCells (l : List Int) : List Value := l.map fun n => .int .i64 n
def IntRow (w : World) (v : Value) (l : List Int) : Prop := w.ownsRow 0 3 1 v l.length (intCells l)
theorem secCells_len (p : List Sec) : (secCells p).length = p.length * 2 := by
  unfold secCells
  induction p with
  | nil => rfl
  | cons a r ih => simp only [List.flatMap_cons, List.length_append, ih, List.length_cons]; simp; omega
theorem intCells_len (l : List Int) : (intCells l).length = l.length := by simp [intCells]
theorem row_block {w w' : World} {e : TypeId} {size n : Nat} {v : Value} {xs : List Value} (h : w.ownsRow 0 e size v n xs) (hb : ∀ k, v.ownBlock = some k → w'.heap[k]? = w.heap[k]?) : w'.ownsRow 0 e size v n xs := by
  refine ⟨h.1, ?_⟩
  rcases h.2 with hn | ⟨g, cap, cur, rfl, hbb, hgg, rest⟩
  · exact .inl hn
  · exact .inr ⟨g, cap, cur, rfl, hbb, (hb g rfl).trans hgg, rest⟩
theorem row_tag {w : World} {e : TypeId} {size n : Nat} {v : Value} {xs : List Value} (h : w.ownsRow 0 e size v n xs) {k : Nat} (hk : v.ownBlock = some k) : ∃ cur, w.heap[k]? = some (.cells cur e (0, 0)) := by
  rcases h.2 with ⟨rfl, _⟩ | ⟨g, cap, cur, rfl, hbb, hgg, rest⟩
  · simp [Value.ownBlock] at hk
  · simp [Value.ownBlock] at hk; subst hk; exact ⟨cur, hgg⟩
theorem nilRow (w : World) (e : TypeId) (size : Nat) : w.ownsRow 0 e size nilS 0 [] := World.ownsRow_nil w 0 e size

structure Parts where
  bf : Nat
  bd : Nat
  bl : Nat
  Vf : Int → Value
  Vd : Int → Value
  vp : Value
  vk : Value
def dcells (q : Parts) (s : St) : Array Value := #[.map (some q.bf), .map (some q.bd), q.vp, .map (some q.bl), .bool s.down, .int .i64 s.lost, .int .i64 s.armed, q.vk]
/-- The blocks of a disk. -/
def Mine (p : Nat) (q : Parts) (b : Nat) : Prop := b = p ∨ b = q.bf ∨ b = q.bd ∨ b = q.bl ∨ q.vp.ownBlock = some b ∨ q.vk.ownBlock = some b ∨ (∃ f, (q.Vf f).ownBlock = some b) ∨ ∃ f, (q.Vd f).ownBlock = some b
structure Dk0 (w : World) (p : Nat) (s : St) (q : Parts) : Prop where
  cells : w.heap[p]? = some (.cells (dcells q s) 55 (0, 0))
  files : FilesAt w q.bf q.Vf
  dur : FilesAt w q.bd q.Vd
  now : ∀ f, ByteRow w (q.Vf f) (s.now f)
  last : ∀ f, ByteRow w (q.Vd f) (s.last f)
  pend : SecRow w q.vp s.pend
  list : ListedAt w q.bl s.pend
  keep : IntRow w q.vk s.keep
  ne : q.bf ≠ q.bd
  nlf : q.bl ≠ q.bf
  nld : q.bl ≠ q.bd
  ap : ∀ f g k, (q.Vf f).ownBlock = some k → (q.Vf g).ownBlock = some k → f = g
  aq : ∀ f g k, (q.Vd f).ownBlock = some k → (q.Vd g).ownBlock = some k → f = g
  apq : ∀ f g k, (q.Vf f).ownBlock = some k → (q.Vd g).ownBlock = some k → False
/-- .. whose state keeps the rules. -/
structure DiskIs (w : World) (p : Nat) (s : St) (q : Parts) : Prop extends Dk0 w p s q where
  inv : Inv s

inductive Tag where | map | cells (t : TypeId)
def tagOf (w : World) (b : Nat) : Option Tag := match w.heap[b]? with | some (.map _ _) => some .map | some (.cells _ t _) => some (.cells t) | _ => none
theorem tag_row {w : World} {e : TypeId} {size n : Nat} {v : Value} {xs : List Value} (h : w.ownsRow 0 e size v n xs) {k : Nat} (hk : v.ownBlock = some k) : tagOf w k = some (.cells e) := by
  obtain ⟨cur, hg⟩ := row_tag h hk
  simp [tagOf, hg]
section
variable {w w' : World} {p : Nat} {s : St} {q : Parts}
theorem Dk0.tp (h : Dk0 w p s q) : tagOf w p = some (.cells 55) := by simp [tagOf, h.cells]
theorem Dk0.tf (h : Dk0 w p s q) : tagOf w q.bf = some .map := by obtain ⟨es, c, e⟩ := h.files.isMap; simp [tagOf, e]
theorem Dk0.td (h : Dk0 w p s q) : tagOf w q.bd = some .map := by obtain ⟨es, c, e⟩ := h.dur.isMap; simp [tagOf, e]
theorem Dk0.tl (h : Dk0 w p s q) : tagOf w q.bl = some .map := by obtain ⟨es, c, e⟩ := h.list.isMap; simp [tagOf, e]
theorem Dk0.tvp (h : Dk0 w p s q) {k : Nat} (hk : q.vp.ownBlock = some k) : tagOf w k = some (.cells 78) := tag_row h.pend hk
theorem Dk0.tvk (h : Dk0 w p s q) {k : Nat} (hk : q.vk.ownBlock = some k) : tagOf w k = some (.cells 3) := tag_row h.keep hk
theorem Dk0.tVf (h : Dk0 w p s q) {f : Int} {k : Nat} (hk : (q.Vf f).ownBlock = some k) : tagOf w k = some (.cells 5) := tag_row (h.now f) hk
theorem Dk0.tVd (h : Dk0 w p s q) {f : Int} {k : Nat} (hk : (q.Vd f).ownBlock = some k) : tagOf w k = some (.cells 5) := tag_row (h.last f) hk
theorem tag_lt {w : World} {b : Nat} {t : Tag} (h : tagOf w b = some t) : b < w.heap.size := by
  rcases Nat.lt_or_ge b w.heap.size with h' | h'
  · exact h'
  · simp [tagOf, Array.getElem?_eq_none h'] at h
theorem Dk0.lt (h : Dk0 w p s q) {b : Nat} (hb : Mine p q b) : b < w.heap.size := by
  rcases hb with rfl | rfl | rfl | rfl | hb | hb | ⟨f, hb⟩ | ⟨f, hb⟩
  · exact tag_lt h.tp
  · exact tag_lt h.tf
  · exact tag_lt h.td
  · exact tag_lt h.tl
  · exact tag_lt (h.tvp hb)
  · exact tag_lt (h.tvk hb)
  · exact tag_lt (h.tVf hb)
  · exact tag_lt (h.tVd hb)
/-- The same disk, where none of its blocks has turned. -/
theorem Dk0.same (h : Dk0 w p s q) (hb : ∀ b, Mine p q b → w'.heap[b]? = w.heap[b]?) : Dk0 w' p s q where
  cells := (hb p (.inl rfl)).trans h.cells
  files := h.files.block (hb _ (.inr (.inl rfl)))
  dur := h.dur.block (hb _ (.inr (.inr (.inl rfl))))
  now := fun f => row_block (h.now f) (fun k hk => hb k (.inr (.inr (.inr (.inr (.inr (.inr (.inl ⟨f, hk⟩))))))))
  last := fun f => row_block (h.last f) (fun k hk => hb k (.inr (.inr (.inr (.inr (.inr (.inr (.inr ⟨f, hk⟩))))))))
  pend := row_block h.pend (fun k hk => hb k (.inr (.inr (.inr (.inr (.inl hk))))))
  list := h.list.block (hb _ (.inr (.inr (.inr (.inl rfl)))))
  keep := row_block h.keep (fun k hk => hb k (.inr (.inr (.inr (.inr (.inr (.inl hk)))))))
  ne := h.ne
  nlf := h.nlf
  nld := h.nld
  ap := h.ap
  aq := h.aq
  apq := h.apq
theorem Dk0.chg {S : Nat → Prop} (h : Dk0 w p s q) (hc : Chg S w w') (hS : ∀ b, Mine p q b → ¬ S b) : Dk0 w' p s q := h.same (fun b hb => hc.block b (h.lt hb) (hS b hb))
theorem Dk0.below (h : Dk0 w p s q) (hb : Below w.heap.size w w') : Dk0 w' p s q := h.same (fun b hm => hb.block b (h.lt hm))
theorem Dk0.alloc (h : Dk0 w p s q) (o : Obj) : Dk0 (w.alloc o) p s q := h.below ((Below.refl _ w).alloc (Nat.le_refl _) o)
theorem Dk0.drew (h : Dk0 w p s q) : Dk0 w.drew p s q := h.same (fun _ _ => rfl)
theorem DiskIs.sameI (h : DiskIs w p s q) (hb : ∀ b, Mine p q b → w'.heap[b]? = w.heap[b]?) : DiskIs w' p s q := ⟨h.toDk0.same hb, h.inv⟩
theorem DiskIs.chgI {S : Nat → Prop} (h : DiskIs w p s q) (hc : Chg S w w') (hS : ∀ b, Mine p q b → ¬ S b) : DiskIs w' p s q := ⟨h.toDk0.chg hc hS, h.inv⟩
theorem DiskIs.belowI (h : DiskIs w p s q) (hb : Below w.heap.size w w') : DiskIs w' p s q := ⟨h.toDk0.below hb, h.inv⟩
theorem DiskIs.allocI (h : DiskIs w p s q) (o : Obj) : DiskIs (w.alloc o) p s q := ⟨h.toDk0.alloc o, h.inv⟩
theorem DiskIs.drewI (h : DiskIs w p s q) : DiskIs w.drew p s q := ⟨h.toDk0.drew, h.inv⟩
/-- A field of the struct has turned: all else is there already. -/
theorem cells_turn (hc : w.heap[p]? = some (.cells (dcells q s) 55 (0, 0))) (s' : St) (q' : Parts) (i : Nat) (v : Value) (hi : (dcells q s).setIfInBounds i v = dcells q' s') (hf : FilesAt w q'.bf q'.Vf) (hd : FilesAt w q'.bd q'.Vd) (hn : ∀ f, ByteRow w (q'.Vf f) (s'.now f)) (hl : ∀ f, ByteRow w (q'.Vd f) (s'.last f))
    (hp : SecRow w q'.vp s'.pend) (hli : ListedAt w q'.bl s'.pend) (hk : IntRow w q'.vk s'.keep) (h1 : q'.bf ≠ q'.bd) (h2 : q'.bl ≠ q'.bf) (h3 : q'.bl ≠ q'.bd) (h4 : ∀ f g k, (q'.Vf f).ownBlock = some k → (q'.Vf g).ownBlock = some k → f = g)
    (h5 : ∀ f g k, (q'.Vd f).ownBlock = some k → (q'.Vd g).ownBlock = some k → f = g) (h6 : ∀ f g k, (q'.Vf f).ownBlock = some k → (q'.Vd g).ownBlock = some k → False) : Dk0 (w.setCell ⟨p, i, none⟩ v) p s' q' := by
  have htp : tagOf w p = some (.cells 55) := by simp [tagOf, hc]
  have hb : ∀ b, b ≠ p → (w.setCell ⟨p, i, none⟩ v).heap[b]? = w.heap[b]? := fun b hb => Below.heap_setCell _ _ _ _ hb
  have hr : ∀ {e : TypeId} {size n : Nat} {x : Value} {xs : List Value}, w.ownsRow 0 e size x n xs → e ≠ 55 → (w.setCell ⟨p, i, none⟩ v).ownsRow 0 e size x n xs := fun hrow hne =>
    row_block hrow (fun k hk => hb k (fun e => by
      have t1 := tag_row hrow hk
      rw [e, htp] at t1
      simp at t1
      exact hne t1.symm))
  have hm : ∀ {b : Nat}, (∃ es clock, w.heap[b]? = some (.map es clock)) → b ≠ p := fun t1 e => by
    obtain ⟨es, c, t1⟩ := t1
    rw [e, hc] at t1; cases t1
  refine ⟨?_, hf.block (hb _ (hm hf.isMap)), hd.block (hb _ (hm hd.isMap)), fun f => hr (hn f) (by decide), fun f => hr (hl f) (by decide), hr hp (by decide), hli.block (hb _ (hm hli.isMap)), hr hk (by decide), h1, h2, h3, h4, h5, h6⟩
  rw [← hi]
  simp [World.setCell, Array.getElem?_modify, hc]
theorem Dk0.turn (h : Dk0 w p s q) (s' : St) (q' : Parts) (i : Nat) (v : Value) (hi : (dcells q s).setIfInBounds i v = dcells q' s') (hf : FilesAt w q'.bf q'.Vf) (hd : FilesAt w q'.bd q'.Vd) (hn : ∀ f, ByteRow w (q'.Vf f) (s'.now f)) (hl : ∀ f, ByteRow w (q'.Vd f) (s'.last f))
    (hp : SecRow w q'.vp s'.pend) (hli : ListedAt w q'.bl s'.pend) (hk : IntRow w q'.vk s'.keep) (h1 : q'.bf ≠ q'.bd) (h2 : q'.bl ≠ q'.bf) (h3 : q'.bl ≠ q'.bd) (h4 : ∀ f g k, (q'.Vf f).ownBlock = some k → (q'.Vf g).ownBlock = some k → f = g)
    (h5 : ∀ f g k, (q'.Vd f).ownBlock = some k → (q'.Vd g).ownBlock = some k → f = g) (h6 : ∀ f g k, (q'.Vf f).ownBlock = some k → (q'.Vd g).ownBlock = some k → False) : Dk0 (w.setCell ⟨p, i, none⟩ v) p s' q' :=
  cells_turn h.cells s' q' i v hi hf hd hn hl hp hli hk h1 h2 h3 h4 h5 h6
/-- One field of the struct has turned, a plain one. -/
theorem Dk0.field0 (h : Dk0 w p s q) (s' : St) (i : Nat) (v : Value) (hi : (dcells q s).setIfInBounds i v = dcells q s') (h1 : s'.now = s.now) (h2 : s'.last = s.last) (h3 : s'.pend = s.pend) (h4 : s'.keep = s.keep) : Dk0 (w.setCell ⟨p, i, none⟩ v) p s' q :=
  h.turn s' q i v hi h.files h.dur (fun f => by rw [h1]; exact h.now f) (fun f => by rw [h2]; exact h.last f) (by rw [h3]; exact h.pend) (by rw [h3]; exact h.list) (by rw [h4]; exact h.keep) h.ne h.nlf h.nld h.ap h.aq h.apq
theorem DiskIs.field (h : DiskIs w p s q) (s' : St) (i : Nat) (v : Value) (hi : (dcells q s).setIfInBounds i v = dcells q s') (h1 : s'.now = s.now) (h2 : s'.last = s.last) (h3 : s'.pend = s.pend) (h4 : s'.keep = s.keep) (hI : Inv s') :
    DiskIs (w.setCell ⟨p, i, none⟩ v) p s' q := ⟨h.toDk0.field0 s' i v hi h1 h2 h3 h4, hI⟩

theorem Dk0.cell (h : Dk0 w p s q) {i : Nat} {v : Value} (hv : (dcells q s)[i]? = some v) : w.cell? ⟨p, i, none⟩ = some v := by rw [Lib.cell_of_heap h.cells]; exact hv
theorem Dk0.c0 (h : Dk0 w p s q) : w.cell? ⟨p, 0, none⟩ = some (.map (some q.bf)) := h.cell rfl
theorem Dk0.c1 (h : Dk0 w p s q) : w.cell? ⟨p, 1, none⟩ = some (.map (some q.bd)) := h.cell rfl
theorem Dk0.c2 (h : Dk0 w p s q) : w.cell? ⟨p, 2, none⟩ = some q.vp := h.cell rfl
theorem Dk0.c3 (h : Dk0 w p s q) : w.cell? ⟨p, 3, none⟩ = some (.map (some q.bl)) := h.cell rfl
theorem Dk0.c4 (h : Dk0 w p s q) : w.cell? ⟨p, 4, none⟩ = some (.bool s.down) := h.cell rfl
theorem Dk0.c5 (h : Dk0 w p s q) : w.cell? ⟨p, 5, none⟩ = some (.int .i64 s.lost) := h.cell rfl
theorem Dk0.c6 (h : Dk0 w p s q) : w.cell? ⟨p, 6, none⟩ = some (.int .i64 s.armed) := h.cell rfl
theorem Dk0.c7 (h : Dk0 w p s q) : w.cell? ⟨p, 7, none⟩ = some q.vk := h.cell rfl
theorem Dk0.fz (h : Dk0 w p s q) (i : Nat) : w.frozen? ⟨p, i, none⟩ = false := Lib.frozen_of_heap h.cells i
end
/-- What a call leaves: the disk in another state; of what was there only its own blocks have turned. -/
def Turn (w : World) (p : Nat) (q : Parts) (s' : St) (w' : World) : Prop := ∃ q', DiskIs w' p s' q' ∧ (∀ b, Mine p q' b → Mine p q b ∨ w.heap.size ≤ b) ∧ Chg (Mine p q) w w'
theorem Turn.refl {w : World} {p : Nat} {q : Parts} {s : St} (h : DiskIs w p s q) : Turn w p q s w := ⟨q, h, fun _ hb => .inl hb, Chg.refl _ _⟩
theorem Turn.step {w w1 w2 : World} {p : Nat} {q q1 : Parts} {s2 : St} (hm : ∀ b, Mine p q1 b → Mine p q b ∨ w.heap.size ≤ b) (hc : Chg (Mine p q) w w1) (k : Turn w1 p q1 s2 w2) : Turn w p q s2 w2 := by
  obtain ⟨q2, h2, m2, c2⟩ := k
  refine ⟨q2, h2, fun b hb => ?_, hc.trans c2 hm⟩
  rcases m2 b hb with h | h
  · exact hm b h
  · exact .inr (Nat.le_trans hc.size h)
theorem Turn.trans {w w1 w2 : World} {p : Nat} {q : Parts} {s1 s2 : St} (h : Turn w p q s1 w1) (k : ∀ q1, DiskIs w1 p s1 q1 → Turn w1 p q1 s2 w2) : Turn w p q s2 w2 := by
  obtain ⟨q1, h1, m1, c1⟩ := h
  exact Turn.step m1 c1 (k q1 h1)
theorem Turn.field {w : World} {p : Nat} {q : Parts} {s : St} (h : DiskIs w p s q) (s' : St) (i : Nat) (v : Value) (hi : (dcells q s).setIfInBounds i v = dcells q s') (h1 : s'.now = s.now) (h2 : s'.last = s.last) (h3 : s'.pend = s.pend) (h4 : s'.keep = s.keep) (hI : Inv s') :
    Turn w p q s' (w.setCell ⟨p, i, none⟩ v) := ⟨q, h.field s' i v hi h1 h2 h3 h4 hI, fun _ hb => .inl hb, Chg.set _ _ _ (.inl (.inl rfl))⟩

theorem isFile_any (f : Int) (w : World) : Calls Tryd.prog 40 #[.int .i64 f] w fun e w' => e = .returned (.bool (decide (isF f))) ∧ w = w' := by
  by_cases h0 : 0 ≤ f
  · by_cases h1 : f < 16
    · have e : decide (isF f) = true := by simp [isF, h0, h1]
      rw [e]; clear e
      go_enter Tryd.func40, Tryd.ntmps40
      go_wp2
      go_ret
      exact ⟨rfl, rfl⟩
    · have e : decide (isF f) = false := by simp [isF, h0, h1]
      rw [e]; clear e
      go_enter Tryd.func40, Tryd.ntmps40
      go_wp2
      go_ret
      exact ⟨rfl, rfl⟩
  · have e : decide (isF f) = false := by simp [isF, h0]
    rw [e]; clear e
    go_enter Tryd.func40, Tryd.ntmps40
    go_wp2
    go_ret
    exact ⟨rfl, rfl⟩
theorem checkWrite_any (f a : Int) (n : Nat) (hn : n ≤ 4611686018427387904) (w : World) : Calls Tryd.prog 43 #[.int .i64 f, .int .i64 a, .int .i64 n] w fun e w' => e = .returned (.int .i64 (chk f a n)) ∧ w = w' := by
  have hwrap : IntKind.i64.wrap (16777216 - (n : Int)) = 16777216 - (n : Int) := by rw [IntKind.wrap_i64]; omega
  by_cases hf : isF f
  · have hd : decide (isF f) = true := by simp [hf]
    by_cases h0 : a < 0
    · have hc : chk f a n = 1 := by unfold chk; rw [if_pos (.inr h0)]
      rw [hc]
      clear hf
      go_enter Tryd.func43, Tryd.ntmps43
      go_wp2_with (go_at_call 40; refine (isFile_any f _).mono ?_; rintro e w' ⟨rfl, rfl⟩; rw [hd])
      go_ret
      exact ⟨rfl, rfl⟩
    · by_cases h1 : 16777216 - (n : Int) < a
      · have hc : chk f a n = 6 := by unfold chk; rw [if_neg (fun h => h.elim (fun h => h hf) h0), if_pos h1]
        rw [hc]
        clear hf
        go_enter Tryd.func43, Tryd.ntmps43
        go_wp2_with (go_at_call 40; refine (isFile_any f _).mono ?_; rintro e w' ⟨rfl, rfl⟩; rw [hd])
        go_ret
        exact ⟨rfl, rfl⟩
      · have hc : chk f a n = 0 := by unfold chk; rw [if_neg (fun h => h.elim (fun h => h hf) h0), if_neg h1]
        rw [hc]
        clear hf
        go_enter Tryd.func43, Tryd.ntmps43
        go_wp2_with (go_at_call 40; refine (isFile_any f _).mono ?_; rintro e w' ⟨rfl, rfl⟩; rw [hd])
        go_ret
        exact ⟨rfl, rfl⟩
  · have hd : decide (isF f) = false := by simp [hf]
    have hc : chk f a n = 1 := by unfold chk; rw [if_pos (.inl hf)]
    rw [hc]
    clear hf
    go_enter Tryd.func43, Tryd.ntmps43
    go_wp2_with (go_at_call 40; refine (isFile_any f _).mono ?_; rintro e w' ⟨rfl, rfl⟩; rw [hd])
    go_ret
    exact ⟨rfl, rfl⟩
theorem start_any {w : World} {p : Nat} {s : St} {q : Parts} (h : DiskIs w p s q) : Calls Tryd.prog 23 #[.pointer (some ⟨p, 0, none⟩)] w fun e w' => e = .returned (.tuple #[]) ∧ Turn w p q s.start w' := by
  have c4 := h.c4
  have f4 := h.fz 4
  have H := Lib.hid (Turn.field h s.start 4 (.bool false) rfl rfl rfl rfl rfl (inv_start h.inv))
  go_enter Tryd.func23, Tryd.ntmps23
  go_wp2
  go_end0
  exact ⟨rfl, H.out⟩
theorem lose_any {w : World} {p : Nat} {s : St} {q : Parts} (h : DiskIs w p s q) (n : Int) (hn : n ≤ 9223372036854775807) : Calls Tryd.prog 13 #[.pointer (some ⟨p, 0, none⟩), .int .i64 n] w fun e w' => e = .returned (.tuple #[]) ∧ Turn w p q (s.lose n) w' := by
  have c5 := h.c5
  have f5 := h.fz 5
  have H := Lib.hid (fun (m : Int) (e1 : m = ((n.toNat : Nat) : Int)) => Turn.field h (s.lose n) 5 (.int .i64 m) (by rw [e1]; rfl) rfl rfl rfl rfl (inv_lose h.inv hn))
  go_enter Tryd.func13, Tryd.ntmps13
  go_wp2
  all_goals (go_end0; exact ⟨rfl, H.out _ (by omega)⟩)
theorem strikes_any {w : World} {p : Nat} {s : St} {q : Parts} (h : DiskIs w p s q) : Calls Tryd.prog 46 #[.pointer (some ⟨p, 0, none⟩)] w fun e w' => e = .returned (.bool (decide (s.armed = 1))) ∧ Turn w p q s.tick w' := by
  have c6 := h.c6
  have f6 := h.fz 6
  have hb := h.inv.armedb
  by_cases h0 : s.armed = 0
  · have H := Lib.hid (show Turn w p q s.tick w by
      have : s.tick = s := by cases s; simp_all [St.tick]
      rw [this]; exact Turn.refl h)
    have H0 := Lib.hid h0
    rw [h0] at c6
    clear h0 h
    go_enter Tryd.func46, Tryd.ntmps46
    go_wp2
    go_ret
    exact ⟨by rw [H0.out]; rfl, H.out⟩
  · obtain ⟨k, hk⟩ : ∃ k, s.armed = k + 1 := ⟨s.armed - 1, by omega⟩
    have hw : wrap64 (k : Int) = (k : Int) := by unfold wrap64; omega
    have H := Lib.hid (show Turn w p q s.tick (w.setCell ⟨p, 6, none⟩ (.int .i64 (k : Int))) from Turn.field h s.tick 6 (.int .i64 (k : Int)) (by
      have e : s.armed - 1 = k := by omega
      unfold dcells St.tick; rw [← e]; rfl) rfl rfl rfl rfl (inv_tick h.inv))
    have H0 := Lib.hid hk
    have hk0 : (((k + 1 : Nat) : Int) == 0) = false := by rw [beq_eq_false_iff_ne]; omega
    rw [hk] at c6
    clear h0 hk h hb
    by_cases h1 : k = 0
    · subst h1
      go_enter Tryd.func46, Tryd.ntmps46
      go_wp2
      go_ret
      exact ⟨by rw [H0.out]; rfl, H.out⟩
    · have h2 : ((k : Int) == 0) = false := by rw [beq_eq_false_iff_ne]; omega
      have H1 := Lib.hid h1
      clear h1
      go_enter Tryd.func46, Tryd.ntmps46
      go_wp2
      go_ret
      exact ⟨by rw [H0.out]; simp [H1.out], H.out⟩
end Go.Proofs.YtdejajpmebgidaaDoor
