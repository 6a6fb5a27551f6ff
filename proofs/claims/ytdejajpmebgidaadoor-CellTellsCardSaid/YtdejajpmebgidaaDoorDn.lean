/-
  PACKAGE disk: Copy.
-/
import Derived.Test.YtdejajpmebgidaaDoorDl
namespace Go.Proofs.YtdejajpmebgidaaDoor
open Go.RowKit Go.Maps WireM DiskM
set_option linter.unusedVariables false
set_option linter.unusedSimpArgs false
set_option maxRecDepth 100000

/-- A copy of a disk that is being made: its struct lies in block z. -/
structure Half (w : World) (p z : Nat) (s : St) (q : Parts) (cs : Array Value) (x : World) : Prop where
  old : Dk0 x p s q
  new : x.heap[z]? = some (.cells cs 55 (0, 0))
  below : Below w.heap.size w x
  hz : z = w.heap.size
  hp : p ≠ z
theorem Half.call {w : World} {p z : Nat} {s : St} {q : Parts} {cs : Array Value} {x y : World} (h : Half w p z s q cs x) (hb : Below x.heap.size x y) : Half w p z s q cs y :=
  ⟨h.old.below hb, (hb.block z (Array.getElem?_eq_some_iff.1 h.new).1).trans h.new, h.below.trans (hb.mono h.below.size), h.hz, h.hp⟩
theorem Half.set {w : World} {p z : Nat} {s : St} {q : Parts} {cs : Array Value} {x : World} (h : Half w p z s q cs x) (hs : ∀ b, Mine p q b → b < w.heap.size) (i : Nat) (v : Value) : Half w p z s q (cs.setIfInBounds i v) (x.setCell ⟨z, i, none⟩ v) := by
  refine ⟨h.old.same (fun b hb => Below.heap_setCell _ _ _ _ (fun e => ?_)), ?_, h.below.setCell (p := ⟨z, i, none⟩) (by rw [h.hz]; exact Nat.le_refl _) v, h.hz, h.hp⟩
  · have := hs b hb
    rw [h.hz] at e
    simp at e; omega
  · simp [World.setCell, Array.getElem?_modify, h.new]
theorem Half.fz {w : World} {p z : Nat} {s : St} {q : Parts} {cs : Array Value} {x : World} (h : Half w p z s q cs x) (i : Nat) : x.frozen? ⟨z, i, none⟩ = false := Lib.frozen_of_heap h.new i
theorem Half.at {w : World} {p z : Nat} {s : St} {q : Parts} {cs : Array Value} {x : World} (h : Half w p z s q cs x) (i : Nat) {v : Value} (hv : cs[i]? = some v) : x.cell? ⟨z, i, none⟩ = some v := by rw [Lib.cell_of_heap h.new]; exact hv
theorem chg_call {z : Nat} {x y : World} (h : Below x.heap.size x y) : Chg (fun b => b = z) x y := Chg.of_below h
theorem chg_set (z i : Nat) (x : World) (v : Value) : Chg (fun b => b = z) x (x.setCell ⟨z, i, none⟩ v) := Chg.set _ _ _ (.inl rfl)
theorem chg_two {z : Nat} {a b c : World} (h : Chg (fun i => i = z) a b) (k : Chg (fun i => i = z) b c) : Chg (fun i => i = z) a c := h.trans k (fun _ hi => .inl hi)
theorem size_set (z i : Nat) (x : World) (v : Value) : (x.setCell ⟨z, i, none⟩ v).heap.size = x.heap.size := by simp [World.setCell]

/-- The copy from its parts. -/
theorem copy_end {w x1 x2 x4 x6 x7 x10 : World} {p z bf bd bl : Nat} {s : St} {q : Parts} {Vf Vd : Int → Value} {vp vk : Value} (hI : Inv s) (hz : z = w.heap.size) (h1 : Half w p z s q (dcells q s) x1) (hs : ∀ b, Mine p q b → b < w.heap.size)
    (k2 : Copied x1 s.now bf Vf x2) (k4 : Copied (x2.setCell ⟨z, 0, none⟩ (.map (some bf))) s.last bd Vd x4)
    (k6 : x6.ownsRow (x4.setCell ⟨z, 1, none⟩ (.map (some bd))).heap.size 78 2 vp s.pend.length (secCells s.pend)) (b6 : Below (x4.setCell ⟨z, 1, none⟩ (.map (some bd))).heap.size (x4.setCell ⟨z, 1, none⟩ (.map (some bd))) x6)
    (k8 : ListedAt x7 bl s.pend) (g8 : (x6.setCell ⟨z, 2, none⟩ vp).heap.size ≤ bl) (b8 : Below (x6.setCell ⟨z, 2, none⟩ vp).heap.size (x6.setCell ⟨z, 2, none⟩ vp) x7)
    (k10 : x10.ownsRow (x7.setCell ⟨z, 3, none⟩ (.map (some bl))).heap.size 3 1 vk s.keep.length (intCells s.keep)) (b10 : Below (x7.setCell ⟨z, 3, none⟩ (.map (some bl))).heap.size (x7.setCell ⟨z, 3, none⟩ (.map (some bl))) x10) :
    Fresh w z s (x10.setCell ⟨z, 7, none⟩ vk) := by
  have lz : z < x1.heap.size := (Array.getElem?_eq_some_iff.1 h1.new).1
  have s0 := h1.below.size
  have s2 := k2.below.size
  have s4 := k4.below.size
  have s6 := b6.size
  have s8 := b8.size
  have s10 := b10.size
  have hk10 := k10
  have hk6 := k6
  simp only [size_set] at s4 s6 s8 s10 k6 k8 k10
  have c10 : Chg (fun b => b = z) x10 (x10.setCell ⟨z, 7, none⟩ vk) := chg_set _ _ _ _
  have c7 : Chg (fun b => b = z) x7 (x10.setCell ⟨z, 7, none⟩ vk) := chg_two (chg_two (chg_set _ _ _ _) (chg_call b10)) c10
  have c6 : Chg (fun b => b = z) x6 (x10.setCell ⟨z, 7, none⟩ vk) := chg_two (chg_two (chg_set _ _ _ _) (chg_call b8)) c7
  have c4 : Chg (fun b => b = z) x4 (x10.setCell ⟨z, 7, none⟩ vk) := chg_two (chg_two (chg_set _ _ _ _) (chg_call b6)) c6
  have c2 : Chg (fun b => b = z) x2 (x10.setCell ⟨z, 7, none⟩ vk) := chg_two (chg_two (chg_set _ _ _ _) (chg_call k4.below)) c4
  have lbf := k2.files.lt
  have lbd := k4.files.lt
  have lbl := k8.lt
  have gbf := k2.low
  have gbd := k4.low
  rw [size_set] at gbd g8
  have rowKept : ∀ {x : World} {e : TypeId} {size n : Nat} {v : Value} {xs : List Value}, Chg (fun b => b = z) x (x10.setCell ⟨z, 7, none⟩ vk) → x.ownsRow 0 e size v n xs → (∀ k, v.ownBlock = some k → z < k) → (x10.setCell ⟨z, 7, none⟩ vk).ownsRow 0 e size v n xs := fun hc hr hk =>
    row_block hr (fun k h => hc.block k (tag_lt (tag_row hr h)) (fun e => by have := hk k h; omega))
  have oVf : ∀ f k, (Vf f).ownBlock = some k → x1.heap.size ≤ k ∧ k < x2.heap.size := fun f k hk => ⟨k2.own f k hk, tag_lt (tag_row (k2.rows f) hk)⟩
  have oVd : ∀ f k, (Vd f).ownBlock = some k → x2.heap.size ≤ k ∧ k < x4.heap.size := fun f k hk => ⟨by have := k4.own f k hk; rw [size_set] at this; exact this, tag_lt (tag_row (k4.rows f) hk)⟩
  have ovp : ∀ k, vp.ownBlock = some k → x4.heap.size ≤ k := fun k hk => ge_of_base k6 hk
  have ovk : ∀ k, vk.ownBlock = some k → x7.heap.size ≤ k := fun k hk => ge_of_base k10 hk
  refine ⟨⟨bf, bd, bl, Vf, Vd, vp, vk⟩, ⟨⟨?_, ?_, ?_, fun f => ?_, fun f => ?_, ?_, ?_, ?_, ?_, ?_, ?_, k2.ap, k4.ap, fun f g k ha hb => ?_⟩, hI⟩, fun b hb => ?_, ?_⟩
  · have n2 := ((((h1.call k2.below).set hs 0 (.map (some bf))).call k4.below).set hs 1 (.map (some bd))).call b6
    have n3 := ((((n2.set hs 2 vp).call b8).set hs 3 (.map (some bl))).call b10).set hs 7 vk
    exact n3.new
  · exact k2.files.block (c2.block _ lbf (by omega))
  · exact k4.files.block (c4.block _ lbd (by omega))
  · exact rowKept c2 (k2.rows f) (fun k hk => by have := oVf f k hk; omega)
  · exact rowKept c4 (k4.rows f) (fun k hk => by have := oVd f k hk; omega)
  · exact rowKept c6 (row_base hk6) (fun k hk => by have := ovp k hk; omega)
  · exact k8.block (c7.block _ lbl (by omega))
  · exact rowKept c10 (row_base hk10) (fun k hk => by have := ovk k hk; omega)
  · show bf ≠ bd; omega
  · show bl ≠ bf; omega
  · show bl ≠ bd; omega
  · have := oVf f k ha; have := oVd g k hb; omega
  · rcases hb with rfl | rfl | rfl | rfl | hb | hb | ⟨f, hb⟩ | ⟨f, hb⟩
    · omega
    · show w.heap.size ≤ b; omega
    · show w.heap.size ≤ b; omega
    · show w.heap.size ≤ b; omega
    · have := ovp b hb; omega
    · have := ovk b hb; omega
    · have := oVf f b hb; omega
    · have := oVd f b hb; omega
  · have n2 := ((((h1.call k2.below).set hs 0 (.map (some bf))).call k4.below).set hs 1 (.map (some bd))).call b6
    have n3 := ((((n2.set hs 2 vp).call b8).set hs 3 (.map (some bl))).call b10).set hs 7 vk
    exact n3.below
end Go.Proofs.YtdejajpmebgidaaDoor
