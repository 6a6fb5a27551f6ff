/-
  PACKAGE disk: list.
-/
import Derived.Test.YtdejajpmebgidaaDoorDn
namespace Go.Proofs.YtdejajpmebgidaaDoor
open Go.RowKit Go.Maps WireM DiskM
set_option linter.unusedVariables false
set_option linter.unusedSimpArgs false
set_option maxRecDepth 100000

theorem Chg.drewL {S : Nat → Prop} {a b : World} (h : Chg S a b) : Chg S a.drew b := ⟨h.os, h.tape, h.output, h.size, h.block⟩
theorem cell_kept {S : Nat → Prop} {a b : World} (h : Chg S a b) {z i : Nat} {v : Value} (hz : a.cell? ⟨z, i, none⟩ = some v) (hS : ¬ S z) : b.cell? ⟨z, i, none⟩ = some v := by
  have hlt : z < a.heap.size := by
    rcases Nat.lt_or_ge z a.heap.size with h' | h'
    · exact h'
    · simp [World.cell?, Array.getElem?_eq_none h'] at hz
  rw [← hz]
  exact World.cell?_of_block (h.block z hlt hS)
theorem secCells_snoc (p : List Sec) (f : Int) (n : Nat) : secCells (p ++ [(f, n)]) = secCells p ++ [.int .i64 f, .int .i64 n] := by simp [secCells]
def InS (p : List Sec) : Prop := ∀ s ∈ p, InI s.1 ∧ InI s.2
/-- A sector is listed: the map first, then the slice. -/
theorem list_step {w : World} {p : Nat} {s : St} {q : Parts} (h : Dk0 w p s q) (hin : InS s.pend) (hlen : s.pend.length ≤ 1099511627776) {f : Int} {n : Nat} (hf : InI f) (hn : InI n) :
    ∃ w3, (Instr.mapUpdate 52 (.map (some q.bl)) (.agg #[.int .i64 f, .int .i64 n]) (.bool true)).run Tryd.prog w = .ok () w3 ∧ Chg (fun b => b = q.bl) w w3 ∧ w3.cell? ⟨p, 2, none⟩ = some q.vp ∧ SecRow w3 q.vp s.pend ∧
      ∀ W5 v', Chg (fun b => q.vp.ownBlock = some b) w3 W5 → W5.ownsRow 0 78 2 v' (s.pend.length + 1) (secCells s.pend ++ [.int .i64 f, .int .i64 n]) → (v'.ownBlock = q.vp.ownBlock ∨ ∃ k, v'.ownBlock = some k ∧ w3.heap.size ≤ k) →
        W5.frozen? ⟨p, 2, none⟩ = false ∧ W5.cell? ⟨p, 2, none⟩ = some q.vp ∧ Dk0 (W5.setCell ⟨p, 2, none⟩ v') p { s with pend := s.pend ++ [(f, n)] } { q with vp := v' } ∧ Chg (fun b => b = p ∨ b = q.bl ∨ q.vp.ownBlock = some b) w (W5.setCell ⟨p, 2, none⟩ v') := by
  obtain ⟨w3, hrun, hL, hT⟩ := h.list.store (by unfold maxLen; omega) hf hn hin
  have hC : Chg (fun b => b = q.bl) w w3 := Chg.of_turned hT (.inl rfl)
  have tne : ∀ {k k' : Nat} {t t' : Tag}, tagOf w k = some t → tagOf w k' = some t' → t ≠ t' → k ≠ k' := fun h1 h2 h3 e => by rw [e, h2] at h1; exact h3 (by simpa using h1.symm)
  have hpl : p ≠ q.bl := tne h.tp h.tl (by simp)
  have hrow3 : SecRow w3 q.vp s.pend := row_block h.pend (fun k hk => hC.block k (tag_lt (h.tvp hk)) (tne (h.tvp hk) h.tl (by simp)))
  refine ⟨w3, hrun, hC, cell_kept hC h.c2 hpl, hrow3, fun W5 v' hg hr hloc => ?_⟩
  have hp3 : w3.heap[p]? = w.heap[p]? := hC.block p (tag_lt h.tp) hpl
  have hvp : ∀ k, q.vp.ownBlock = some k → p ≠ k := fun k hk => tne h.tp (h.tvp hk) (by simp)
  have hp5 : W5.heap[p]? = w.heap[p]? := (hg.block p (Nat.lt_of_lt_of_le (tag_lt h.tp) hC.size) (fun e => hvp p e rfl)).trans hp3
  have hcells : W5.heap[p]? = some (.cells (dcells q s) 55 (0, 0)) := hp5.trans h.cells
  have hkeep : ∀ b, b < w.heap.size → b ≠ q.bl → (∀ k, q.vp.ownBlock = some k → b ≠ k) → W5.heap[b]? = w.heap[b]? := fun b hb h1 h2 => (hg.block b (Nat.lt_of_lt_of_le hb hC.size) (fun e => h2 b e rfl)).trans (hC.block b hb h1)
  have hrow : ∀ {e : TypeId} {size m : Nat} {v : Value} {xs : List Value}, w.ownsRow 0 e size v m xs → e ≠ 78 → W5.ownsRow 0 e size v m xs := fun hr0 hne =>
    row_block hr0 (fun k hk => hkeep k (tag_lt (tag_row hr0 hk)) (tne (tag_row hr0 hk) h.tl (by simp)) (fun k' hk' => tne (tag_row hr0 hk) (h.tvp hk') (by simpa using hne)))
  refine ⟨Lib.frozen_of_heap hcells 2, by rw [Lib.cell_of_heap hcells]; rfl, ?_, ?_⟩
  · refine cells_turn hcells { s with pend := s.pend ++ [(f, n)] } { q with vp := v' } 2 v' rfl (h.files.block (hkeep _ (tag_lt h.tf) (fun e => h.nlf e.symm) (fun k hk => tne h.tf (h.tvp hk) (by simp)))) (h.dur.block (hkeep _ (tag_lt h.td) (fun e => h.nld e.symm) (fun k hk => tne h.td (h.tvp hk) (by simp))))
      (fun g => hrow (h.now g) (by decide)) (fun g => hrow (h.last g) (by decide)) ?_ ?_ (hrow h.keep (by decide)) h.ne h.nlf h.nld h.ap h.aq h.apq
    · show W5.ownsRow 0 _ 2 v' (s.pend ++ [(f, n)]).length (secCells (s.pend ++ [(f, n)]))
      rw [secCells_snoc, List.length_append]
      exact hr
    · exact hL.block (hg.block _ hL.lt (fun e => by have := tag_row hrow3 e; obtain ⟨es, c, e2⟩ := hL.isMap; simp [tagOf, e2] at this))
  · exact ((hC.mono (fun i _ hi => .inr (.inl hi))).trans hg (fun i hi => .inl (.inr (.inr hi)))).trans (Chg.set (S := fun b => b = p) W5 2 v' (.inl rfl)) (fun i hi => .inl (.inl hi))

/-- append of a sector, as a step of a region that draws its order. -/
theorem step_append_sec {ops : Array Oper} {o : Oper} {a : Act} {K : Act → World → Prop} {Q : Exit → Act → World → Prop} {E : Prop} (hgd : o.guard = none) (s x : Operand)
    (ho : o.op = .call { callee := .builtin .append, args := #[s, x], argTypes := #[ 53, 53 ] })
    {w : World} {v : Value} {m : Nat} {xs : List Value} (h : w.ownsRow 0 78 2 v m xs) (f n : Int) (hs : a.eval s = v) (hx : a.eval x = .slice (some ⟨w.heap.size, 0, none⟩) 1 1) (hlen : m ≤ 1099511627776)
    (hK : ∀ g cap w3, w3.ownsRow 0 78 2 (.slice (some ⟨g, 0, none⟩) (m + 1) cap) (m + 1) (xs ++ [.int .i64 f, .int .i64 n]) → Chg (fun b => v.ownBlock = some b) w w3 → (v.ownBlock = some g ∨ w.heap.size ≤ g) → K (a.put o.dst (.slice (some ⟨g, 0, none⟩) (m + 1) cap)) w3) :
    if Region.wanted o (yielded ops a.tmps) = true then Oper.wp Tryd.prog o a (w.alloc (.cells #[.int .i64 f, .int .i64 n] 78)) K Q else E := by
  obtain ⟨i0, hi, hz0, hz1, hz2⟩ := info_parts infoS
  refine step_append_lies _ hgd s x 53 ho 0 78 i0 (.agg #[.int .i64 0, .int .i64 0]) 2 16 Tryd.underlying53 hi hz0 hz1 hz2 rfl (by decide) v m xs hs (h.alloc _) ⟨w.heap.size, 0, none⟩ 1 1 [.int .i64 f, .int .i64 n] hx rfl (World.news_of_block (heap_alloc_new w _)) ?_ (by decide) ?_ ?_ (Nat.zero_le _) (w.heap.size + 1) (by simp) ?_
  · intro u hu
    simp at hu
    rcases hu with rfl | rfl <;> rfl
  · unfold maxLen; omega
  · omega
  · intro g cap w3 h1 h2 h3 _
    exact hK g cap w3 h1 ((Chg.alloc w _).trans (Chg.of_grown (S := fun b => v.ownBlock = some b) h2 (fun k hk => .inl hk)) (fun i hi => .inl hi)) (h3.imp id (fun e => by omega))
theorem addp_len_mono (pend : List Sec) (f : Int) (a : Nat) : ∀ k, (addp pend f a k).length ≤ (addp pend f a (k + 1)).length
  | k => by
    rw [addp]
    split
    · exact Nat.le_refl _
    · simp
theorem addp_len_le (pend : List Sec) (f : Int) (a : Nat) : ∀ j k, j ≤ k → (addp pend f a j).length ≤ (addp pend f a k).length := fun j k h => by
  induction h with
  | refl => exact Nat.le_refl _
  | step _ ih => exact Nat.le_trans ih (addp_len_mono _ _ _ _)
theorem addp_in {pend : List Sec} {f : Int} {a k : Nat} (h : InS pend) (hf : InI f) (ha : a + k ≤ 9223372036854775807) : InS (addp pend f a k) := fun s hs => by
  rcases (mem_addp k).1 hs with h1 | h1
  · exact h s h1
  · exact ⟨h1.1 ▸ hf, by unfold InI; omega⟩
end Go.Proofs.YtdejajpmebgidaaDoor
