/-
  PACKAGE disk: unlist.
-/
import Derived.Test.YtdejajpmebgidaaDoorDs
import Derived.Deep.RegionHeld3
namespace Go.Proofs.YtdejajpmebgidaaDoor
open Go.RowKit Go.Maps WireM DiskM
set_option linter.unusedVariables false
set_option linter.unusedSimpArgs false
set_option maxRecDepth 100000

theorem tag_ne {w : World} {k k' : Nat} {t t' : Tag} (h1 : tagOf w k = some t) (h2 : tagOf w k' = some t') (h3 : t ≠ t') : k ≠ k' := fun e => by rw [e, h2] at h1; exact h3 (by simpa using h1.symm)
/-- The list of pending sectors is laid anew, behind the writing of its row and of the set. -/
theorem Dk0.setVp {w w' : World} {p : Nat} {s : St} {q : Parts} (h : Dk0 w p s q) {S : Nat → Prop} (hc : Chg S w w') (hS : ∀ b, S b → b < w.heap.size → b = q.bl ∨ q.vp.ownBlock = some b) {P : List Sec} {v : Value} (hr : SecRow w' v P) (hl : ListedAt w' q.bl P) :
    w'.frozen? ⟨p, 2, none⟩ = false ∧ w'.cell? ⟨p, 2, none⟩ = some q.vp ∧ Dk0 (w'.setCell ⟨p, 2, none⟩ v) p { s with pend := P } { q with vp := v } ∧ Chg (fun b => b = p ∨ b = q.bl ∨ q.vp.ownBlock = some b) w (w'.setCell ⟨p, 2, none⟩ v) := by
  have hkeep : ∀ b, b < w.heap.size → b ≠ q.bl → (∀ k, q.vp.ownBlock = some k → b ≠ k) → w'.heap[b]? = w.heap[b]? := fun b hb h1 h2 => hc.block b hb (fun h3 => by
    rcases hS b h3 hb with h4 | h4
    · exact h1 h4
    · exact h2 b h4 rfl)
  have hcells : w'.heap[p]? = some (.cells (dcells q s) 55 (0, 0)) := (hkeep p (tag_lt h.tp) (tag_ne h.tp h.tl (by simp)) (fun k hk => tag_ne h.tp (h.tvp hk) (by simp))).trans h.cells
  have hrow : ∀ {e : TypeId} {size m : Nat} {v : Value} {xs : List Value}, w.ownsRow 0 e size v m xs → e ≠ 78 → w'.ownsRow 0 e size v m xs := fun hr0 hne =>
    row_block hr0 (fun k hk => hkeep k (tag_lt (tag_row hr0 hk)) (tag_ne (tag_row hr0 hk) h.tl (by simp)) (fun k' hk' => tag_ne (tag_row hr0 hk) (h.tvp hk') (by simpa using hne)))
  refine ⟨Lib.frozen_of_heap hcells 2, by rw [Lib.cell_of_heap hcells]; rfl, ?_, ?_⟩
  · exact cells_turn hcells { s with pend := P } { q with vp := v } 2 v rfl (h.files.block (hkeep _ (tag_lt h.tf) (fun e => h.nlf e.symm) (fun k hk => tag_ne h.tf (h.tvp hk) (by simp)))) (h.dur.block (hkeep _ (tag_lt h.td) (fun e => h.nld e.symm) (fun k hk => tag_ne h.td (h.tvp hk) (by simp))))
      (fun g => hrow (h.now g) (by decide)) (fun g => hrow (h.last g) (by decide)) hr hl (hrow h.keep (by decide)) h.ne h.nlf h.nld h.ap h.aq h.apq
  · exact (hc.mono (S' := fun b => b = p ∨ b = q.bl ∨ q.vp.ownBlock = some b) (fun i hi h1 => .inr (hS i h1 hi))).trans (Chg.set (S := fun b => b = p) w' 2 v (.inl rfl)) (fun i hi => .inl (.inl hi))
def UnOut (w : World) (p : Nat) (s : St) (q : Parts) (f : Int) (w' : World) : Prop :=
  ∃ v', Dk0 w' p { s with pend := noF f s.pend } { q with vp := v' } ∧ v'.ownBlock = q.vp.ownBlock ∧ Chg (fun b => b = p ∨ b = q.bl ∨ q.vp.ownBlock = some b) w w'
set_option maxHeartbeats 4000000 in
theorem unlist0 {w : World} {p : Nat} {s : St} {q : Parts} (h : Dk0 w p s q) (hin : InS s.pend) (hnd : s.pend.Nodup) (hlen : s.pend.length ≤ 1099511627776) (f : Int) :
    Calls Tryd.prog 51 #[.pointer (some ⟨p, 0, none⟩), .int .i64 f] w fun e w' => e = .returned (.tuple #[]) ∧ UnOut w p s q f w' := by
  have hpl : p < w.heap.size := tag_lt h.tp
  have hw2 : Below w.heap.size w ((w.alloc (.cells #[.pointer (some ⟨p, 0, none⟩)] 25)).alloc (.cells #[.int .i64 f] 3)) := ((Below.refl _ w).alloc (Nat.le_refl _) _).alloc (by simp) _
  have z1 : (w.alloc (.cells #[.pointer (some ⟨p, 0, none⟩)] 25)).heap.size = w.heap.size + 1 := by simp
  have h2 := h.below hw2
  have y0 : ((w.alloc (.cells #[.pointer (some ⟨p, 0, none⟩)] 25)).alloc (.cells #[.int .i64 f] 3)).cell? ⟨w.heap.size, 0, none⟩ = some (.pointer (some ⟨p, 0, none⟩)) := by
    refine Lib.cell?_alloc_some _ ?_
    rw [Lib.cell_of_heap (heap_alloc_new w _)]; rfl
  have y1 : ((w.alloc (.cells #[.pointer (some ⟨p, 0, none⟩)] 25)).alloc (.cells #[.int .i64 f] 3)).cell? ⟨w.heap.size + 1, 0, none⟩ = some (.int .i64 f) := by
    have := heap_alloc_new (w.alloc (.cells #[.pointer (some ⟨p, 0, none⟩)] 25)) (.cells #[.int .i64 f] 3)
    rw [z1] at this
    rw [Lib.cell_of_heap this]; rfl
  have hwlt : w.heap.size + 1 < ((w.alloc (.cells #[.pointer (some ⟨p, 0, none⟩)] 25)).alloc (.cells #[.int .i64 f] 3)).heap.size := by simp
  have c2 := h2.c2
  have ONE := Lib.hid (show ∃ w2, w2 = ((w.alloc (.cells #[.pointer (some ⟨p, 0, none⟩)] 25)).alloc (.cells #[.int .i64 f] 3)) from ⟨_, rfl⟩)
  have MAIN := Lib.hid (show ∃ (a : Option Addr) (n c : Nat), q.vp = .slice a n c ∧ Hid (Calls Tryd.prog 58 #[.slice a n c, delFn (w.heap.size + 1) w.heap.size] ((w.alloc (.cells #[.pointer (some ⟨p, 0, none⟩)] 25)).alloc (.cells #[.int .i64 f] 3)).drew fun e w' =>
      ∃ (a' : Option Addr) (n' c' : Nat), e = .returned (.slice a' n' c') ∧ w'.cell? ⟨w.heap.size, 0, none⟩ = some (.pointer (some ⟨p, 0, none⟩)) ∧ (w'.setCell ⟨p, 2, none⟩ (.slice a' n' c')).cell? ⟨w.heap.size, 0, none⟩ = some (.pointer (some ⟨p, 0, none⟩)) ∧ w'.frozen? ⟨p, 2, none⟩ = false ∧ w'.cell? ⟨p, 2, none⟩ = some q.vp ∧ Hid (UnOut w p s q f (w'.setCell ⟨p, 2, none⟩ (.slice a' n' c')))) from by
    have h3 := h2.drew
    have hset : ∀ (w' : World) (v : Value), w'.cell? ⟨w.heap.size, 0, none⟩ = some (.pointer (some ⟨p, 0, none⟩)) → (w'.setCell ⟨p, 2, none⟩ v).cell? ⟨w.heap.size, 0, none⟩ = some (.pointer (some ⟨p, 0, none⟩)) := fun w' v h' => by
      rw [← h']
      exact World.cell?_of_block (Below.heap_setCell _ _ _ _ (by simp; omega))
    by_cases h0 : s.pend = []
    · obtain ⟨a, c, hv⟩ := row_form h.pend
      refine ⟨a, s.pend.length, c, hv, ?_⟩
      rw [h0]
      refine Lib.hid ((deleteFunc_empty a c _ _).mono ?_)
      rintro e w' ⟨rfl, rfl⟩
      have hP : noF f s.pend = s.pend := by rw [h0]; rfl
      rw [h0] at hv
      obtain ⟨f2, e2, hD, hC⟩ := h3.setVp (S := fun _ => False) (Chg.refl _ _) (fun b h' => h'.elim) h3.pend h3.list
      rw [hv] at hD hC
      simp only [List.length_nil] at hD hC
      refine ⟨a, 0, c, rfl, y0, hset _ _ y0, f2, e2, Lib.hid ⟨.slice a 0 c, by rw [hP]; exact hD, by rw [hv]; rfl, (Chg.of_below (S := fun b => b = p ∨ b = q.bl ∨ q.vp.ownBlock = some b) hw2).drew.trans hC (fun i hi => .inl ?_)⟩⟩
      rw [hv]; exact hi
    · obtain ⟨g, cap, hv, hrow⟩ := rowD_of h3.pend h0
      have hvk : q.vp.ownBlock = some g := by rw [hv]; rfl
      have hgl := tag_lt (h.tvp hvk)
      have hdel : Del ((w.alloc (.cells #[.pointer (some ⟨p, 0, none⟩)] 25)).alloc (.cells #[.int .i64 f] 3)).drew p q.bl (w.heap.size + 1) w.heap.size f s.pend := ⟨y1, y0, h3.c3, h3.list⟩
      refine ⟨_, _, cap, hv, Lib.hid ((deleteFunc_any hdel hin hnd hrow hlen ⟨by omega, by omega, tag_ne h.tp (h.tvp hvk) (by simp)⟩).mono ?_)⟩
      rintro e w' ⟨rfl, hr, hd, hc⟩
      have hsr : SecRow w' (.slice (some ⟨g, 0, none⟩) (noF f s.pend).length cap) (noF f s.pend) := by
        obtain ⟨cur, a1, a2, a3, a4, a5⟩ := hr
        exact ⟨secCells_len _, .inr ⟨g, cap, cur, rfl, Nat.zero_le _, a1, a4, a5, a2, a3⟩⟩
      obtain ⟨f2, e2, hD, hC⟩ := h3.setVp hc (fun b hb _ => hb.imp id (fun e => by rw [e]; exact hvk)) hsr hd.set
      have hlb := tag_lt h.tl
      refine ⟨_, _, _, rfl, hd.ptr, hset _ _ hd.ptr, f2, e2, Lib.hid ⟨_, hD, by rw [hvk]; rfl, (Chg.of_below (S := fun b => b = p ∨ b = q.bl ∨ q.vp.ownBlock = some b) hw2).drew.trans hC (fun i hi => .inl hi)⟩⟩)
  obtain ⟨a, n, c, hv, CL⟩ := MAIN.out
  rw [hv] at c2
  have HV := Lib.hid hv
  have y0d : ((w.alloc (.cells #[.pointer (some ⟨p, 0, none⟩)] 25)).alloc (.cells #[.int .i64 f] 3)).drew.cell? ⟨w.heap.size, 0, none⟩ = some (.pointer (some ⟨p, 0, none⟩)) := y0
  have hpz : ¬ p = w.heap.size := by omega
  clear h h2 hw2 hin hnd hlen z1 hpl hwlt ONE MAIN hv
  go_enter Tryd.func51, Tryd.ntmps51
  go_wp2
  go_region_with (first | (go_at_call 58; refine CL.out.mono ?_; rintro e w' ⟨a', n', c', rfl, b2, b5, b3, b4, HU⟩))
  all_goals (go_end0; exact ⟨rfl, HU.out⟩)
end Go.Proofs.YtdejajpmebgidaaDoor
