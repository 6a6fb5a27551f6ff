/-
  DiskSynced: what a crash does not touch.
-/
import Derived.Test.YtgebfhikahjahaaEc
namespace Go.Proofs.Ytgebfhikahjahaa
open Go.RowKit Go.Maps WireM DiskM
set_option linter.unusedVariables false
set_option linter.unusedSimpArgs false

def Kept (s : St) (f : Int) (N : List UInt8) : Prop := s.now f = N ∧ s.last f = N ∧ ∀ n, (f, n) ∉ s.pend
theorem Kept.crash {s : St} {f : Int} {N : List UInt8} (h : Kept s f N) (k : List Int) : Kept (s.crash k) f N := by
  unfold St.crash
  split
  · exact h
  · have e : hardAll s.now (surv k) s.pend s.last s.pend.length f = s.last f := chr_none _ rfl f (fun n ⟨j, _, _, h3⟩ => h.2.2 n (List.mem_of_getElem? h3))
    exact ⟨e.trans h.2.1, e.trans h.2.1, fun n hm => by cases hm⟩
theorem Kept.tick {s : St} {f : Int} {N : List UInt8} (h : Kept s f N) : Kept s.tick f N := h
theorem Kept.strike {s : St} {f : Int} {N : List UInt8} (h : Kept s f N) (e : Int) : Kept (s.strike e).1 f N := by
  unfold St.strike
  split
  · exact h.tick.crash _
  · exact h.tick
theorem Kept.begin {s : St} {f : Int} {N : List UInt8} (h : Kept s f N) (g : Int) : Kept (s.begin g).1 f N := by
  unfold St.begin
  split
  · exact h
  · exact h.strike _
theorem Kept.write {s : St} {f : Int} {N : List UInt8} (h : Kept s f N) {g : Int} (hg : g ≠ f) (a : Int) (t : List UInt8) : Kept (s.write g a t).1 f N := by
  unfold St.write
  split
  · exact h
  · refine Kept.strike ?_ _
    split
    · refine ⟨(upd_other _ _ (fun e => hg e.symm)).trans h.1, h.2.1, fun n hm => ?_⟩
      rcases (mem_addp _).1 hm with h1 | h1
      · exact h.2.2 n h1
      · exact hg h1.1.symm
    · exact h
theorem Kept.sync {s : St} {f : Int} {N : List UInt8} (h : Kept s f N) {g : Int} (hg : g ≠ f) : Kept (s.sync g).1 f N := by
  unfold St.sync
  split
  · exact h.begin g
  · split
    · exact h.begin g
    · have hb := h.begin g
      exact ⟨hb.1, (upd_other _ _ (fun e => hg e.symm)).trans hb.2.1, fun n hm => hb.2.2 n (List.mem_filter.1 hm).1⟩
theorem Kept.trunc {s : St} {f : Int} {N : List UInt8} (h : Kept s f N) {g : Int} (hg : g ≠ f) (n : Int) : Kept (s.trunc g n).1 f N := by
  unfold St.trunc
  split
  · exact h.begin g
  · split
    · exact h.begin g
    · have hb := h.begin g
      exact ⟨(upd_other _ _ (fun e => hg e.symm)).trans hb.1, (upd_other _ _ (fun e => hg e.symm)).trans hb.2.1, fun n hm => hb.2.2 n (List.mem_filter.1 hm).1⟩
theorem Kept.act {s : St} {f : Int} {N : List UInt8} (h : Kept s f N) {A : ActV} (hA : A.d % 8 = 4 ∨ (A.d % 8 < 4 ∧ A.f ≠ f)) : Kept (actS s A).1 f N := by
  unfold actS
  split
  · exact h.sync (by omega)
  split
  · exact h.trunc (by omega) _
  split
  · exact h
  split
  · omega
  split
  · omega
  split
  · omega
  · exact h.write (by omega) _ _
theorem sync_kept {s : St} {f : Int} (h : (s.sync f).2 = 0) : s.down = false ∧ isF f ∧ (s.sync f).1.down = false ∧ Kept (s.sync f).1 f (s.now f) := by
  have hd : s.down = false := by
    cases hd : s.down with
    | false => rfl
    | true =>
      have : s.begin f = (s, 9) := by unfold St.begin; rw [if_pos hd]
      unfold St.sync at h
      rw [this] at h
      simp at h
  have hb : s.begin f = s.strike (if isF f then 0 else 1) := by unfold St.begin; rw [if_neg (by simp [hd])]
  by_cases ha : s.armed = 1
  · unfold St.strike at hb
    rw [if_pos ha] at hb
    unfold St.sync at h
    rw [hb] at h
    simp at h
  unfold St.strike at hb
  rw [if_neg ha] at hb
  by_cases hf : isF f
  · rw [if_pos hf] at hb
    by_cases hl : 0 < s.tick.lost
    · unfold St.sync at h
      rw [hb] at h
      simp only [ne_eq, not_true_eq_false, if_false, if_pos hl] at h
      omega
    · have e : s.sync f = (s.tick.synced f, 0) := by
        unfold St.sync
        rw [hb]
        simp only [ne_eq, not_true_eq_false, if_false, if_neg hl]
      rw [e]
      refine ⟨hd, hf, hd, rfl, upd_same _ _ _, fun n hm => ?_⟩
      have := (List.mem_filter.1 hm).2
      simp at this
  · rw [if_neg hf] at hb
    unfold St.sync at h
    rw [hb] at h
    simp at h
theorem kept_end {s : St} {f : Int} {N : List UInt8} (h : Kept s f N) (hf : isF f) (k : List Int) (hi : Inv (s.crash k).start) : (s.crash k).start.read f 0 16777216 = (N, 0) := by
  rw [read_all hi rfl hf]
  exact congrArg (fun x => (x, (0 : Int))) (h.crash k).1
end Go.Proofs.Ytgebfhikahjahaa
