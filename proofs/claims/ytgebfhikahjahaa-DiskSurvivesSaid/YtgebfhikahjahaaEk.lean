/-
  DiskSurvives: what a crash leaves.
-/
import Derived.Test.YtgebfhikahjahaaEc
namespace Go.Proofs.Ytgebfhikahjahaa
open Go.RowKit Go.Maps WireM DiskM
set_option linter.unusedVariables false
set_option linter.unusedSimpArgs false

/-- What is left of a file by a crash. -/
def leftOf (s : St) (f : Int) (k : List Int) : List UInt8 := hardAll s.now (surv k) s.pend s.last s.pend.length f
theorem left_read {s : St} (hi : Inv s) {f : Int} (hd : s.down = false) (hf : isF f) (k : List Int) : (s.crash k).start.read f 0 16777216 = (leftOf s f k, 0) := by
  rw [read_all (inv_start (inv_crash hi k)) rfl hf]
  unfold St.crash
  rw [if_neg (by simp [hd])]
  rfl
theorem left_nil (s : St) (f : Int) : leftOf s f [] = s.last f := by unfold leftOf; rw [hardAll_nil]
theorem left_one {s : St} (hi : Inv s) (f : Int) : leftOf s f [1] = s.now f := by
  have c := hardAll_chr s.now (surv [1]) s.pend s.last hi.le hi.pin s.pend.length
  refine chr_all hi c f (fun n hm => mem_hit hm (fun j _ => ?_))
  unfold surv
  simp [Nat.mod_one]
theorem left_len {s : St} (hi : Inv s) (f : Int) (k : List Int) : (s.last f).length ≤ (leftOf s f k).length ∧ (leftOf s f k).length ≤ (s.now f).length := by
  have c := hardAll_chr s.now (surv k) s.pend s.last hi.le hi.pin s.pend.length
  exact ⟨c.lo f, c.hi f⟩
/-- Each sector is wholly the file's or wholly the durable part's. -/
theorem left_sec {s : St} (hi : Inv s) (f : Int) (k : List Int) (n : Nat) :
    (∀ i, i / 64 = n → at0 (leftOf s f k) i = at0 (s.now f) i) ∨ (∀ i, i / 64 = n → at0 (leftOf s f k) i = at0 (s.last f) i) := by
  have c := hardAll_chr s.now (surv k) s.pend s.last hi.le hi.pin s.pend.length
  by_cases h : Hit (surv k) s.pend s.pend.length f n
  · exact .inl (fun i e => c.hit f i (by rw [e]; exact h))
  · exact .inr (fun i e => c.miss f i (by rw [e]; exact h))
/-- after, with a list that lies before the disks. -/
theorem S1.after {w0 w : World} {p : Nat} {s : St} (h : S1 w0 w p s) (f : Int) (hf : InI f) {a : Option Addr} {c : Nat} {l : List Int} (K : ListAt w0 a c l) :
    Calls Try.prog 23 #[.pointer (some ⟨p, 0, none⟩), .int .i64 f, .slice a l.length c] w fun e w' => e = .returned (.tuple #[.string (bs ((s.crash l).start.read f 0 16777216).1), .bool ((((s.crash l).start.read f 0 16777216).2) == 0)]) ∧ S1 w0 w' p s := by
  have h' := h
  obtain ⟨q, h1, hb⟩ := h
  refine (after_any h1.1 h1.2.2 f hf _ l (K.at hb) (fun hne b e => Nat.lt_of_lt_of_le (K.low hne b e) hb.size) (by have := K.len; omega)).mono ?_
  rintro e w' ⟨rfl, b⟩
  exact ⟨rfl, h'.on b⟩
/-- after, with a list that has just been made. -/
theorem S1.afterL {w0 w : World} {p : Nat} {s : St} (h : S1 w0 w p s) (f : Int) (hf : InI f) (l : List Int) (c : Nat) (hl : l.length ≤ 60) :
    Calls Try.prog 23 #[.pointer (some ⟨p, 0, none⟩), .int .i64 f, .slice (some ⟨w.heap.size, 0, none⟩) l.length c] (w.alloc (.cells (intCells l).toArray 3)) fun e w' => e = .returned (.tuple #[.string (bs ((s.crash l).start.read f 0 16777216).1), .bool ((((s.crash l).start.read f 0 16777216).2) == 0)]) ∧ S1 w0 w' p s := by
  have hz := heap_alloc_new w (.cells (intCells l).toArray 3)
  have hsz : (w.alloc (.cells (intCells l).toArray 3)).heap.size = w.heap.size + 1 := by simp
  have hsrc : SrcAt (w.alloc (.cells (intCells l).toArray 3)) (.slice (some ⟨w.heap.size, 0, none⟩) l.length c) l.length (intCells l) := by
    refine .inr ⟨w.heap.size, 0, c, rfl, fun j u hj => ?_⟩
    rw [Lib.cell_of_heap hz, Nat.zero_add]
    simpa using hj
  have h0 := h.on ((Below.refl _ w).alloc (Nat.le_refl _) (.cells (intCells l).toArray 3))
  have h' := h0
  obtain ⟨q, h1, hb⟩ := h0
  refine (after_any h1.1 h1.2.2 f hf _ l hsrc (fun hne b e => ?_) (by omega)).mono ?_
  · have e : w.heap.size = b := by simpa [Value.ownBlock] using e
    omega
  rintro e w' ⟨rfl, b⟩
  exact ⟨rfl, h'.on b⟩
end Go.Proofs.Ytgebfhikahjahaa
