/-
  THE LAWS OF LAYER 3: one disk, or two that share nothing, from one call to the next.
-/
import Derived.Test.YtclibkpipggdeaaDe
namespace Go.Proofs.Ytclibkpipggdeaa
open Go.RowKit Go.Maps WireM DiskM
set_option linter.unusedVariables false
set_option linter.unusedSimpArgs false

theorem keep60 {s s' : St} (h : s.keep.length ≤ 60) (e : s'.keep = s.keep ∨ s'.keep = []) : s'.keep.length ≤ 60 := by
  rcases e with e | e <;> rw [e]
  · exact h
  · simp
/-- One disk. -/
def S1 (w0 w : World) (p : Nat) (s : St) : Prop := ∃ q, DAt w0.heap.size w p s q ∧ Below w0.heap.size w0 w
/-- Two disks that share nothing. -/
def S2 (w0 w : World) (p : Nat) (s : St) (p' : Nat) (s' : St) : Prop := ∃ q q', DAt w0.heap.size w p s q ∧ DAt w0.heap.size w p' s' q' ∧ (∀ b, Mine p q b → Mine p' q' b → False) ∧ Below w0.heap.size w0 w
theorem S2.swap {w0 w : World} {p : Nat} {s : St} {p' : Nat} {s' : St} (h : S2 w0 w p s p' s') : S2 w0 w p' s' p s := by
  obtain ⟨q, q', h1, h2, h3, h4⟩ := h
  exact ⟨q', q, h2, h1, fun b x y => h3 b y x, h4⟩
theorem S2.fst {w0 w : World} {p : Nat} {s : St} {p' : Nat} {s' : St} (h : S2 w0 w p s p' s') : S1 w0 w p s := by
  obtain ⟨q, q', h1, h2, h3, h4⟩ := h
  exact ⟨q, h1, h4⟩
theorem S1.bel {w0 w : World} {p : Nat} {s : St} (h : S1 w0 w p s) : Below w0.heap.size w0 w := by obtain ⟨q, h1, h4⟩ := h; exact h4
theorem DAt.on {B : Nat} {w w' : World} {p : Nat} {s : St} {q : Parts} (h : DAt B w p s q) (b : Below w.heap.size w w') : DAt B w' p s q := ⟨h.1.belowI b, h.2.1, h.2.2⟩
theorem S1.on {w0 w w' : World} {p : Nat} {s : St} (h : S1 w0 w p s) (b : Below w.heap.size w w') : S1 w0 w' p s := by
  obtain ⟨q, h1, h4⟩ := h
  exact ⟨q, h1.on b, h4.trans (b.mono h4.size)⟩
theorem S2.on {w0 w w' : World} {p : Nat} {s : St} {p' : Nat} {s' : St} (h : S2 w0 w p s p' s') (b : Below w.heap.size w w') : S2 w0 w' p s p' s' := by
  obtain ⟨q, q', h1, h2, h3, h4⟩ := h
  exact ⟨q, q', h1.on b, h2.on b, h3, h4.trans (b.mono h4.size)⟩
theorem S1.turn {w0 w w' : World} {p : Nat} {s s1 : St} {q : Parts} (h : DAt w0.heap.size w p s q) (hb : Below w0.heap.size w0 w) (ht : Turn w p q s1 w') (hk : s1.keep.length ≤ 60) : S1 w0 w' p s1 := by
  obtain ⟨⟨q', h1⟩, b1⟩ := h.turn hb.size ht hk
  exact ⟨q', h1, hb.trans b1⟩
theorem S2.turn {w0 w w' : World} {p p' : Nat} {s s1 s' : St} {q q' : Parts} (h : DAt w0.heap.size w p s q) (h' : DAt w0.heap.size w p' s' q') (hd : ∀ b, Mine p q b → Mine p' q' b → False) (hb : Below w0.heap.size w0 w) (ht : Turn w p q s1 w') (hk : s1.keep.length ≤ 60) : S2 w0 w' p s1 p' s' := by
  have hb2 := (h.turn hb.size ht hk).2
  obtain ⟨q1, h1, m1, c1⟩ := ht
  refine ⟨q1, q', ⟨h1, fun b hbm => ?_, hk⟩, ⟨h'.1.chgI c1 (fun b hm hm' => hd b hm' hm), h'.2⟩, fun b hm hm' => ?_, hb.trans hb2⟩
  · rcases m1 b hbm with h2 | h2
    · exact h.2.1 b h2
    · have := hb.size; omega
  · rcases m1 b hm with h2 | h2
    · exact hd b h2 hm'
    · have := h'.1.lt hm'; omega
theorem S1.made {w0 w w' : World} {p : Nat} {s : St} (h : Fresh w p s w') (hb : Below w0.heap.size w0 w) (hk : s.keep.length ≤ 60) : S1 w0 w' p s := by
  obtain ⟨q, h1, m1, b1⟩ := h
  exact ⟨q, ⟨h1, fun b hm => Nat.le_trans hb.size (m1 b hm), hk⟩, hb.trans (b1.mono hb.size)⟩
theorem S2.made {w0 w w' : World} {p p' : Nat} {s s' : St} (h : S1 w0 w p s) (hf : Fresh w p' s' w') (hk : s'.keep.length ≤ 60) : S2 w0 w' p s p' s' := by
  obtain ⟨q, h1, hb⟩ := h
  obtain ⟨q', h2, m1, b1⟩ := hf
  exact ⟨q, q', h1.on b1, ⟨h2, fun b hm => Nat.le_trans hb.size (m1 b hm), hk⟩, fun b hm hm' => by have h3 := m1 b hm'; have h4 := h1.1.lt hm; omega, hb.trans (b1.mono hb.size)⟩
theorem S1.read {w0 w : World} {p : Nat} {s : St} (h : S1 w0 w p s) (f a n : Int) (hf : InI f) (ha : InI a) (hn : InI n) : Calls Try.prog 16 #[.pointer (some ⟨p, 0, none⟩), .int .i64 f, .int .i64 a, .int .i64 n] w fun e w' => e = .returned (.tuple #[.string (bs (s.read f a n).1), .int .i64 (s.read f a n).2]) ∧ w = w' := by
  obtain ⟨q, h1, hb⟩ := h
  exact read_any h1.1 f a n hf ha hn
theorem S1.size {w0 w : World} {p : Nat} {s : St} (h : S1 w0 w p s) (f : Int) (hf : InI f) : Calls Try.prog 12 #[.pointer (some ⟨p, 0, none⟩), .int .i64 f] w fun e w' => e = .returned (.int .i64 (s.size f)) ∧ w = w' := by
  obtain ⟨q, h1, hb⟩ := h
  exact size_any h1.1 f hf
theorem S1.isDown {w0 w : World} {p : Nat} {s : St} (h : S1 w0 w p s) : Calls Try.prog 10 #[.pointer (some ⟨p, 0, none⟩)] w fun e w' => e = .returned (.bool s.down) ∧ w = w' := by
  obtain ⟨q, h1, hb⟩ := h
  exact down_any h1.1
theorem S1.copy {w0 w : World} {p : Nat} {s : St} (h : S1 w0 w p s) : Calls Try.prog 14 #[.pointer (some ⟨p, 0, none⟩)] w fun e w' => ∃ p', e = .returned (.pointer (some ⟨p', 0, none⟩)) ∧ S2 w0 w' p s p' s := by
  have hh := h
  obtain ⟨q, h1, hb⟩ := h
  refine (copy_any h1.1 (by have := h1.2.2; omega)).mono ?_
  rintro e w' ⟨p', rfl, hf⟩
  exact ⟨p', rfl, S2.made hh hf h1.2.2⟩
/-- A list of numbers that lies before all disks. -/
structure ListAt (w0 : World) (a : Option Addr) (c : Nat) (l : List Int) : Prop where
  src : SrcAt w0 (.slice a l.length c) l.length (intCells l)
  low : l ≠ [] → ∀ b, (Value.slice a l.length c).ownBlock = some b → b < w0.heap.size
  len : l.length ≤ 60
theorem ListAt.at {w0 w : World} {a : Option Addr} {c : Nat} {l : List Int} (h : ListAt w0 a c l) (hb : Below w0.heap.size w0 w) : SrcAt w (.slice a l.length c) l.length (intCells l) := by
  rcases h.src with h1 | ⟨b, off, c2, hv, h1⟩
  · exact .inl h1
  · refine .inr ⟨b, off, c2, hv, fun j u hj => ?_⟩
    have hlt : b < w0.heap.size := h.low (fun e => by rw [e] at hj; simp [intCells] at hj) b (by rw [hv]; rfl)
    rw [← h1 j u hj]
    exact hb.cell (p := ⟨b, off + j, none⟩) hlt
theorem ListAt.nil (w0 : World) : ListAt w0 none 0 [] := ⟨.inl ⟨⟨none, 0, rfl⟩, rfl, rfl⟩, fun h => absurd rfl h, by simp⟩
theorem S1.write {w0 w : World} {p : Nat} {s : St} (h : S1 w0 w p s) (f a : Int) (t : ByteArray) (ht : t.size ≤ 1099511627776) : Calls Try.prog 18 #[.pointer (some ⟨p, 0, none⟩), .int .i64 f, .int .i64 a, .string t] w fun e w' => e = .returned (.int .i64 (s.write f a t.data.toList).2) ∧ S1 w0 w' p ((s.write f a t.data.toList).1) := by
  obtain ⟨q, h1, hb⟩ := h
  have hk60 := h1.2.2
  have hkb : s.keep.length ≤ 1099511627776 := by omega
  refine (write_any h1.1 hkb f a t ht).mono ?_
  rintro e w' ⟨rfl, ht⟩
  exact ⟨rfl, S1.turn h1 hb ht (keep60 hk60 (write_keep s f a _))⟩
theorem S1.sync {w0 w : World} {p : Nat} {s : St} (h : S1 w0 w p s) (f : Int) : Calls Try.prog 15 #[.pointer (some ⟨p, 0, none⟩), .int .i64 f] w fun e w' => e = .returned (.int .i64 (s.sync f).2) ∧ S1 w0 w' p ((s.sync f).1) := by
  obtain ⟨q, h1, hb⟩ := h
  have hk60 := h1.2.2
  have hkb : s.keep.length ≤ 1099511627776 := by omega
  refine (sync_any h1.1 hkb f).mono ?_
  rintro e w' ⟨rfl, ht⟩
  exact ⟨rfl, S1.turn h1 hb ht (keep60 hk60 (sync_keep s f))⟩
theorem S1.trunc {w0 w : World} {p : Nat} {s : St} (h : S1 w0 w p s) (f n : Int) (hf : InI f) : Calls Try.prog 21 #[.pointer (some ⟨p, 0, none⟩), .int .i64 f, .int .i64 n] w fun e w' => e = .returned (.int .i64 (s.trunc f n).2) ∧ S1 w0 w' p ((s.trunc f n).1) := by
  obtain ⟨q, h1, hb⟩ := h
  have hk60 := h1.2.2
  have hkb : s.keep.length ≤ 1099511627776 := by omega
  refine (trunc_any h1.1 hkb f n hf).mono ?_
  rintro e w' ⟨rfl, ht⟩
  exact ⟨rfl, S1.turn h1 hb ht (keep60 hk60 (trunc_keep s f n))⟩
theorem S1.start {w0 w : World} {p : Nat} {s : St} (h : S1 w0 w p s)  : Calls Try.prog 20 #[.pointer (some ⟨p, 0, none⟩)] w fun e w' => e = .returned (.tuple #[]) ∧ S1 w0 w' p (s.start) := by
  obtain ⟨q, h1, hb⟩ := h
  have hk60 := h1.2.2
  have hkb : s.keep.length ≤ 1099511627776 := by omega
  refine (start_any h1.1).mono ?_
  rintro e w' ⟨rfl, ht⟩
  exact ⟨rfl, S1.turn h1 hb ht (hk60)⟩
theorem S1.crash {w0 w : World} {p : Nat} {s : St} (h : S1 w0 w p s) {a : Option Addr} {c : Nat} {l : List Int} (K : ListAt w0 a c l) : Calls Try.prog 19 #[.pointer (some ⟨p, 0, none⟩), .slice a l.length c] w fun e w' => e = .returned (.tuple #[]) ∧ S1 w0 w' p (s.crash l) := by
  obtain ⟨q, h1, hb⟩ := h
  have hk60 := h1.2.2
  have hkb : s.keep.length ≤ 1099511627776 := by omega
  refine (crash_any h1.1 _ l (K.at hb) (fun hne b e => ⟨Nat.lt_of_lt_of_le (K.low hne b e) hb.size, fun e2 => absurd (h1.2.1 b (.inr (.inr (.inl e2)))) (by have := K.low hne b e; omega), fun f e2 => absurd (h1.2.1 b (.inr (.inr (.inr (.inr (.inr (.inr (.inr ⟨f, e2⟩)))))))) (by have := K.low hne b e; omega)⟩) (by have := K.len; omega)).mono ?_
  rintro e w' ⟨rfl, ht⟩
  exact ⟨rfl, S1.turn h1 hb ht (keep60 hk60 (crash_keep s l))⟩
theorem S1.arm {w0 w : World} {p : Nat} {s : St} (h : S1 w0 w p s) {a : Option Addr} {c : Nat} {l : List Int} (K : ListAt w0 a c l) (n : Int) (hn : n ≤ 9223372036854775807) : Calls Try.prog 23 #[.pointer (some ⟨p, 0, none⟩), .int .i64 n, .slice a l.length c] w fun e w' => e = .returned (.tuple #[]) ∧ S1 w0 w' p (s.arm n l) := by
  obtain ⟨q, h1, hb⟩ := h
  have hk60 := h1.2.2
  have hkb : s.keep.length ≤ 1099511627776 := by omega
  refine (arm_any h1.1 n hn _ l (K.at hb) (fun hne e => absurd (h1.2.1 p (.inl rfl)) (by have := K.low hne p e; omega)) (by have := K.len; omega)).mono ?_
  rintro e w' ⟨rfl, ht⟩
  exact ⟨rfl, S1.turn h1 hb ht (K.len)⟩
theorem S1.do {w0 w : World} {p : Nat} {s : St} (h : S1 w0 w p s) (A : ActV) (ok : ActOk w0.heap.size w0 A) (oa : okAct A) : Calls Try.prog 8 #[.pointer (some ⟨p, 0, none⟩), .agg A.cells] w fun e w' => e = .returned (.int .i64 (actS s A).2) ∧ S1 w0 w' p ((actS s A).1) := by
  obtain ⟨q, h1, hb⟩ := h
  have hk60 := h1.2.2
  have hkb : s.keep.length ≤ 1099511627776 := by omega
  refine (do_any h1.1 h1.2.1 hb.size A (ok.below hb) hkb (by have := oa.2.1; omega) (by have := oa.1; omega)).mono ?_
  rintro e w' ⟨rfl, ht⟩
  exact ⟨rfl, S1.turn h1 hb ht (act_keep60 hk60 oa.2.1)⟩
theorem S1.crashL {w0 w : World} {p : Nat} {s : St} (h : S1 w0 w p s) (l : List Int) (c : Nat) (hl : l.length ≤ 60) : Calls Try.prog 19 #[.pointer (some ⟨p, 0, none⟩), .slice (some ⟨w.heap.size, 0, none⟩) l.length c] (w.alloc (.cells (intCells l).toArray 3)) fun e w' => e = .returned (.tuple #[]) ∧ S1 w0 w' p (s.crash l) := by
  have hz := heap_alloc_new w (.cells (intCells l).toArray 3)
  have hsz : (w.alloc (.cells (intCells l).toArray 3)).heap.size = w.heap.size + 1 := by simp
  have hsrc : SrcAt (w.alloc (.cells (intCells l).toArray 3)) (.slice (some ⟨w.heap.size, 0, none⟩) l.length c) l.length (intCells l) := by
    refine .inr ⟨w.heap.size, 0, c, rfl, fun j u hj => ?_⟩
    rw [Lib.cell_of_heap hz, Nat.zero_add]
    simpa using hj
  have h0 := h.on ((Below.refl _ w).alloc (Nat.le_refl _) (.cells (intCells l).toArray 3))
  have hlt : ∀ b, w.heap.size = b → ∀ q, DAt w0.heap.size w p s q → ¬ Mine p q b := fun b e q h hm => by have := h.1.lt hm; omega
  obtain ⟨q, h1, hb⟩ := h
  have hk60 := h1.2.2
  have h1' := h1.on ((Below.refl _ w).alloc (Nat.le_refl _) (.cells (intCells l).toArray 3))
  refine (crash_any h1'.1 _ l hsrc (fun hne b e => ?_) (by omega)).mono ?_
  · have e : w.heap.size = b := by simpa [Value.ownBlock] using e
    exact ⟨by omega, fun e2 => hlt b e q h1 (.inr (.inr (.inl e2))), fun f e2 => hlt b e q h1 (.inr (.inr (.inr (.inr (.inr (.inr (.inr ⟨f, e2⟩)))))))⟩
  rintro e w' ⟨rfl, ht⟩
  have hbe := hb.trans (((Below.refl _ w).alloc (Nat.le_refl _) (.cells (intCells l).toArray 3)).mono hb.size)
  exact ⟨rfl, S1.turn h1' hbe ht (keep60 hk60 (crash_keep s l))⟩
theorem S2.write {w0 w : World} {p : Nat} {s : St} {p' : Nat} {s' : St} (h : S2 w0 w p s p' s') (f a : Int) (t : ByteArray) (ht : t.size ≤ 1099511627776) : Calls Try.prog 18 #[.pointer (some ⟨p, 0, none⟩), .int .i64 f, .int .i64 a, .string t] w fun e w' => e = .returned (.int .i64 (s.write f a t.data.toList).2) ∧ S2 w0 w' p ((s.write f a t.data.toList).1) p' s' := by
  obtain ⟨q, q', h1, h2, hd, hb⟩ := h
  have hk60 := h1.2.2
  have hkb : s.keep.length ≤ 1099511627776 := by omega
  refine (write_any h1.1 hkb f a t ht).mono ?_
  rintro e w' ⟨rfl, ht⟩
  exact ⟨rfl, S2.turn h1 h2 hd hb ht (keep60 hk60 (write_keep s f a _))⟩
theorem S2.sync {w0 w : World} {p : Nat} {s : St} {p' : Nat} {s' : St} (h : S2 w0 w p s p' s') (f : Int) : Calls Try.prog 15 #[.pointer (some ⟨p, 0, none⟩), .int .i64 f] w fun e w' => e = .returned (.int .i64 (s.sync f).2) ∧ S2 w0 w' p ((s.sync f).1) p' s' := by
  obtain ⟨q, q', h1, h2, hd, hb⟩ := h
  have hk60 := h1.2.2
  have hkb : s.keep.length ≤ 1099511627776 := by omega
  refine (sync_any h1.1 hkb f).mono ?_
  rintro e w' ⟨rfl, ht⟩
  exact ⟨rfl, S2.turn h1 h2 hd hb ht (keep60 hk60 (sync_keep s f))⟩
theorem S2.trunc {w0 w : World} {p : Nat} {s : St} {p' : Nat} {s' : St} (h : S2 w0 w p s p' s') (f n : Int) (hf : InI f) : Calls Try.prog 21 #[.pointer (some ⟨p, 0, none⟩), .int .i64 f, .int .i64 n] w fun e w' => e = .returned (.int .i64 (s.trunc f n).2) ∧ S2 w0 w' p ((s.trunc f n).1) p' s' := by
  obtain ⟨q, q', h1, h2, hd, hb⟩ := h
  have hk60 := h1.2.2
  have hkb : s.keep.length ≤ 1099511627776 := by omega
  refine (trunc_any h1.1 hkb f n hf).mono ?_
  rintro e w' ⟨rfl, ht⟩
  exact ⟨rfl, S2.turn h1 h2 hd hb ht (keep60 hk60 (trunc_keep s f n))⟩
theorem S2.start {w0 w : World} {p : Nat} {s : St} {p' : Nat} {s' : St} (h : S2 w0 w p s p' s')  : Calls Try.prog 20 #[.pointer (some ⟨p, 0, none⟩)] w fun e w' => e = .returned (.tuple #[]) ∧ S2 w0 w' p (s.start) p' s' := by
  obtain ⟨q, q', h1, h2, hd, hb⟩ := h
  have hk60 := h1.2.2
  have hkb : s.keep.length ≤ 1099511627776 := by omega
  refine (start_any h1.1).mono ?_
  rintro e w' ⟨rfl, ht⟩
  exact ⟨rfl, S2.turn h1 h2 hd hb ht (hk60)⟩
theorem S2.crash {w0 w : World} {p : Nat} {s : St} {p' : Nat} {s' : St} (h : S2 w0 w p s p' s') {a : Option Addr} {c : Nat} {l : List Int} (K : ListAt w0 a c l) : Calls Try.prog 19 #[.pointer (some ⟨p, 0, none⟩), .slice a l.length c] w fun e w' => e = .returned (.tuple #[]) ∧ S2 w0 w' p (s.crash l) p' s' := by
  obtain ⟨q, q', h1, h2, hd, hb⟩ := h
  have hk60 := h1.2.2
  have hkb : s.keep.length ≤ 1099511627776 := by omega
  refine (crash_any h1.1 _ l (K.at hb) (fun hne b e => ⟨Nat.lt_of_lt_of_le (K.low hne b e) hb.size, fun e2 => absurd (h1.2.1 b (.inr (.inr (.inl e2)))) (by have := K.low hne b e; omega), fun f e2 => absurd (h1.2.1 b (.inr (.inr (.inr (.inr (.inr (.inr (.inr ⟨f, e2⟩)))))))) (by have := K.low hne b e; omega)⟩) (by have := K.len; omega)).mono ?_
  rintro e w' ⟨rfl, ht⟩
  exact ⟨rfl, S2.turn h1 h2 hd hb ht (keep60 hk60 (crash_keep s l))⟩
theorem S2.arm {w0 w : World} {p : Nat} {s : St} {p' : Nat} {s' : St} (h : S2 w0 w p s p' s') {a : Option Addr} {c : Nat} {l : List Int} (K : ListAt w0 a c l) (n : Int) (hn : n ≤ 9223372036854775807) : Calls Try.prog 23 #[.pointer (some ⟨p, 0, none⟩), .int .i64 n, .slice a l.length c] w fun e w' => e = .returned (.tuple #[]) ∧ S2 w0 w' p (s.arm n l) p' s' := by
  obtain ⟨q, q', h1, h2, hd, hb⟩ := h
  have hk60 := h1.2.2
  have hkb : s.keep.length ≤ 1099511627776 := by omega
  refine (arm_any h1.1 n hn _ l (K.at hb) (fun hne e => absurd (h1.2.1 p (.inl rfl)) (by have := K.low hne p e; omega)) (by have := K.len; omega)).mono ?_
  rintro e w' ⟨rfl, ht⟩
  exact ⟨rfl, S2.turn h1 h2 hd hb ht (K.len)⟩
theorem S2.do {w0 w : World} {p : Nat} {s : St} {p' : Nat} {s' : St} (h : S2 w0 w p s p' s') (A : ActV) (ok : ActOk w0.heap.size w0 A) (oa : okAct A) : Calls Try.prog 8 #[.pointer (some ⟨p, 0, none⟩), .agg A.cells] w fun e w' => e = .returned (.int .i64 (actS s A).2) ∧ S2 w0 w' p ((actS s A).1) p' s' := by
  obtain ⟨q, q', h1, h2, hd, hb⟩ := h
  have hk60 := h1.2.2
  have hkb : s.keep.length ≤ 1099511627776 := by omega
  refine (do_any h1.1 h1.2.1 hb.size A (ok.below hb) hkb (by have := oa.2.1; omega) (by have := oa.1; omega)).mono ?_
  rintro e w' ⟨rfl, ht⟩
  exact ⟨rfl, S2.turn h1 h2 hd hb ht (act_keep60 hk60 oa.2.1)⟩
theorem S2.crashL {w0 w : World} {p : Nat} {s : St} {p' : Nat} {s' : St} (h : S2 w0 w p s p' s') (l : List Int) (c : Nat) (hl : l.length ≤ 60) : Calls Try.prog 19 #[.pointer (some ⟨p, 0, none⟩), .slice (some ⟨w.heap.size, 0, none⟩) l.length c] (w.alloc (.cells (intCells l).toArray 3)) fun e w' => e = .returned (.tuple #[]) ∧ S2 w0 w' p (s.crash l) p' s' := by
  have hz := heap_alloc_new w (.cells (intCells l).toArray 3)
  have hsz : (w.alloc (.cells (intCells l).toArray 3)).heap.size = w.heap.size + 1 := by simp
  have hsrc : SrcAt (w.alloc (.cells (intCells l).toArray 3)) (.slice (some ⟨w.heap.size, 0, none⟩) l.length c) l.length (intCells l) := by
    refine .inr ⟨w.heap.size, 0, c, rfl, fun j u hj => ?_⟩
    rw [Lib.cell_of_heap hz, Nat.zero_add]
    simpa using hj
  have h0 := h.on ((Below.refl _ w).alloc (Nat.le_refl _) (.cells (intCells l).toArray 3))
  have hlt : ∀ b, w.heap.size = b → ∀ q, DAt w0.heap.size w p s q → ¬ Mine p q b := fun b e q h hm => by have := h.1.lt hm; omega
  obtain ⟨q, q', h1, h2, hd, hb⟩ := h
  have hk60 := h1.2.2
  have h1' := h1.on ((Below.refl _ w).alloc (Nat.le_refl _) (.cells (intCells l).toArray 3))
  refine (crash_any h1'.1 _ l hsrc (fun hne b e => ?_) (by omega)).mono ?_
  · have e : w.heap.size = b := by simpa [Value.ownBlock] using e
    exact ⟨by omega, fun e2 => hlt b e q h1 (.inr (.inr (.inl e2))), fun f e2 => hlt b e q h1 (.inr (.inr (.inr (.inr (.inr (.inr (.inr ⟨f, e2⟩)))))))⟩
  rintro e w' ⟨rfl, ht⟩
  have hbe := hb.trans (((Below.refl _ w).alloc (Nat.le_refl _) (.cells (intCells l).toArray 3)).mono hb.size)
  exact ⟨rfl, S2.turn h1' (h2.on ((Below.refl _ w).alloc (Nat.le_refl _) (.cells (intCells l).toArray 3))) hd hbe ht (keep60 hk60 (crash_keep s l))⟩
end Go.Proofs.Ytclibkpipggdeaa
