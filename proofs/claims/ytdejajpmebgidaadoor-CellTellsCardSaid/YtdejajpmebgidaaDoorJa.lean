/-
  PLAIN FACTS OF A DISK'S CALLS; THINGS IN MEMORY THAT SHARE NO BLOCKS, from one call to the next.
-/
import Derived.Test.YtdejajpmebgidaaDoorDa
namespace Go.Proofs.YtdejajpmebgidaaDoor
open Go.RowKit Go.Maps WireM DiskM
set_option linter.unusedVariables false
set_option linter.unusedSimpArgs false
set_option maxRecDepth 100000

theorem crash_keep (s : St) (k : List Int) : (s.crash k).keep = s.keep ∨ (s.crash k).keep = [] := by
  unfold St.crash; split
  · exact .inl rfl
  · exact .inr rfl
theorem strike_keep (s : St) (e : Int) : (s.strike e).1.keep = s.keep ∨ (s.strike e).1.keep = [] := by
  unfold St.strike; split
  · exact crash_keep s.tick s.keep
  · exact .inl rfl
theorem begin_keep (s : St) (f : Int) : (s.begin f).1.keep = s.keep ∨ (s.begin f).1.keep = [] := by
  unfold St.begin; split
  · exact .inl rfl
  · exact strike_keep s _
theorem read_dn (s : St) (f a n : Int) : s.down = true → s.read f a n = ([], 9) := fun h => by unfold St.read; rw [if_pos h]
theorem sync_keep (s : St) (f : Int) : (s.sync f).1.keep = s.keep ∨ (s.sync f).1.keep = [] := by
  unfold St.sync
  split
  · exact begin_keep s _
  · split <;> exact begin_keep s f
theorem trunc_keep (s : St) (f n : Int) : (s.trunc f n).1.keep = s.keep ∨ (s.trunc f n).1.keep = [] := by
  unfold St.trunc
  split
  · exact begin_keep s _
  · split <;> exact begin_keep s f
theorem write_keep (s : St) (f a : Int) (t : List UInt8) : (s.write f a t).1.keep = s.keep ∨ (s.write f a t).1.keep = [] := by
  unfold St.write
  split
  · exact .inl rfl
  · split
    · exact strike_keep (s.add _ _ _) _
    · exact strike_keep s _
theorem bsd (s : ByteArray) : bs s.data.toList = s := rfl
theorem ext_bs (L : List UInt8) (i j : Nat) : (bs L).extract i j = bs ((L.take j).drop i) := by
  apply ByteArray.ext
  apply Array.ext'
  rw [ByteArray.data_extract]
  simp [bs, List.extract_eq_take_drop, List.drop_take]

theorem write_up {s : St} {f a : Int} {t : List UInt8} (hd : s.down = false) (ha : s.armed = 0) (hf : isF f) (h0 : 0 ≤ a) (h1 : a + t.length ≤ 16777216) :
    (s.write f a t).2 = 0 ∧ (s.write f a t).1.down = false ∧ (s.write f a t).1.armed = 0 ∧ (s.write f a t).1.now f = if t = [] then s.now f else put (s.now f) a.toNat t := by
  have hc : chk f a t.length = 0 := by unfold chk; rw [if_neg (by rintro (h | h); exact h hf; omega), if_neg (by omega)]
  unfold St.write
  rw [if_neg (by simp [hd]), hc]
  by_cases ht : t = []
  · rw [if_neg (fun h => h.2 ht), if_pos ht]
    unfold St.strike
    rw [if_neg (by omega)]
    simp [St.tick, ha, hd]
  · rw [if_pos ⟨rfl, ht⟩, if_neg ht]
    unfold St.strike
    rw [if_neg (by show ¬ (s.add f a.toNat t).armed = 1; simp [St.add, ha])]
    simp [St.tick, ha, hd, St.add, upd_same]
theorem write_bad {s : St} {f a : Int} {t : List UInt8} (ha : s.armed = 0) (h : s.down = true ∨ ¬ isF f) : (s.write f a t).2 ≠ 0 := by
  unfold St.write
  by_cases hd : s.down = true
  · rw [if_pos hd]; simp
  · have hf := h.resolve_left hd
    have hc : chk f a t.length = 1 := by unfold chk; rw [if_pos (.inl hf)]
    rw [if_neg hd, hc, if_neg (by simp)]
    unfold St.strike
    rw [if_neg (by omega)]
    simp
theorem put_read (l : List UInt8) (a : Nat) (t : List UInt8) : ((put l a t).drop a).take t.length = t := by
  have e := ext_len l (a + t.length)
  have h1 : ((ext l (a + t.length)).take a).length = a := by rw [List.length_take, e]; omega
  unfold put
  rw [List.append_assoc, List.drop_left' h1, List.take_left' rfl]
theorem read_up {s : St} {f a n : Int} (hd : s.down = false) (hf : isF f) (h0 : 0 ≤ a) (h1 : 0 ≤ n) : s.read f a n = (((s.now f).drop a.toNat).take n.toNat, 0) := by
  unfold St.read
  rw [if_neg (by simp [hd]), if_neg (by rintro (h | h | h); exact h hf; all_goals omega)]
theorem read_all {s : St} (hi : Inv s) {f : Int} (hd : s.down = false) (hf : isF f) : s.read f 0 16777216 = (s.now f, 0) := by
  rw [read_up hd hf (by omega) (by omega)]
  have := hi.cap f
  rw [List.take_of_length_le (by simpa using this)]
  rfl
theorem hardAll_nil (now : Files) (pend : List Sec) (L : Files) : ∀ k, hardAll now (surv []) pend L k = L
  | 0 => rfl
  | k + 1 => by
    rw [hardAll, hardAll_nil now pend L k]
    simp [surv]
theorem trunc_up {s : St} {f n : Int} (hd : s.down = false) (ha : s.armed = 0) (hf : isF f) (h0 : 0 ≤ n) (h1 : n ≤ (s.size f : Int)) :
    (s.trunc f n).2 = 0 ∧ (s.trunc f n).1.down = false ∧ (s.trunc f n).1.last f = (s.now f).take n.toNat ∧ (s.trunc f n).1.now f = (s.now f).take n.toNat := by
  have hb : s.begin f = (s.tick, 0) := by
    unfold St.begin
    rw [if_neg (by simp [hd]), if_pos hf]
    unfold St.strike
    rw [if_neg (by omega)]
  unfold St.trunc
  rw [hb, if_neg (by simp), if_neg (by
    show ¬ (n < 0 ∨ (s.size f : Int) < n)
    omega)]
  exact ⟨rfl, hd, upd_same _ _ _, upd_same _ _ _⟩
theorem crash_nil {s : St} {f : Int} (hd : s.down = false) : (s.crash []).start.now f = s.last f ∧ (s.crash []).start.down = false := by
  unfold St.crash
  rw [if_neg (by simp [hd])]
  exact ⟨by show hardAll _ _ _ _ _ f = _; rw [hardAll_nil], rfl⟩
set_option maxHeartbeats 4000000 in
set_option maxRecDepth 100000 in
theorem slice_two (s : ByteArray) (i j : Nat) (I J : Int) (hI : I = i) (hJ : J = j) (hij : i ≤ j) (hj : j ≤ s.size) (W : World) : (Instr.slice 9 (.string s) (some (.int .i64 I)) (some (.int .i64 J)) none).run Tryd.prog W = .ok (.string (s.extract i j)) W := by
  subst hJ; subst hI
  rw [run_slice_string W 9 s .i64 .i64 (i : Int) (j : Int) Tryd.underlying9 (by omega) (by omega) (by omega)]; rfl
theorem slice_upto (s : ByteArray) (j : Nat) (J : Int) (hJ : J = j) (hj : j ≤ s.size) (W : World) : (Instr.slice 9 (.string s) none (some (.int .i64 J)) none).run Tryd.prog W = .ok (.string (s.extract 0 j)) W := by
  subst hJ
  rw [run_slice_string_to_if W 9 s .i64 (j : Int) Tryd.underlying9, if_pos ⟨by omega, by omega⟩]; rfl
theorem srcAt_kept {S : Nat → Prop} {w w' : World} {v : Value} {l : List Int} (h : SrcAt w v l.length (intCells l)) (hc : Chg S w w') (hS : l ≠ [] → ∀ b, v.ownBlock = some b → ¬ S b) : SrcAt w' v l.length (intCells l) := by
  rcases h with h | ⟨b, off, c, rfl, h⟩
  · exact .inl h
  · refine .inr ⟨b, off, c, rfl, fun j u hj => cell_kept hc (h j u hj) (hS (fun e => by rw [e] at hj; simp [intCells] at hj) b rfl)⟩
theorem and7 (x : Int) : bits .and .i64 x 7 = x % 8 := by
  show IntKind.i64.wrap (((BitVec.ofInt 64 x &&& BitVec.ofInt 64 7).toNat : Nat) : Int) = x % 8
  rw [BitVec.toNat_and, BitVec.toNat_ofInt, BitVec.toNat_ofInt, show ((7 : Int) % ((2 ^ 64 : Nat) : Int)).toNat = 2 ^ 3 - 1 by decide, Nat.and_two_pow_sub_one_eq_mod, IntKind.wrap_i64]
  omega
theorem and3 (x : Int) : bits .and .i64 x 3 = x % 4 := by
  show IntKind.i64.wrap (((BitVec.ofInt 64 x &&& BitVec.ofInt 64 3).toNat : Nat) : Int) = x % 4
  rw [BitVec.toNat_and, BitVec.toNat_ofInt, BitVec.toNat_ofInt, show ((3 : Int) % ((2 ^ 64 : Nat) : Int)).toNat = 2 ^ 2 - 1 by decide, Nat.and_two_pow_sub_one_eq_mod, IntKind.wrap_i64]
  omega
/-- A kind of thing in memory: its blocks, and what holds of it. It speaks of its own blocks alone. -/
structure Kd where
  is : (Nat → Prop) → World → Prop
  lt : ∀ M w, is M w → ∀ b, M b → b < w.heap.size
  same : ∀ M w w', is M w → (∀ b, M b → w'.heap[b]? = w.heap[b]?) → is M w'
/-- Things that share no blocks, all of them younger than the world of the beginning. -/
structure Tog (w0 w : World) (l : List Kd) : Prop where
  ex : ∃ Ms : Nat → Nat → Prop, (∀ i k, l[i]? = some k → k.is (Ms i) w ∧ ∀ b, Ms i b → w0.heap.size ≤ b) ∧ ∀ i j b, i ≠ j → i < l.length → j < l.length → Ms i b → Ms j b → False
  bel : Below w0.heap.size w0 w
/-- What a call makes of a thing. -/
def KTurn (M : Nat → Prop) (w : World) (k' : Kd) (w' : World) : Prop := ∃ M', k'.is M' w' ∧ (∀ b, M' b → M b ∨ w.heap.size ≤ b) ∧ Chg M w w'
theorem Tog.nil (w : World) : Tog w w [] := ⟨⟨fun _ _ => False, fun i k h => by simp at h, fun i j b _ h => by simp at h⟩, Below.refl _ _⟩
theorem Tog.on {w0 w w' : World} {l : List Kd} (h : Tog w0 w l) (hb : Below w.heap.size w w') : Tog w0 w' l := by
  obtain ⟨⟨Ms, h1, h2⟩, h3⟩ := h
  exact ⟨⟨Ms, fun i k hk => ⟨k.same _ _ _ (h1 i k hk).1 (fun b hm => hb.block b (k.lt _ _ (h1 i k hk).1 b hm)), (h1 i k hk).2⟩, h2⟩, h3.trans (hb.mono h3.size)⟩
theorem Tog.focus {w0 w : World} {l : List Kd} (h : Tog w0 w l) {i : Nat} {k : Kd} (hi : l[i]? = some k) : ∃ M, k.is M w ∧ (∀ b, M b → w0.heap.size ≤ b) ∧ ∀ k' w', KTurn M w k' w' → Tog w0 w' (l.set i k') := by
  obtain ⟨⟨Ms, h1, h2⟩, h3⟩ := h
  have hil : i < l.length := (List.getElem?_eq_some_iff.1 hi).1
  refine ⟨Ms i, (h1 i k hi).1, (h1 i k hi).2, fun k' w' ⟨M', t1, t2, t3⟩ => ⟨⟨fun j => if j = i then M' else Ms j, fun j kj hj => ?_, fun a b x hab ha hb x1 x2 => ?_⟩, ?_⟩⟩
  · by_cases e : j = i
    · subst e
      rw [List.getElem?_set_self hil] at hj
      cases hj
      simp only [if_true]
      refine ⟨t1, fun b hb => ?_⟩
      rcases t2 b hb with h | h
      · exact (h1 j k hi).2 b h
      · exact Nat.le_trans h3.size h
    · rw [List.getElem?_set_ne (fun h => e h.symm)] at hj
      simp only [if_neg e]
      have hjl : j < l.length := (List.getElem?_eq_some_iff.1 hj).1
      exact ⟨kj.same _ _ _ (h1 j kj hj).1 (fun b hb => t3.block b (kj.lt _ _ (h1 j kj hj).1 b hb) (fun hm => h2 j i b e hjl hil hb hm)), (h1 j kj hj).2⟩
  · rw [List.length_set] at ha hb
    have lt : ∀ j, j < l.length → ∀ b, Ms j b → b < w.heap.size := fun j hj b hb => (l[j]).lt _ _ (h1 j l[j] (List.getElem?_eq_getElem hj)).1 b hb
    try simp only at x1 x2
    split at x1 <;> split at x2
    · rename_i e1 e2; exact hab (e1.trans e2.symm)
    · rename_i e1 e2
      rcases t2 x x1 with h | h
      · exact h2 i b x (fun e => e2 e.symm) hil hb h x2
      · have := lt b hb x x2; omega
    · rename_i e1 e2
      rcases t2 x x2 with h | h
      · exact h2 a i x e1 ha hil x1 h
      · have := lt a ha x x1; omega
    · exact h2 a b x hab ha hb x1 x2
  · exact h3.trans (t3.below h3.size (fun b hb hm => by have := (h1 i k hi).2 b hm; omega))
theorem Tog.add {w0 w w' : World} {l : List Kd} (h : Tog w0 w l) {k : Kd} (hf : ∃ M, k.is M w' ∧ ∀ b, M b → w.heap.size ≤ b) (hb : Below w.heap.size w w') : Tog w0 w' (l ++ [k]) := by
  have h' := h.on hb
  obtain ⟨⟨Ms, h1, h2⟩, h3⟩ := h
  obtain ⟨M, m1, m2⟩ := hf
  have lt : ∀ j, j < l.length → ∀ b, Ms j b → b < w.heap.size := fun j hj b hb => (l[j]).lt _ _ (h1 j l[j] (List.getElem?_eq_getElem hj)).1 b hb
  refine ⟨⟨fun j => if j = l.length then M else Ms j, fun j kj hj => ?_, fun a b x hab ha hb' x1 x2 => ?_⟩, h'.bel⟩
  · by_cases e : j = l.length
    · subst e
      simp at hj
      subst hj
      simp only [if_true]
      exact ⟨m1, fun b hb' => Nat.le_trans h3.size (m2 b hb')⟩
    · have hjl : j < l.length := by
        have := (List.getElem?_eq_some_iff.1 hj).1
        simp at this; omega
      rw [List.getElem?_append_left hjl] at hj
      simp only [if_neg e]
      exact ⟨kj.same _ _ _ (h1 j kj hj).1 (fun b hm => hb.block b (lt j hjl b hm)), (h1 j kj hj).2⟩
  · simp at ha hb'
    try simp only at x1 x2
    split at x1 <;> split at x2
    · rename_i e1 e2; exact hab (e1.trans e2.symm)
    · rename_i e1 e2
      have := lt b (by omega) x x2
      have := m2 x x1
      omega
    · rename_i e1 e2
      have := lt a (by omega) x x1
      have := m2 x x2
      omega
    · exact h2 a b x hab (by omega) (by omega) x1 x2
/-- Some of the things, in any order. -/
theorem Tog.sub {w0 w : World} {l l' : List Kd} (h : Tog w0 w l) (φ : Nat → Nat) (hφ : ∀ i k, l'[i]? = some k → l[φ i]? = some k) (hinj : ∀ i j, i < l'.length → j < l'.length → φ i = φ j → i = j) : Tog w0 w l' := by
  obtain ⟨⟨Ms, h1, h2⟩, h3⟩ := h
  have lt : ∀ i, i < l'.length → φ i < l.length := fun i hi => (List.getElem?_eq_some_iff.1 (hφ i l'[i] (List.getElem?_eq_getElem hi))).1
  exact ⟨⟨fun i => Ms (φ i), fun i k hk => h1 _ k (hφ i k hk), fun i j b hij hi hj x1 x2 => h2 _ _ b (fun e => hij (hinj i j hi hj e)) (lt i hi) (lt j hj) x1 x2⟩, h3⟩

/-- A disk. -/
def kDisk (p : Nat) (s : St) : Kd where
  is := fun M w => ∃ q, DiskIs w p s q ∧ (∀ b, M b ↔ Mine p q b) ∧ s.keep.length ≤ 1000
  lt := fun M w ⟨q, h, hm, _⟩ b hb => h.lt ((hm b).1 hb)
  same := fun M w w' ⟨q, h, hm, hk⟩ he => ⟨q, h.sameI (fun b hb => he b ((hm b).2 hb)), hm, hk⟩
theorem kturn_disk {M : Nat → Prop} {w w' : World} {p : Nat} {s' : St} {q : Parts} (hm : ∀ b, M b ↔ Mine p q b) (ht : Turn w p q s' w') (hk : s'.keep.length ≤ 1000) : KTurn M w (kDisk p s') w' := by
  obtain ⟨q', h1, m1, c1⟩ := ht
  exact ⟨Mine p q', ⟨q', h1, fun _ => Iff.rfl, hk⟩, fun b hb => (m1 b hb).imp (hm b).2 id, c1.mono (fun k _ h => (hm k).2 h)⟩
theorem keep1000 {s s' : St} (h : s.keep.length ≤ 1000) (e : s'.keep = s.keep ∨ s'.keep = []) : s'.keep.length ≤ 1000 := by
  rcases e with e | e <;> rw [e]
  · exact h
  · simp
theorem Tog.inv {w0 w : World} {l : List Kd} (h : Tog w0 w l) {i p : Nat} {s : St} (hi : l[i]? = some (kDisk p s)) : Inv s := by
  obtain ⟨M, ⟨q, h1, h2, h3⟩, _⟩ := h.focus hi
  exact h1.inv
theorem Tog.new {w0 w : World} {l : List Kd} (h : Tog w0 w l) : Calls Tryd.prog 7 #[] w fun e w' => ∃ p, e = .returned (.pointer (some ⟨p, 0, none⟩)) ∧ Tog w0 w' (l ++ [kDisk p St.new]) := by
  refine (new_any w).mono ?_
  rintro e w' ⟨p, rfl, q, h1, h2, h3⟩
  exact ⟨p, rfl, h.add ⟨Mine p q, ⟨q, h1, fun _ => Iff.rfl, by simp [St.new]⟩, h2⟩ h3⟩
theorem Tog.read {w0 w : World} {l : List Kd} (h : Tog w0 w l) {i p : Nat} {s : St} (hi : l[i]? = some (kDisk p s)) (f a n : Int) (hf : InI f) (ha : InI a) (hn : InI n) : Calls Tryd.prog 25 #[.pointer (some ⟨p, 0, none⟩), .int .i64 f, .int .i64 a, .int .i64 n] w fun e w' => e = .returned (.tuple #[.string (bs (s.read f a n).1), .int .i64 (s.read f a n).2]) ∧ w = w' := by
  obtain ⟨M, ⟨q, h1, h2, h3⟩, _⟩ := h.focus hi
  exact read_any h1 f a n hf ha hn
theorem Tog.size {w0 w : World} {l : List Kd} (h : Tog w0 w l) {i p : Nat} {s : St} (hi : l[i]? = some (kDisk p s)) (f : Int) (hf : InI f) : Calls Tryd.prog 24 #[.pointer (some ⟨p, 0, none⟩), .int .i64 f] w fun e w' => e = .returned (.int .i64 (s.size f)) ∧ w = w' := by
  obtain ⟨M, ⟨q, h1, h2, h3⟩, _⟩ := h.focus hi
  exact size_any h1 f hf
theorem Tog.write {w0 w : World} {l : List Kd} (h : Tog w0 w l) {i p : Nat} {s : St} (hi : l[i]? = some (kDisk p s)) (f a : Int) (t : ByteArray) (ht : t.size ≤ 1099511627776) : Calls Tryd.prog 28 #[.pointer (some ⟨p, 0, none⟩), .int .i64 f, .int .i64 a, .string t] w fun e w' => e = .returned (.int .i64 (s.write f a t.data.toList).2) ∧ Tog w0 w' (l.set i (kDisk p (s.write f a t.data.toList).1)) := by
  obtain ⟨M, ⟨q, h1, h2, h3⟩, _, h5⟩ := h.focus hi
  refine (write_any h1 (by omega) f a t ht).mono ?_
  rintro e w' ⟨rfl, ht⟩
  exact ⟨rfl, h5 _ _ (kturn_disk h2 ht (keep1000 h3 (write_keep s f a _)))⟩
theorem Tog.sync {w0 w : World} {l : List Kd} (h : Tog w0 w l) {i p : Nat} {s : St} (hi : l[i]? = some (kDisk p s)) (f : Int) : Calls Tryd.prog 33 #[.pointer (some ⟨p, 0, none⟩), .int .i64 f] w fun e w' => e = .returned (.int .i64 (s.sync f).2) ∧ Tog w0 w' (l.set i (kDisk p (s.sync f).1)) := by
  obtain ⟨M, ⟨q, h1, h2, h3⟩, _, h5⟩ := h.focus hi
  refine (sync_any h1 (by omega) f).mono ?_
  rintro e w' ⟨rfl, ht⟩
  exact ⟨rfl, h5 _ _ (kturn_disk h2 ht (keep1000 h3 (sync_keep s f)))⟩
theorem Tog.start {w0 w : World} {l : List Kd} (h : Tog w0 w l) {i p : Nat} {s : St} (hi : l[i]? = some (kDisk p s)) : Calls Tryd.prog 23 #[.pointer (some ⟨p, 0, none⟩)] w fun e w' => e = .returned (.tuple #[]) ∧ Tog w0 w' (l.set i (kDisk p s.start)) := by
  obtain ⟨M, ⟨q, h1, h2, h3⟩, _, h5⟩ := h.focus hi
  refine (start_any h1).mono ?_
  rintro e w' ⟨rfl, ht⟩
  exact ⟨rfl, h5 _ _ (kturn_disk h2 ht h3)⟩
theorem Tog.lose {w0 w : World} {l : List Kd} (h : Tog w0 w l) {i p : Nat} {s : St} (hi : l[i]? = some (kDisk p s)) (n : Int) (hn : n ≤ 9223372036854775807) : Calls Tryd.prog 13 #[.pointer (some ⟨p, 0, none⟩), .int .i64 n] w fun e w' => e = .returned (.tuple #[]) ∧ Tog w0 w' (l.set i (kDisk p (s.lose n))) := by
  obtain ⟨M, ⟨q, h1, h2, h3⟩, _, h5⟩ := h.focus hi
  refine (lose_any h1 n hn).mono ?_
  rintro e w' ⟨rfl, ht⟩
  exact ⟨rfl, h5 _ _ (kturn_disk h2 ht h3)⟩
/-- A list of numbers that lies before all things. -/
structure NumsAt (w0 : World) (a : Option Addr) (c : Nat) (l : List Int) : Prop where
  src : SrcAt w0 (.slice a l.length c) l.length (intCells l)
  low : l ≠ [] → ∀ b, (Value.slice a l.length c).ownBlock = some b → b < w0.heap.size
  len : l.length ≤ 1000
theorem NumsAt.at {w0 w : World} {a : Option Addr} {c : Nat} {l : List Int} (h : NumsAt w0 a c l) (hb : Below w0.heap.size w0 w) : SrcAt w (.slice a l.length c) l.length (intCells l) := by
  rcases h.src with h1 | ⟨b, off, c2, hv, h1⟩
  · exact .inl h1
  · refine .inr ⟨b, off, c2, hv, fun j u hj => ?_⟩
    have hlt : b < w0.heap.size := h.low (fun e => by rw [e] at hj; simp [intCells] at hj) b (by rw [hv]; rfl)
    rw [← h1 j u hj]
    exact hb.cell (p := ⟨b, off + j, none⟩) hlt
theorem NumsAt.nil (w0 : World) : NumsAt w0 none 0 [] := ⟨.inl ⟨⟨none, 0, rfl⟩, rfl, rfl⟩, fun h => absurd rfl h, by simp⟩
theorem Tog.crash {w0 w : World} {l : List Kd} (h : Tog w0 w l) {i p : Nat} {s : St} (hi : l[i]? = some (kDisk p s)) {a : Option Addr} {c : Nat} {k : List Int} (K : NumsAt w0 a c k) : Calls Tryd.prog 22 #[.pointer (some ⟨p, 0, none⟩), .slice a k.length c] w fun e w' => e = .returned (.tuple #[]) ∧ Tog w0 w' (l.set i (kDisk p (s.crash k))) := by
  obtain ⟨M, ⟨q, h1, h2, h3⟩, h4, h5⟩ := h.focus hi
  have hno : ∀ b, b < w0.heap.size → ¬ Mine p q b := fun b hb hm => by have := h4 b ((h2 b).2 hm); omega
  refine (crash_any h1 _ k (K.at h.bel) (fun hne b e => ⟨Nat.lt_of_lt_of_le (K.low hne b e) h.bel.size, fun e2 => hno b (K.low hne b e) (.inr (.inr (.inl e2))), fun f e2 => hno b (K.low hne b e) (.inr (.inr (.inr (.inr (.inr (.inr (.inr ⟨f, e2⟩)))))))⟩) (by have := K.len; omega)).mono ?_
  rintro e w' ⟨rfl, ht⟩
  exact ⟨rfl, h5 _ _ (kturn_disk h2 ht (keep1000 h3 (crash_keep s k)))⟩
theorem Tog.arm {w0 w : World} {l : List Kd} (h : Tog w0 w l) {i p : Nat} {s : St} (hi : l[i]? = some (kDisk p s)) {a : Option Addr} {c : Nat} {k : List Int} (K : NumsAt w0 a c k) (n : Int) (hn : n ≤ 9223372036854775807) : Calls Tryd.prog 15 #[.pointer (some ⟨p, 0, none⟩), .int .i64 n, .slice a k.length c] w fun e w' => e = .returned (.tuple #[]) ∧ Tog w0 w' (l.set i (kDisk p (s.arm n k))) := by
  obtain ⟨M, ⟨q, h1, h2, h3⟩, h4, h5⟩ := h.focus hi
  refine (arm_any h1 n hn _ k (K.at h.bel) (fun hne e => by have := K.low hne p e; have := h4 p ((h2 p).2 (.inl rfl)); omega) (by have := K.len; omega)).mono ?_
  rintro e w' ⟨rfl, ht⟩
  exact ⟨rfl, h5 _ _ (kturn_disk h2 ht K.len)⟩
end Go.Proofs.YtdejajpmebgidaaDoor
