/-
  PAGE FRAMES AS A PLAIN LIST; A MEMORY OF THE PROGRAM, AND OF THE REFERENCE.
-/
import Derived.Test.YtpabkaihppnddaaBz
namespace Go.Proofs.Ytpabkaihppnddaa
open Go.RowKit
set_option linter.unusedVariables false
set_option linter.unusedSimpArgs false
set_option maxRecDepth 100000

/-- What each frame contains; a free one nothing. -/
abbrev Fm := List (Option (List UInt8))
def bs (L : List UInt8) : ByteArray := ⟨L.toArray⟩
def byteCells (B : List UInt8) : List Value := B.map (fun b => .int .u8 (b.toNat : Int))
def boolCells (L : Fm) : List Value := L.map (fun o => .bool o.isSome)
def strCells (L : Fm) : List Value := L.map (fun o => .string (bs (o.getD [])))
def zpage : List UInt8 := List.replicate 64 0
def Fm.new (n : Int) : Fm := List.replicate (min (max n 0) 4096).toNat none
def Fm.pg (L : Fm) (f : Int) : Option (List UInt8) := if 0 ≤ f then (L[f.toNat]?).join else none
def Fm.has (L : Fm) (f : Int) : Bool := (L.pg f).isSome
def Fm.used (L : Fm) : Nat := L.countP (fun o => o.isSome)
def Fm.hole (L : Fm) : Nat := L.findIdx (fun o => !o.isSome)
def Fm.alloc (L : Fm) : Fm × Int × Bool := if L.hole < L.length then (L.set L.hole (some zpage), (L.hole : Int), true) else (L, 0, false)
def Fm.free (L : Fm) (f : Int) : Fm × Int := if L.has f = true then (L.set f.toNat none, 0) else (L, 4)
def Fm.byte (L : Fm) (f at' : Int) : Int := if 0 ≤ at' ∧ at' < 64 then (((L.pg f).getD [])[at'.toNat]?.getD 0).toNat else 0
def Fm.page (L : Fm) (f : Int) : ByteArray := bs ((L.pg f).getD [])
def Fm.put (L : Fm) (f at' : Int) (b : UInt8) : Fm × Int :=
  match L.pg f with
  | none => (L, 4)
  | some q => if 0 ≤ at' ∧ at' < 64 then (L.set f.toNat (some (q.set at'.toNat b)), 0) else (L, 3)
def fillOf (s : ByteArray) : List UInt8 := s.data.toList.take 64 ++ List.replicate (64 - min s.size 64) 0
def Fm.fill (L : Fm) (f : Int) (s : ByteArray) : Fm × Int := if L.has f = true then (L.set f.toNat (some (fillOf s)), 0) else (L, 4)
structure FrOk (L : Fm) : Prop where
  len : L.length ≤ 4096
  sz : ∀ (f : Nat) (q : List UInt8), L[f]? = some (some q) → q.length = 64
theorem fillOf_len (s : ByteArray) : (fillOf s).length = 64 := by
  have : s.data.toList.length = s.size := by simp
  unfold fillOf; rw [List.length_append, List.length_take, List.length_replicate, this]; omega
theorem Fm.pg_some {L : Fm} {f : Int} {q : List UInt8} (h : L.pg f = some q) : ∃ m : Nat, f = m ∧ m < L.length ∧ L[m]? = some (some q) := by
  unfold Fm.pg at h
  split at h
  · refine ⟨f.toNat, by omega, ?_, ?_⟩
    · cases e : L[f.toNat]? with
      | none => rw [e] at h; simp at h
      | some x => exact (List.getElem?_eq_some_iff.1 e).1
    · cases e : L[f.toNat]? with
      | none => rw [e] at h; simp at h
      | some x => rw [e] at h; simp at h; rw [h]
  · simp at h
theorem Fm.pg_at (L : Fm) (m : Nat) : L.pg (m : Int) = (L[m]?).join := by unfold Fm.pg; rw [if_pos (by omega), Int.toNat_natCast]
theorem Fm.pg_neg (L : Fm) {f : Int} (h : f < 0) : L.pg f = none := by unfold Fm.pg; rw [if_neg (by omega)]
theorem Fm.pg_big (L : Fm) {f : Int} (h : (L.length : Int) ≤ f) : L.pg f = none := by unfold Fm.pg; rw [if_pos (by omega), List.getElem?_eq_none (by omega)]; rfl
theorem FrOk.set {L : Fm} (h : FrOk L) (f : Nat) {o : Option (List UInt8)} (ho : ∀ q, o = some q → q.length = 64) : FrOk (L.set f o) := by
  refine ⟨by simpa using h.len, fun i q hi => ?_⟩
  rw [List.getElem?_set] at hi
  split at hi
  · split at hi
    · simp at hi; exact ho q hi
    · cases hi
  · exact h.sz i q hi
theorem FrOk.alloc {L : Fm} (h : FrOk L) : FrOk L.alloc.1 := by
  unfold Fm.alloc; split
  · exact h.set _ (fun q e => by cases e; rfl)
  · exact h
theorem FrOk.free {L : Fm} (h : FrOk L) (f : Int) : FrOk (L.free f).1 := by
  unfold Fm.free; split
  · exact h.set _ (fun q e => by cases e)
  · exact h
theorem FrOk.put {L : Fm} (h : FrOk L) (f a : Int) (b : UInt8) : FrOk (L.put f a b).1 := by
  unfold Fm.put
  split
  · exact h
  · rename_i q e
    obtain ⟨m, rfl, _, hm⟩ := Fm.pg_some e
    split
    · exact h.set _ (fun q' e => by cases e; rw [List.length_set]; exact h.sz m q hm)
    · exact h
theorem FrOk.fill {L : Fm} (h : FrOk L) (f : Int) (s : ByteArray) : FrOk (L.fill f s).1 := by
  unfold Fm.fill; split
  · exact h.set _ (fun q e => by cases e; exact fillOf_len s)
  · exact h
theorem FrOk.new (n : Int) : FrOk (Fm.new n) := ⟨by simp [Fm.new]; omega, fun f q h => by
  unfold Fm.new at h; rw [List.getElem?_replicate] at h; split at h <;> simp at h⟩
theorem byteCells_len (B : List UInt8) : (byteCells B).length = B.length := by simp [byteCells]
theorem byteCells_one (B : List UInt8) : ∀ u ∈ byteCells B, u.oneCell' = true := by
  intro u hu
  simp only [byteCells, List.mem_map] at hu
  obtain ⟨b, _, rfl⟩ := hu; rfl
theorem byteCells_at {B : List UInt8} {j : Nat} {b : UInt8} (h : B[j]? = some b) : (byteCells B)[j]? = some (.int .u8 (b.toNat : Int)) := by simp [byteCells, h]
theorem byteCells_app (A B : List UInt8) : byteCells (A ++ B) = byteCells A ++ byteCells B := by simp [byteCells]
theorem byteCells_take (A : List UInt8) (n : Nat) : (byteCells A).take n = byteCells (A.take n) := by simp [byteCells, List.map_take]
theorem byteCells_drop (A : List UInt8) (n : Nat) : (byteCells A).drop n = byteCells (A.drop n) := by simp [byteCells, List.map_drop]
theorem boolCells_len (L : Fm) : (boolCells L).length = L.length := by simp [boolCells]
theorem boolCells_one (L : Fm) : ∀ u ∈ boolCells L, u.oneCell' = true := by
  intro u hu
  simp only [boolCells, List.mem_map] at hu
  obtain ⟨b, _, rfl⟩ := hu; rfl
theorem boolCells_at {L : Fm} {j : Nat} {o : Option (List UInt8)} (h : L[j]? = some o) : (boolCells L)[j]? = some (.bool o.isSome) := by simp [boolCells, h]
theorem boolCells_set (L : Fm) (j : Nat) (o : Option (List UInt8)) : (boolCells L).set j (.bool o.isSome) = boolCells (L.set j o) := by simp [boolCells, List.map_set]
theorem strCells_set (L : Fm) (j : Nat) (o : Option (List UInt8)) : (strCells L).set j (.string (bs (o.getD []))) = strCells (L.set j o) := by simp [strCells, List.map_set]
theorem strCells_at {L : Fm} {j : Nat} {o : Option (List UInt8)} (h : L[j]? = some o) : (strCells L)[j]? = some (.string (bs (o.getD []))) := by simp [strCells, h]
theorem strCells_len (L : Fm) : (strCells L).length = L.length := by simp [strCells]

/-- The bytes of all pages: those of an allocated frame are its contents. -/
structure PgOk (B : List UInt8) (L : Fm) : Prop where
  len : B.length = L.length * 64
  at' : ∀ (f : Nat) (q : List UInt8), L[f]? = some (some q) → (B.drop (f * 64)).take 64 = q
theorem PgOk.byte {B : List UInt8} {L : Fm} (h : PgOk B L) {f : Nat} {q : List UInt8} (hf : L[f]? = some (some q)) {j : Nat} (hj : j < 64) : B[f * 64 + j]? = q[j]? := by
  have := h.at' f q hf
  rw [← this, List.getElem?_take_of_lt hj, List.getElem?_drop]
theorem PgOk.free {B : List UInt8} {L : Fm} (h : PgOk B L) (f : Nat) : PgOk B (L.set f none) := ⟨by simpa using h.len, fun i q hi => by
  rw [List.getElem?_set] at hi
  split at hi
  · split at hi <;> simp at hi
  · exact h.at' i q hi⟩
theorem splice_same {B V : List UInt8} {o : Nat} (ho : o + V.length ≤ B.length) : ((B.take o ++ V ++ B.drop (o + V.length)).drop o).take V.length = V := by
  have e : (B.take o).length = o := by rw [List.length_take]; omega
  rw [List.append_assoc, List.drop_append_of_le_length (by omega), List.drop_eq_nil_of_le (by omega), List.nil_append, List.take_append_of_le_length (by omega), List.take_of_length_le (by omega)]
theorem splice_at {B V : List UInt8} {o : Nat} (ho : o + V.length ≤ B.length) (j : Nat) : (B.take o ++ V ++ B.drop (o + V.length))[j]? = if o ≤ j ∧ j < o + V.length then V[j - o]? else B[j]? := by
  have e : (B.take o).length = o := by rw [List.length_take]; omega
  by_cases c1 : j < o
  · rw [if_neg (by omega), List.append_assoc, List.getElem?_append_left (by omega), List.getElem?_take_of_lt c1]
  · by_cases c2 : j < o + V.length
    · rw [if_pos (by omega), List.append_assoc, List.getElem?_append_right (by omega), e, List.getElem?_append_left (by omega)]
    · rw [if_neg (by omega), List.getElem?_append_right (by rw [List.length_append]; omega), List.length_append, e, List.getElem?_drop]
      congr 1; omega
theorem PgOk.page {B : List UInt8} {L : Fm} (h : PgOk B L) {f : Nat} (hf : f < L.length) {V : List UInt8} (hV : V.length = 64) : PgOk (B.take (f * 64) ++ V ++ B.drop (f * 64 + 64)) (L.set f (some V)) := by
  have hl := h.len
  have ho : f * 64 + V.length ≤ B.length := by omega
  refine ⟨by simp; omega, fun i q hi => ?_⟩
  rw [List.getElem?_set] at hi
  split at hi
  · rename_i e
    subst e
    simp at hi
    subst hi
    have := splice_same ho
    rw [hV] at this
    exact this
  · rename_i e
    have hq := h.at' i q hi
    rw [← hq]
    apply List.ext_getElem?
    intro j
    rw [List.getElem?_take, List.getElem?_take, List.getElem?_drop, List.getElem?_drop]
    split
    · have := splice_at ho (i * 64 + j)
      rw [hV] at this
      rw [this, if_neg (by omega)]
    · rfl
theorem PgOk.set1 {B : List UInt8} {L : Fm} (h : PgOk B L) {f : Nat} {q : List UInt8} (hf : L[f]? = some (some q)) (hq : q.length = 64) {j : Nat} (hj : j < 64) (b : UInt8) : PgOk (B.set (f * 64 + j) b) (L.set f (some (q.set j b))) := by
  have hlf := (List.getElem?_eq_some_iff.1 hf).1
  have := h.page hlf (V := q.set j b) (by simpa using hq)
  have e : B.take (f * 64) ++ q.set j b ++ B.drop (f * 64 + 64) = B.set (f * 64 + j) b := by
    have hl := h.len
    apply List.ext_getElem?
    intro i
    have s := splice_at (B := B) (V := q.set j b) (o := f * 64) (by simp; omega) i
    simp only [List.length_set, hq] at s
    rw [s, List.getElem?_set, List.getElem?_set]
    by_cases c : f * 64 ≤ i ∧ i < f * 64 + 64
    · rw [if_pos c]
      by_cases c2 : j = i - f * 64
      · rw [if_pos c2, if_pos (by omega), if_pos (by omega), if_pos (by omega)]
      · rw [if_neg c2, if_neg (by omega)]
        have := h.byte hf (j := i - f * 64) (by omega)
        rw [← this]; congr 1; omega
    · rw [if_neg c, if_neg (by omega)]
  rw [e] at this
  exact this
abbrev Sl := Option Addr × Nat
def Sl.val (s : Sl) (n : Nat) : Value := .slice s.1 n s.2
def kPages (s : Sl) (n : Nat) (B : List UInt8) : Kd := kRow 64 64 (s.val n) n (byteCells B)
def kBits (s : Sl) (L : Fm) : Kd := kRow 4 1 (s.val L.length) L.length (boolCells L)
/-- A memory of the program. -/
def kFr (p : Nat) (L : Fm) : Kd := kIf (FrOk L) (kEx fun x : List UInt8 × Sl × Sl => kIf (PgOk x.1 L) (kAnd (kHeap p (.cells #[x.2.1.val L.length, x.2.2.val L.length] 62 (0, 0))) (kAnd (kPages x.2.1 L.length x.1) (kBits x.2.2 L))))
/-- A memory of the reference. -/
def kRef (p : Nat) (L : Fm) : Kd := kIf (FrOk L) (kEx fun x : Sl => kAnd (kHeap p (.cells #[x.val L.length] 41 (0, 0))) (kRow 9 1 (x.val L.length) L.length (strCells L)))
section
variable {w0 w : World} {S : Nat → Prop} {l : List Kd}
/-- The second of the things is two. -/
theorem Tog.ofAnd1 {a b c : Kd} (h : Tog w0 S w (a :: kAnd b c :: l)) : Tog w0 S w (a :: b :: c :: l) := by
  have h2 := (h.pick (1 :: 0 :: (List.range l.length).map (· + 2)) (l' := kAnd b c :: a :: l) (by
      simp [List.nodup_cons, List.Nodup, List.pairwise_map]; exact List.nodup_range) (by
      simp only [List.map_cons, List.map_map, List.getElem?_cons_zero, List.getElem?_cons_succ]
      congr 2
      apply List.ext_getElem?
      intro i
      simp only [List.getElem?_map]
      by_cases hi : i < l.length
      · rw [List.getElem?_range hi]; simp [Function.comp, hi]
      · rw [List.getElem?_eq_none (by simpa using hi), List.getElem?_eq_none (by simpa using hi)]; rfl)).ofAnd
  exact h2.pick (2 :: 0 :: 1 :: (List.range l.length).map (· + 3)) (by
      simp [List.nodup_cons, List.Nodup, List.pairwise_map]; exact List.nodup_range) (by
      simp only [List.map_cons, List.map_map, List.getElem?_cons_zero, List.getElem?_cons_succ]
      congr 3
      apply List.ext_getElem?
      intro i
      simp only [List.getElem?_map]
      by_cases hi : i < l.length
      · rw [List.getElem?_range hi]; simp [Function.comp, hi]
      · rw [List.getElem?_eq_none (by simpa using hi), List.getElem?_eq_none (by simpa using hi)]; rfl)
theorem Tog.toAnd1 {a b c : Kd} (h : Tog w0 S w (a :: b :: c :: l)) : Tog w0 S w (a :: kAnd b c :: l) := by
  have h2 := (h.pick (1 :: 2 :: 0 :: (List.range l.length).map (· + 3)) (l' := b :: c :: a :: l) (by
      simp [List.nodup_cons, List.Nodup, List.pairwise_map]; exact List.nodup_range) (by
      simp only [List.map_cons, List.map_map, List.getElem?_cons_zero, List.getElem?_cons_succ]
      congr 3
      apply List.ext_getElem?
      intro i
      simp only [List.getElem?_map]
      by_cases hi : i < l.length
      · rw [List.getElem?_range hi]; simp [Function.comp, hi]
      · rw [List.getElem?_eq_none (by simpa using hi), List.getElem?_eq_none (by simpa using hi)]; rfl)).toAnd
  exact h2.pick (1 :: 0 :: (List.range l.length).map (· + 2)) (by
      simp [List.nodup_cons, List.Nodup, List.pairwise_map]; exact List.nodup_range) (by
      simp only [List.map_cons, List.map_map, List.getElem?_cons_zero, List.getElem?_cons_succ]
      congr 2
      apply List.ext_getElem?
      intro i
      simp only [List.getElem?_map]
      by_cases hi : i < l.length
      · rw [List.getElem?_range hi]; simp [Function.comp, hi]
      · rw [List.getElem?_eq_none (by simpa using hi), List.getElem?_eq_none (by simpa using hi)]; rfl)
theorem Tog.openFr {p : Nat} {L : Fm} (h : Tog w0 S w (kFr p L :: l)) : FrOk L ∧ ∃ B x y, PgOk B L ∧ Tog w0 S w (kHeap p (.cells #[Sl.val x L.length, Sl.val y L.length] 62 (0, 0)) :: kPages x L.length B :: kBits y L :: l) := by
  obtain ⟨ok, h⟩ := h.ofIf
  obtain ⟨⟨B, x, y⟩, h⟩ := h.ofEx
  obtain ⟨ok2, h⟩ := h.ofIf
  exact ⟨ok, B, x, y, ok2, h.ofAnd.ofAnd1⟩
theorem Tog.shutFr {p : Nat} {L : Fm} {B : List UInt8} {x y : Sl} {n : Nat} (h : Tog w0 S w (kHeap p (.cells #[x.val n, y.val n] 62 (0, 0)) :: kPages x n B :: kRow 4 1 (y.val n) n (boolCells L) :: l)) (hn : n = L.length) (ok : FrOk L) (ok2 : PgOk B L) : Tog w0 S w (kFr p L :: l) := by
  subst hn
  exact (((h.toAnd1).toAnd).toIf ok2 |>.toEx (k := fun x : List UInt8 × Sl × Sl => kIf (PgOk x.1 L) (kAnd (kHeap p (.cells #[x.2.1.val L.length, x.2.2.val L.length] 62 (0, 0))) (kAnd (kPages x.2.1 L.length x.1) (kBits x.2.2 L)))) (B, x, y)).toIf ok
theorem Tog.openRef {p : Nat} {L : Fm} (h : Tog w0 S w (kRef p L :: l)) : FrOk L ∧ ∃ x, Tog w0 S w (kHeap p (.cells #[Sl.val x L.length] 41 (0, 0)) :: kRow 9 1 (x.val L.length) L.length (strCells L) :: l) := by
  obtain ⟨ok, h⟩ := h.ofIf
  obtain ⟨x, h⟩ := h.ofEx
  exact ⟨ok, x, h.ofAnd⟩
theorem Tog.shutRef {p : Nat} {L : Fm} {x : Sl} {n : Nat} (h : Tog w0 S w (kHeap p (.cells #[x.val n] 41 (0, 0)) :: kRow 9 1 (x.val n) n (strCells L) :: l)) (hn : n = L.length) (ok : FrOk L) : Tog w0 S w (kRef p L :: l) := by
  subst hn
  exact ((h.toAnd).toEx (k := fun x : Sl => kAnd (kHeap p (.cells #[x.val L.length] 41 (0, 0))) (kRow 9 1 (x.val L.length) L.length (strCells L))) x).toIf ok
theorem Tog.okFr {i p : Nat} {L : Fm} (h : Tog w0 S w l) (hi : l[i]? = some (kFr p L)) : FrOk L := h.factAt hi
theorem Tog.okRef {i p : Nat} {L : Fm} (h : Tog w0 S w l) (hi : l[i]? = some (kRef p L)) : FrOk L := h.factAt hi
end
def bz : Value := .int .u8 0
def zcells : Array Value := #[bz, bz, bz, bz, bz, bz, bz, bz, bz, bz, bz, bz, bz, bz, bz, bz, bz, bz, bz, bz, bz, bz, bz, bz, bz, bz, bz, bz, bz, bz, bz, bz, bz, bz, bz, bz, bz, bz, bz, bz, bz, bz, bz, bz, bz, bz, bz, bz, bz, bz, bz, bz, bz, bz, bz, bz, bz, bz, bz, bz, bz, bz, bz, bz]
theorem zcells_eq : zcells.toList = byteCells zpage := by rfl
theorem elPage : El Try.prog 60 64 (.agg zcells) 64 64 := ⟨Try.underlying60, by kernel_rfl, rfl, by decide⟩
theorem elBool : El Try.prog 53 4 (.bool false) 1 1 := ⟨Try.underlying53, by kernel_rfl, rfl, by decide⟩
theorem elStr : El Try.prog 39 9 (.string .empty) 1 16 := ⟨Try.underlying39, by kernel_rfl, rfl, by decide⟩
theorem elByte : El Try.prog 46 5 (.int .u8 0) 1 1 := ⟨Try.underlying46, by kernel_rfl, rfl, by decide⟩
end Go.Proofs.Ytpabkaihppnddaa
