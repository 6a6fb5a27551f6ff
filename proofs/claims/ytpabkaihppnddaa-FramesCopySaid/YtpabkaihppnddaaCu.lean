/-
  FramesCopy: what is run, and what comes out.
-/
import Derived.Test.YtpabkaihppnddaaCn
namespace Go.Proofs.Ytpabkaihppnddaa
open Go.RowKit
set_option linter.unusedVariables false
set_option linter.unusedSimpArgs false
set_option maxRecDepth 100000
def runs (L : Fm) : List OpV → Fm
  | [] => L
  | A :: r => runs (L.op A).1 r
def outs (L : Fm) : List OpV → List (Int × Bool × Int)
  | [] => []
  | A :: r => (L.op A).2 :: outs (L.op A).1 r
theorem runs_snoc (A : OpV) : ∀ (l : List OpV) (L : Fm), runs L (l ++ [A]) = ((runs L l).op A).1
  | [], L => rfl
  | B :: r, L => runs_snoc A r _
theorem outs_snoc (A : OpV) : ∀ (l : List OpV) (L : Fm), outs L (l ++ [A]) = outs L l ++ [((runs L l).op A).2]
  | [], L => rfl
  | B :: r, L => by show _ :: outs _ (r ++ [A]) = _; rw [outs_snoc A r]; rfl
theorem outs_len : ∀ (l : List OpV) (L : Fm), (outs L l).length = l.length
  | [], L => rfl
  | B :: r, L => by show (outs _ r).length + 1 = _; rw [outs_len r]; rfl
theorem take_snoc {l : List OpV} {k : Nat} {A : OpV} (h : l[k]? = some A) : l.take (k + 1) = l.take k ++ [A] := by
  have hl := (List.getElem?_eq_some_iff.1 h).1
  rw [List.take_succ_eq_append_getElem hl, (List.getElem?_eq_some_iff.1 h).2]
theorem outs_at {A : OpV} : ∀ (l : List OpV) (L : Fm) (k : Nat), l[k]? = some A → (outs L l)[k]? = some ((runs L (l.take k)).op A).2
  | [], L, k, h => by simp at h
  | B :: r, L, 0, h => by simp at h; subst h; rfl
  | B :: r, L, k + 1, h => outs_at r _ k (by simpa using h)
theorem src_new (w : World) (cs : Array Value) (t : TypeId) (m c : Nat) : SrcAt (w.alloc (.cells cs t)) (.slice (some ⟨w.heap.size, 0, none⟩) m c) m cs.toList :=
  .inr ⟨w.heap.size, 0, c, rfl, fun j u hj => by rw [Nat.zero_add, cell_of_row _ _ j cs t (0, 0) (heap_alloc_new w _)]; simpa using hj⟩
/-- append of one cell. -/
theorem Tog.list_one {P : Program} {St E : TypeId} {z : Value} {bytes : Nat} (el : El P St E z 1 bytes) {ops : Array Oper} {rest : List Oper} {o : Oper} {act : Act} {Q : Exit → Act → World → Prop} (hgd : o.guard = none) (s x : Operand) (ho : o.op = .call { callee := .builtin .append, args := #[s, x], argTypes := #[St, St] })
    {w0 w : World} {S : Nat → Prop} {l : List Kd} (h : Tog w0 S w l) (i : Nat) {v : Value} {n : Nat} {xs : List Value} (hi : l[i]? = some (kRow E 1 v n xs)) (u : Value) (hu : u.oneCell' = true) (hv : act.eval s = v) {g : Nat} (hx : act.eval x = .slice (some ⟨g, 0, none⟩) 1 1) (hg : g = w.heap.size) (hlen : n ≤ 100000) (hb : bytes ≤ 1000)
    (hK : ∀ a c w', Tog w0 S w' (l.set i (kRow E 1 (.slice a (n + 1) c) (n + 1) (xs ++ [u]))) → wpList P ops Q rest (act.put o.dst (.slice a (n + 1) c)) w') : wpList P ops Q (o :: rest) act (w.alloc (.cells #[u] E)) := by
  subst hg
  refine (h.alloc _).wpList_app el hgd s x ho i hi hv hx (src_new w _ _ _ _) rfl (fun u' hu' => by simp at hu'; subst hu'; exact hu) (by unfold maxLen; omega) (Nat.le_trans (Nat.mul_le_mul (show n + 1 ≤ 100001 by omega) hb) (by decide)) (fun a c w' T hs => hK a c w' T)
theorem elInt : El Try.prog 49 3 (.int .i64 0) 1 8 := ⟨Try.underlying49, by kernel_rfl, rfl, by decide⟩
theorem elErr : El Try.prog 57 29 (.int .i64 0) 1 8 := ⟨Try.underlying57, by kernel_rfl, rfl, by decide⟩
abbrev Outs := List (Int × Bool × Int)
def kF (v : Value) (O : Outs) : Kd := kRow 3 1 v O.length (O.map fun o => .int .i64 o.1)
def kO (v : Value) (O : Outs) : Kd := kRow 4 1 v O.length (O.map fun o => .bool o.2.1)
def kE (v : Value) (O : Outs) : Kd := kRow 29 1 v O.length (O.map fun o => .int .i64 o.2.2)
section
variable {w0 w : World} {S : Nat → Prop} {l : List Kd}
theorem kF_add (a : Option Addr) (n c : Nat) (O : Outs) (hn : n = O.length) (o : Int × Bool × Int) : kRow 3 1 (.slice a (n + 1) c) (n + 1) ((O.map fun o => Value.int .i64 o.1) ++ [.int .i64 o.1]) = kF (.slice a (n + 1) c) (O ++ [o]) := by subst hn; simp [kF]
theorem kO_add (a : Option Addr) (n c : Nat) (O : Outs) (hn : n = O.length) (o : Int × Bool × Int) : kRow 4 1 (.slice a (n + 1) c) (n + 1) ((O.map fun o => Value.bool o.2.1) ++ [.bool o.2.1]) = kO (.slice a (n + 1) c) (O ++ [o]) := by subst hn; simp [kO]
theorem kE_add (a : Option Addr) (n c : Nat) (O : Outs) (hn : n = O.length) (o : Int × Bool × Int) : kRow 29 1 (.slice a (n + 1) c) (n + 1) ((O.map fun o => Value.int .i64 o.2.2) ++ [.int .i64 o.2.2]) = kE (.slice a (n + 1) c) (O ++ [o]) := by subst hn; simp [kE]
/-- What is read of the rows. -/
theorem Tog.outsAt {va vb vc : Value} {O : Outs} {k k' : Kd} (h : Tog w0 S w (k :: k' :: kF va O :: kO vb O :: kE vc O :: l)) {i : Nat} {o : Int × Bool × Int} (hi : O[i]? = some o) : ∃ g1 c1 g2 c2 g3 c3, va = .slice (some ⟨g1, 0, none⟩) O.length c1 ∧ vb = .slice (some ⟨g2, 0, none⟩) O.length c2 ∧ vc = .slice (some ⟨g3, 0, none⟩) O.length c3 ∧
    w.cell? ⟨g1, i, none⟩ = some (.int .i64 o.1) ∧ w.cell? ⟨g2, i, none⟩ = some (.bool o.2.1) ∧ w.cell? ⟨g3, i, none⟩ = some (.int .i64 o.2.2) := by
  have hl := (List.getElem?_eq_some_iff.1 hi).1
  obtain ⟨g1, c1, rfl, _⟩ := row_pos (h.rowAt (j := 2) rfl) (by omega)
  obtain ⟨g2, c2, rfl, _⟩ := row_pos (h.rowAt (j := 3) rfl) (by omega)
  obtain ⟨g3, c3, rfl, _⟩ := row_pos (h.rowAt (j := 4) rfl) (by omega)
  exact ⟨g1, c1, g2, c2, g3, c3, rfl, rfl, rfl, h.rowCell (i := 2) rfl (by simp [hi]), h.rowCell (i := 3) rfl (by simp [hi]), h.rowCell (i := 4) rfl (by simp [hi])⟩
end
end Go.Proofs.Ytpabkaihppnddaa
