/-
  THE LINK AS PLAIN FUNCTIONS ON LISTS OF PACKETS; A LINK IN MEMORY.
-/
import Derived.Test.YtgdcocfekjlhfaaBa
import Derived.Laws.StructEq
namespace Go.Proofs.Ytgdcocfekjlhfaa
open Go.RowKit
set_option linter.unusedVariables false
set_option linter.unusedSimpArgs false
set_option maxRecDepth 100000

abbrev Pk := Int × ByteArray
def Pk.zero : Pk := (0, .empty)
structure LS where
  L : List Pk
  cut : Bool
def LS.new : LS := ⟨[], false⟩
def LS.add (s : LS) (p : Pk) : LS × Int := if 500 ≤ s.L.length then (s, 6) else (⟨s.L ++ [p], s.cut⟩, 0)
def LS.send (s : LS) (f : Int) (b : ByteArray) : LS × Int := if f ≠ 0 ∧ f ≠ 1 then (s, 1) else if s.cut = true then (s, 28) else s.add (1 - f, b)
def LS.has (s : LS) (i : Int) : Bool := decide (0 ≤ i) && decide (i < s.L.length)
theorem LS.has_iff {s : LS} {i : Int} : s.has i = true ↔ 0 ≤ i ∧ i < s.L.length := by simp [LS.has]
def LS.at (s : LS) (i : Int) : Pk := s.L.getD i.toNat Pk.zero
def LS.rem (s : LS) (i : Int) : LS := ⟨s.L.eraseIdx i.toNat, s.cut⟩
def LS.deliver (s : LS) (i : Int) : LS × Pk × Int := if s.has i = true then (s.rem i, s.at i, 0) else (s, Pk.zero, 4)
def LS.drop (s : LS) (i : Int) : LS × Int := ((s.deliver i).1, (s.deliver i).2.2)
def LS.double (s : LS) (i : Int) : LS × Int := if s.has i = true then s.add (s.at i) else (s, 4)
def LS.cutS (s : LS) : LS := ⟨[], true⟩
def LS.join (s : LS) : LS := ⟨s.L, false⟩
def pkVal (p : Pk) : Value := .agg #[.int .i64 p.1, .string p.2]
def pkCells (L : List Pk) : List Value := L.flatMap fun p => [.int .i64 p.1, .string p.2]
theorem pkCells_len (L : List Pk) : (pkCells L).length = L.length * 2 := by
  unfold pkCells
  induction L with
  | nil => rfl
  | cons a r ih => simp only [List.flatMap_cons, List.length_append, ih, List.length_cons]; simp; omega
theorem pkCells_one (L : List Pk) : ∀ u ∈ pkCells L, u.oneCell' = true := by
  intro u hu
  simp only [pkCells, List.mem_flatMap, List.mem_cons, List.not_mem_nil, or_false] at hu
  obtain ⟨b, _, rfl | rfl⟩ := hu <;> rfl
theorem pkCells_app (L M : List Pk) : pkCells (L ++ M) = pkCells L ++ pkCells M := by simp [pkCells]
theorem pkCells_at (L : List Pk) : ∀ (i : Nat) (p : Pk), L[i]? = some p → (pkCells L)[i * 2]? = some (.int .i64 p.1) ∧ (pkCells L)[i * 2 + 1]? = some (.string p.2) := by
  induction L with
  | nil => intro i p h; simp at h
  | cons a r ih =>
    intro i p h
    cases i with
    | zero => simp at h; subst h; exact ⟨rfl, rfl⟩
    | succ i =>
      have h2 := ih i p (by simpa using h)
      have e : pkCells (a :: r) = .int .i64 a.1 :: .string a.2 :: pkCells r := rfl
      rw [e, show (i + 1) * 2 = i * 2 + 1 + 1 by omega]
      exact ⟨h2.1, h2.2⟩

theorem elP : El Try.prog 38 30 (.agg #[.int .i64 0, .string .empty]) 2 24 := ⟨Try.underlying38, by kernel_rfl, rfl, by decide⟩
/-- A slice of packets. -/
def kPks (v : Value) (L : List Pk) : Kd := kRow 30 2 v L.length (pkCells L)
/-- A link: of the program, or of the reference. -/
def kLink (T : TypeId) (p : Nat) (s : LS) : Kd where
  is := fun M w => s.L.length ≤ 500 ∧ ∃ v, w.heap[p]? = some (.cells #[v, .bool s.cut] T (0, 0)) ∧ w.ownsRow 0 30 2 v s.L.length (pkCells s.L) ∧ v.ownBlock ≠ some p ∧ ∀ b, M b ↔ b = p ∨ v.ownBlock = some b
  lt := fun M w ⟨_, v, h, r, _, hm⟩ b hb => by
    rcases (hm b).1 hb with rfl | e
    · exact (Array.getElem?_eq_some_iff.1 h).1
    · exact (World.ownsRow.lt r b e).2
  same := fun M w w' ⟨h0, v, h, r, hn, hm⟩ he => ⟨h0, v, (he p ((hm p).2 (.inl rfl))).trans h, row_block r (fun k hk => he k ((hm k).2 (.inr hk))), hn, hm⟩
theorem Tog.linkLe {w0 w : World} {S : Nat → Prop} {l : List Kd} (h : Tog w0 S w l) {T : TypeId} {i p : Nat} {s : LS} (hi : l[i]? = some (kLink T p s)) : s.L.length ≤ 500 := by
  obtain ⟨M, ⟨h1, _⟩, _⟩ := h.focus hi
  exact h1
theorem Tog.openLink {w0 w : World} {S : Nat → Prop} {T : TypeId} {p : Nat} {s : LS} {l : List Kd} (h : Tog w0 S w (kLink T p s :: l)) : ∃ (a : Option Addr) (c : Nat), Tog w0 S w (kHeap p (.cells #[.slice a s.L.length c, .bool s.cut] T (0, 0)) :: kPks (.slice a s.L.length c) s.L :: l) := by
  obtain ⟨⟨a, c⟩, h⟩ := h.split (k1 := fun x : Option Addr × Nat => kHeap p (.cells #[.slice x.1 s.L.length x.2, .bool s.cut] T (0, 0))) (k2 := fun x => kPks (.slice x.1 s.L.length x.2) s.L) (fun M ⟨h0, v, hv, r, hn, hm⟩ => by
    obtain ⟨a, c, rfl, _⟩ := row_form r
    exact ⟨(a, c), fun b => b = p, fun b => (Value.slice a s.L.length c).ownBlock = some b, ⟨fun _ => Iff.rfl, hv⟩, ⟨fun _ => Iff.rfl, r⟩, fun b h1 h2 => hn (h1 ▸ h2), fun b hb => (hm b).2 hb⟩)
  exact ⟨a, c, h⟩
theorem Tog.shutLink {w0 w : World} {S : Nat → Prop} {T : TypeId} {p : Nat} (s : LS) {v : Value} {l : List Kd} (h : Tog w0 S w (kHeap p (.cells #[v, .bool s.cut] T (0, 0)) :: kPks v s.L :: l)) (hl : s.L.length ≤ 500) : Tog w0 S w (kLink T p s :: l) :=
  h.merge (fun M1 M2 ⟨m1, h1⟩ ⟨m2, h2⟩ hd => ⟨hl, v, h1, h2, fun e => hd p ((m1 p).2 rfl) ((m2 p).2 e), fun b => or_congr (m1 b) (m2 b)⟩)
theorem src_new (w : World) (cs : Array Value) (t : TypeId) (m c : Nat) : SrcAt (w.alloc (.cells cs t)) (.slice (some ⟨w.heap.size, 0, none⟩) m c) m cs.toList :=
  .inr ⟨w.heap.size, 0, c, rfl, fun j u hj => by rw [Nat.zero_add, cell_of_row _ _ j cs t (0, 0) (heap_alloc_new w _)]; simpa using hj⟩
/-- append of one packet, as a step of a region that draws its order, and in the text's order. -/
theorem Tog.step_pk {ops : Array Oper} {o : Oper} {act : Act} {K : Act → World → Prop} {Q : Exit → Act → World → Prop} {F : Prop} (hgd : o.guard = none) (s x : Operand) (ho : o.op = .call { callee := .builtin .append, args := #[s, x], argTypes := #[ 38, 38 ] })
    {w0 w : World} {S : Nat → Prop} {l : List Kd} (h : Tog w0 S w l) (i : Nat) {v : Value} {L : List Pk} (hi : l[i]? = some (kPks v L)) (q : Pk) (hv : act.eval s = v) {g : Nat} (hx : act.eval x = .slice (some ⟨g, 0, none⟩) 1 1) (hg : g = w.heap.size) (hlen : L.length ≤ 100000)
    (hK : ∀ a c w', Tog w0 S w' (l.set i (kPks (.slice a (L.length + 1) c) (L ++ [q]))) → w.heap.size ≤ w'.heap.size → K (act.put o.dst (.slice a (L.length + 1) c)) w') : if Region.wanted o (yielded ops act.tmps) = true then Oper.wp Try.prog o act (w.alloc (.cells #[.int .i64 q.1, .string q.2] 30)) K Q else F := by
  subst hg
  refine (h.alloc _).step_app elP hgd s x ho i hi hv hx (src_new w _ _ _ _) rfl (fun u hu => pkCells_one [q] u hu) (by unfold maxLen; omega) (by omega) (fun a c w' T hs => hK a c w' ?_ (by simp at hs; omega))
  unfold kPks
  rw [pkCells_app, List.length_append]
  exact T
theorem Tog.list_pk {ops : Array Oper} {rest : List Oper} {o : Oper} {act : Act} {Q : Exit → Act → World → Prop} (hgd : o.guard = none) (s x : Operand) (ho : o.op = .call { callee := .builtin .append, args := #[s, x], argTypes := #[ 38, 38 ] })
    {w0 w : World} {S : Nat → Prop} {l : List Kd} (h : Tog w0 S w l) (i : Nat) {v : Value} {L : List Pk} (hi : l[i]? = some (kPks v L)) (q : Pk) (hv : act.eval s = v) {g : Nat} (hx : act.eval x = .slice (some ⟨g, 0, none⟩) 1 1) (hg : g = w.heap.size) (hlen : L.length ≤ 100000)
    (hK : ∀ a c w', Tog w0 S w' (l.set i (kPks (.slice a (L.length + 1) c) (L ++ [q]))) → w.heap.size ≤ w'.heap.size → wpList Try.prog ops Q rest (act.put o.dst (.slice a (L.length + 1) c)) w') : wpList Try.prog ops Q (o :: rest) act (w.alloc (.cells #[.int .i64 q.1, .string q.2] 30)) := by
  subst hg
  refine (h.alloc _).wpList_app elP hgd s x ho i hi hv hx (src_new w _ _ _ _) rfl (fun u hu => pkCells_one [q] u hu) (by unfold maxLen; omega) (by omega) (fun a c w' T hs => hK a c w' ?_ (by simp at hs; omega))
  unfold kPks
  rw [pkCells_app, List.length_append]
  exact T
/-- append of other packets. -/
theorem Tog.step_pks {ops : Array Oper} {o : Oper} {act : Act} {K : Act → World → Prop} {Q : Exit → Act → World → Prop} {F : Prop} (hgd : o.guard = none) (s x : Operand) (ho : o.op = .call { callee := .builtin .append, args := #[s, x], argTypes := #[ 38, 38 ] })
    {w0 w : World} {S : Nat → Prop} {l : List Kd} (h : Tog w0 S w l) (i : Nat) {v : Value} {L : List Pk} (hi : l[i]? = some (kPks v L)) {X : Value} {M : List Pk} (hs : SrcAt w X M.length (pkCells M)) (hv : act.eval s = v) (hx : act.eval x = X) (nR : Nat) (hR : nR = L.length + M.length) (hlen : nR ≤ 100000)
    (hK : ∀ a c w', Tog w0 S w' (l.set i (kPks (.slice a nR c) (L ++ M))) → w.heap.size ≤ w'.heap.size → K (act.put o.dst (.slice a nR c)) w') : if Region.wanted o (yielded ops act.tmps) = true then Oper.wp Try.prog o act w K Q else F := by
  subst hR
  refine h.step_app elP hgd s x ho i hi hv hx hs (pkCells_len M) (pkCells_one M) (by unfold maxLen; omega) (by omega) (fun a c w' T hs => hK a c w' ?_ hs)
  unfold kPks
  rw [pkCells_app, List.length_append]
  exact T
theorem Tog.list_pks {ops : Array Oper} {rest : List Oper} {o : Oper} {act : Act} {Q : Exit → Act → World → Prop} (hgd : o.guard = none) (s x : Operand) (ho : o.op = .call { callee := .builtin .append, args := #[s, x], argTypes := #[ 38, 38 ] })
    {w0 w : World} {S : Nat → Prop} {l : List Kd} (h : Tog w0 S w l) (i : Nat) {v : Value} {L : List Pk} (hi : l[i]? = some (kPks v L)) {X : Value} {M : List Pk} (hs : SrcAt w X M.length (pkCells M)) (hv : act.eval s = v) (hx : act.eval x = X) (nR : Nat) (hR : nR = L.length + M.length) (hlen : nR ≤ 100000)
    (hK : ∀ a c w', Tog w0 S w' (l.set i (kPks (.slice a nR c) (L ++ M))) → w.heap.size ≤ w'.heap.size → wpList Try.prog ops Q rest (act.put o.dst (.slice a nR c)) w') : wpList Try.prog ops Q (o :: rest) act w := by
  subst hR
  refine h.wpList_app elP hgd s x ho i hi hv hx hs (pkCells_len M) (pkCells_one M) (by unfold maxLen; omega) (by omega) (fun a c w' T hs => hK a c w' ?_ hs)
  unfold kPks
  rw [pkCells_app, List.length_append]
  exact T
/-- A slice of packets as a source. -/
theorem Tog.srcPks {w0 w : World} {S : Nat → Prop} {l : List Kd} (h : Tog w0 S w l) {i : Nat} {v : Value} {L : List Pk} (hi : l[i]? = some (kPks v L)) : SrcAt w v L.length (pkCells L) := srcAt_row (h.rowAt hi)
theorem Tog.pkAt {w0 w : World} {S : Nat → Prop} {l : List Kd} (h : Tog w0 S w l) {i : Nat} {v : Value} {L : List Pk} (hi : l[i]? = some (kPks v L)) {j : Nat} {q : Pk} (hq : L[j]? = some q) : ∃ g c, v = .slice (some ⟨g, 0, none⟩) L.length c ∧ w.cell? ⟨g, j * 2, none⟩ = some (.int .i64 q.1) ∧ w.cell? ⟨g, j * 2 + 1, none⟩ = some (.string q.2) := by
  have hr := h.rowAt hi
  obtain ⟨g, c, rfl, _⟩ := row_pos hr (by have := (List.getElem?_eq_some_iff.1 hq).1; omega)
  obtain ⟨e1, e2⟩ := pkCells_at L j q hq
  have h1 := hr.cells (g := g) rfl _ _ e1
  have h2 := hr.cells (g := g) rfl _ _ e2
  rw [addr_add, Nat.zero_add] at h1 h2
  exact ⟨g, c, rfl, h1, h2⟩
end Go.Proofs.Ytgdcocfekjlhfaa
