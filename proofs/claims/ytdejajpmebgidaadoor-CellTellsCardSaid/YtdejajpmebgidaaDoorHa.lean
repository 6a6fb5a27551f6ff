/-
  THE REFERENCE OF LAYER 3 (package rehearsalref03): its disk in memory; New, Down, may, fits, Start, Lose, get, Size.
-/
import Derived.Test.YtdejajpmebgidaaDoorJa
import Derived.Deep.QuietTactic
import Derived.BigQuiet
namespace Go.Proofs.YtdejajpmebgidaaDoor
open Go.RowKit Go.Maps WireM DiskM
set_option linter.unusedVariables false
set_option linter.unusedSimpArgs false
set_option maxRecDepth 100000

abbrev FileT := Int × List UInt8 × List UInt8
def fileCells (l : List FileT) : List Value := l.flatMap fun x => [.int .i64 x.1, .string (bs x.2.1), .string (bs x.2.2)]
theorem fileCells_len (l : List FileT) : (fileCells l).length = l.length * 3 := by
  unfold fileCells
  induction l with
  | nil => rfl
  | cons a r ih => simp only [List.flatMap_cons, List.length_append, ih, List.length_cons]; simp; omega
theorem fileCells_at : ∀ (l : List FileT) (j : Nat) (x : FileT), l[j]? = some x → (fileCells l)[j * 3]? = some (.int .i64 x.1) ∧ (fileCells l)[j * 3 + 1]? = some (.string (bs x.2.1)) ∧ (fileCells l)[j * 3 + 2]? = some (.string (bs x.2.2))
  | [], j, x, h => by simp at h
  | a :: r, 0, x, h => by
    simp at h
    subst h
    exact ⟨rfl, rfl, rfl⟩
  | a :: r, j + 1, x, h => by
    obtain ⟨h1, h2, h3⟩ := fileCells_at r j x (by simpa using h)
    have e : ∀ m, (fileCells (a :: r))[m + 3]? = (fileCells r)[m]? := fun m => by
      show ([Value.int .i64 a.1, .string (bs a.2.1), .string (bs a.2.2)] ++ fileCells r)[m + 3]? = _
      rw [List.getElem?_append_right (by simp)]
      simp
    refine ⟨?_, ?_, ?_⟩
    · rw [show (j + 1) * 3 = j * 3 + 3 by omega, e]; exact h1
    · rw [show (j + 1) * 3 + 1 = (j * 3 + 1) + 3 by omega, e]; exact h2
    · rw [show (j + 1) * 3 + 2 = (j * 3 + 2) + 3 by omega, e]; exact h3
/-- What the reference's get finds: the two strings of a file. -/
def getF (l : List FileT) (f : Int) : List UInt8 × List UInt8 := match l.find? (fun x => x.1 == f) with | some x => x.2 | none => ([], [])
theorem getF_nil (f : Int) : getF [] f = ([], []) := rfl
structure RP where
  vF : Value
  vQ : Value
  vK : Value
  files : List FileT
  K : List Int
def rcells (q : RP) (s : St) : Array Value := #[q.vF, q.vQ, .int .i64 s.lost, .bool s.down, .int .i64 s.armed, q.vK]
def RMine (r : Nat) (q : RP) (b : Nat) : Prop := b = r ∨ q.vF.ownBlock = some b ∨ q.vQ.ownBlock = some b ∨ q.vK.ownBlock = some b
/-- The reference's disk in memory, in the same state. -/
structure R0 (w : World) (r : Nat) (s : St) (q : RP) : Prop where
  cells : w.heap[r]? = some (.cells (rcells q s) 59 (0, 0))
  rowF : w.ownsRow 0 76 3 q.vF q.files.length (fileCells q.files)
  rowQ : w.ownsRow 0 74 2 q.vQ s.pend.length (secCells s.pend)
  rowK : IntRow w q.vK q.K
  rel : ∀ f, getF q.files f = (s.now f, s.last f)
  nod : (q.files.map (fun x => x.1)).Nodup
  num : ∀ x ∈ q.files, isF x.1
  kp : s.armed ≠ 0 → q.K = s.keep
  kl : q.K.length ≤ 1000
/-- .. whose state keeps the rules. -/
structure RIs (w : World) (r : Nat) (s : St) (q : RP) : Prop extends R0 w r s q where
  inv : Inv s
def RTurn (w : World) (r : Nat) (q : RP) (s' : St) (w' : World) : Prop := ∃ q', RIs w' r s' q' ∧ (∀ b, RMine r q' b → RMine r q b ∨ w.heap.size ≤ b) ∧ Chg (RMine r q) w w'
section
variable {w w' : World} {r : Nat} {s : St} {q : RP}
theorem R0.tr (h : R0 w r s q) : tagOf w r = some (.cells 59) := by simp [tagOf, h.cells]
theorem R0.tF (h : R0 w r s q) {k : Nat} (hk : q.vF.ownBlock = some k) : tagOf w k = some (.cells 76) := tag_row h.rowF hk
theorem R0.tQ (h : R0 w r s q) {k : Nat} (hk : q.vQ.ownBlock = some k) : tagOf w k = some (.cells 74) := tag_row h.rowQ hk
theorem R0.tK (h : R0 w r s q) {k : Nat} (hk : q.vK.ownBlock = some k) : tagOf w k = some (.cells 3) := tag_row h.rowK hk
theorem R0.lt (h : R0 w r s q) {b : Nat} (hb : RMine r q b) : b < w.heap.size := by
  rcases hb with rfl | hb | hb | hb
  · exact tag_lt h.tr
  · exact tag_lt (h.tF hb)
  · exact tag_lt (h.tQ hb)
  · exact tag_lt (h.tK hb)
theorem R0.same (h : R0 w r s q) (hb : ∀ b, RMine r q b → w'.heap[b]? = w.heap[b]?) : R0 w' r s q where
  cells := (hb r (.inl rfl)).trans h.cells
  rowF := row_block h.rowF (fun k hk => hb k (.inr (.inl hk)))
  rowQ := row_block h.rowQ (fun k hk => hb k (.inr (.inr (.inl hk))))
  rowK := row_block h.rowK (fun k hk => hb k (.inr (.inr (.inr hk))))
  rel := h.rel
  nod := h.nod
  num := h.num
  kp := h.kp
  kl := h.kl
theorem R0.chg {S : Nat → Prop} (h : R0 w r s q) (hc : Chg S w w') (hS : ∀ b, RMine r q b → ¬ S b) : R0 w' r s q := h.same (fun b hb => hc.block b (h.lt hb) (hS b hb))
theorem R0.below (h : R0 w r s q) (hb : Below w.heap.size w w') : R0 w' r s q := h.same (fun b hm => hb.block b (h.lt hm))
theorem R0.cell (h : R0 w r s q) {i : Nat} {v : Value} (hv : (rcells q s)[i]? = some v) : w.cell? ⟨r, i, none⟩ = some v := by rw [Lib.cell_of_heap h.cells]; exact hv
theorem R0.c0 (h : R0 w r s q) : w.cell? ⟨r, 0, none⟩ = some q.vF := h.cell rfl
theorem R0.c1 (h : R0 w r s q) : w.cell? ⟨r, 1, none⟩ = some q.vQ := h.cell rfl
theorem R0.c2 (h : R0 w r s q) : w.cell? ⟨r, 2, none⟩ = some (.int .i64 s.lost) := h.cell rfl
theorem R0.c3 (h : R0 w r s q) : w.cell? ⟨r, 3, none⟩ = some (.bool s.down) := h.cell rfl
theorem R0.c4 (h : R0 w r s q) : w.cell? ⟨r, 4, none⟩ = some (.int .i64 s.armed) := h.cell rfl
theorem R0.c5 (h : R0 w r s q) : w.cell? ⟨r, 5, none⟩ = some q.vK := h.cell rfl
theorem R0.fz (h : R0 w r s q) (i : Nat) : w.frozen? ⟨r, i, none⟩ = false := Lib.frozen_of_heap h.cells i
theorem R0.few (h : R0 w r s q) : q.files.length ≤ 16 := by
  have h1 : (q.files.map (fun x => x.1.toNat)).Nodup := by
    unfold List.Nodup
    rw [List.pairwise_map]
    have h2 := h.nod
    unfold List.Nodup at h2
    rw [List.pairwise_map] at h2
    refine List.Pairwise.imp_of_mem ?_ h2
    intro a b ha hb hne e
    have x1 := h.num a ha
    have x2 := h.num b hb
    unfold isF at x1 x2
    exact hne (by omega)
  have h3 := nodup_bound 16 _ h1 (fun x hx => by
    obtain ⟨y, hy, rfl⟩ := List.mem_map.1 hx
    have := h.num y hy
    unfold isF at this
    omega)
  simpa using h3
/-- A plain field has turned. -/
theorem R0.field (h : R0 w r s q) (s' : St) (i : Nat) (v : Value) (hi : (rcells q s).setIfInBounds i v = rcells q s') (h1 : s'.now = s.now) (h2 : s'.last = s.last) (h3 : s'.pend = s.pend) (h4 : s'.armed ≠ 0 → q.K = s'.keep) : R0 (w.setCell ⟨r, i, none⟩ v) r s' q := by
  have hb : ∀ b, b ≠ r → (w.setCell ⟨r, i, none⟩ v).heap[b]? = w.heap[b]? := fun b hb => Below.heap_setCell _ _ _ _ hb
  have hr : ∀ {e : TypeId} {size n : Nat} {x : Value} {xs : List Value}, w.ownsRow 0 e size x n xs → e ≠ 59 → (w.setCell ⟨r, i, none⟩ v).ownsRow 0 e size x n xs := fun hrow hne =>
    row_block hrow (fun k hk => hb k (fun e => by
      have t1 := tag_row hrow hk
      rw [e, h.tr] at t1
      simp at t1
      exact hne t1.symm))
  refine ⟨?_, hr h.rowF (by decide), by rw [h3]; exact hr h.rowQ (by decide), hr h.rowK (by decide), by rw [h1, h2]; exact h.rel, h.nod, h.num, h4, h.kl⟩
  rw [← hi]
  simp [World.setCell, Array.getElem?_modify, h.cells]
theorem RIs.sameI (h : RIs w r s q) (hb : ∀ b, RMine r q b → w'.heap[b]? = w.heap[b]?) : RIs w' r s q := ⟨h.toR0.same hb, h.inv⟩
theorem RIs.belowI (h : RIs w r s q) (hb : Below w.heap.size w w') : RIs w' r s q := ⟨h.toR0.below hb, h.inv⟩
end
/-- The blocks that calls write in place. -/
def RW (r : Nat) (q : RP) (b : Nat) : Prop := b = r ∨ q.vQ.ownBlock = some b
theorem RW.mine {r : Nat} {q : RP} {b : Nat} (h : RW r q b) : RMine r q b := h.imp id (fun h => .inr (.inl h))
structure RStep (w : World) (r : Nat) (q q' : RP) (w' : World) : Prop where
  mine : ∀ b, RMine r q' b → RMine r q b ∨ w.heap.size ≤ b
  rw' : ∀ b, RW r q' b → RW r q b ∨ w.heap.size ≤ b
  k : q'.K = q.K
  vk : q'.vK = q.vK
  chg : Chg (RW r q) w w'
theorem RStep.below {w w' : World} {r : Nat} {q : RP} (h : Below w.heap.size w w') : RStep w r q q w' := ⟨fun _ h => .inl h, fun _ h => .inl h, rfl, rfl, Chg.of_below h⟩
theorem RStep.refl (w : World) (r : Nat) (q : RP) : RStep w r q q w := RStep.below (Below.refl _ _)
theorem RStep.trans {w w1 w2 : World} {r : Nat} {q q1 q2 : RP} (h : RStep w r q q1 w1) (k : RStep w1 r q1 q2 w2) : RStep w r q q2 w2 :=
  ⟨fun b hb => (k.mine b hb).elim (h.mine b) (fun e => .inr (Nat.le_trans h.chg.size e)), fun b hb => (k.rw' b hb).elim (h.rw' b) (fun e => .inr (Nat.le_trans h.chg.size e)), k.k.trans h.k, k.vk.trans h.vk, h.chg.trans k.chg h.rw'⟩
/-- The same without the rules. -/
def R0Turn (w : World) (r : Nat) (q : RP) (s' : St) (w' : World) : Prop := ∃ q', R0 w' r s' q' ∧ RStep w r q q' w'
theorem R0Turn.toI {w w' : World} {r : Nat} {q : RP} {s' : St} (h : R0Turn w r q s' w') (hI : Inv s') : RTurn w r q s' w' := by
  obtain ⟨q', h1, h2⟩ := h
  exact ⟨q', ⟨h1, hI⟩, h2.mine, h2.chg.mono (fun _ _ h => h.mine)⟩
theorem R0Turn.refl {w : World} {r : Nat} {q : RP} {s : St} (h : R0 w r s q) : R0Turn w r q s w := ⟨q, h, RStep.refl _ _ _⟩
theorem R0Turn.step {w w1 w2 : World} {r : Nat} {q q1 : RP} {s2 : St} (h : RStep w r q q1 w1) (k : R0Turn w1 r q1 s2 w2) : R0Turn w r q s2 w2 := by
  obtain ⟨q2, h2, k2⟩ := k
  exact ⟨q2, h2, h.trans k2⟩
theorem R0Turn.trans {w w1 w2 : World} {r : Nat} {q : RP} {s1 s2 : St} (h : R0Turn w r q s1 w1) (k : ∀ q1, R0 w1 r s1 q1 → R0Turn w1 r q1 s2 w2) : R0Turn w r q s2 w2 := by
  obtain ⟨q1, h1, m1⟩ := h
  exact R0Turn.step m1 (k q1 h1)
theorem R0Turn.field {w : World} {r : Nat} {q : RP} {s : St} (h : R0 w r s q) (s' : St) (i : Nat) (v : Value) (hi : (rcells q s).setIfInBounds i v = rcells q s') (h1 : s'.now = s.now) (h2 : s'.last = s.last) (h3 : s'.pend = s.pend) (h4 : s'.armed ≠ 0 → q.K = s'.keep) :
    R0Turn w r q s' (w.setCell ⟨r, i, none⟩ v) := ⟨q, h.field s' i v hi h1 h2 h3 h4, fun _ h => .inl h, fun _ h => .inl h, rfl, rfl, Chg.set _ _ _ (.inl (.inl rfl))⟩
theorem RTurn.refl {w : World} {r : Nat} {q : RP} {s : St} (h : RIs w r s q) : RTurn w r q s w := ⟨q, h, fun _ hb => .inl hb, Chg.refl _ _⟩
theorem RTurn.field {w : World} {r : Nat} {q : RP} {s : St} (h : RIs w r s q) (s' : St) (i : Nat) (v : Value) (hi : (rcells q s).setIfInBounds i v = rcells q s') (h1 : s'.now = s.now) (h2 : s'.last = s.last) (h3 : s'.pend = s.pend) (h4 : s'.armed ≠ 0 → q.K = s'.keep) (hI : Inv s') :
    RTurn w r q s' (w.setCell ⟨r, i, none⟩ v) := ⟨q, ⟨h.toR0.field s' i v hi h1 h2 h3 h4, hI⟩, fun _ hb => .inl hb, Chg.set _ _ _ (.inl (.inl rfl))⟩
theorem RTurn.step {w w1 w2 : World} {r : Nat} {q q1 : RP} {s2 : St} (hm : ∀ b, RMine r q1 b → RMine r q b ∨ w.heap.size ≤ b) (hc : Chg (RMine r q) w w1) (k : RTurn w1 r q1 s2 w2) : RTurn w r q s2 w2 := by
  obtain ⟨q2, h2, m2, c2⟩ := k
  refine ⟨q2, h2, fun b hb => ?_, hc.trans c2 hm⟩
  rcases m2 b hb with h | h
  · exact hm b h
  · exact .inr (Nat.le_trans hc.size h)
theorem rstart_any {w : World} {r : Nat} {s : St} {q : RP} (h : RIs w r s q) : Calls Tryd.prog 19 #[.pointer (some ⟨r, 0, none⟩)] w fun e w' => e = .returned (.tuple #[]) ∧ RTurn w r q s.start w' := by
  have c3 := h.c3
  have f3 := h.fz 3
  have H := Lib.hid (RTurn.field h s.start 3 (.bool false) rfl rfl rfl rfl h.kp (inv_start h.inv))
  go_enter Tryd.func19, Tryd.ntmps19
  go_wp2
  go_end0
  exact ⟨rfl, H.out⟩
theorem rlose_any {w : World} {r : Nat} {s : St} {q : RP} (h : RIs w r s q) (n : Int) (hn : n ≤ 9223372036854775807) : Calls Tryd.prog 14 #[.pointer (some ⟨r, 0, none⟩), .int .i64 n] w fun e w' => e = .returned (.tuple #[]) ∧ RTurn w r q (s.lose n) w' := by
  have c2 := h.c2
  have f2 := h.fz 2
  have H := Lib.hid (fun (m : Int) (e1 : m = ((n.toNat : Nat) : Int)) => RTurn.field h (s.lose n) 2 (.int .i64 m) (by rw [e1]; rfl) rfl rfl rfl h.kp (inv_lose h.inv hn))
  go_enter Tryd.func14, Tryd.ntmps14
  go_wp2
  all_goals (go_end0; exact ⟨rfl, H.out _ (by omega)⟩)
/-- The first two errors. -/
def mayE (s : St) (f : Int) : Int := if s.down = true then 9 else if isF f then 0 else 1
theorem may_any {w : World} {r : Nat} {s : St} {q : RP} (h : R0 w r s q) (f : Int) : Calls Tryd.prog 41 #[.pointer (some ⟨r, 0, none⟩), .int .i64 f] w fun e w' => e = .returned (.int .i64 (mayE s f)) ∧ w = w' := by
  have c3 := h.c3
  unfold mayE
  cases hd : s.down with
  | true =>
    rw [hd] at c3
    go_enter Tryd.func41, Tryd.ntmps41
    go_wp2
    go_ret
    exact ⟨rfl, rfl⟩
  | false =>
    rw [hd] at c3
    by_cases h0 : f < 0
    · have e : (if isF f then (0 : Int) else 1) = 1 := if_neg (by unfold isF; omega)
      simp only [Bool.false_eq_true, if_false, e]
      go_enter Tryd.func41, Tryd.ntmps41
      go_wp2
      go_ret
      exact ⟨rfl, rfl⟩
    · by_cases h1 : 15 < f
      · have e : (if isF f then (0 : Int) else 1) = 1 := if_neg (by unfold isF; omega)
        simp only [Bool.false_eq_true, if_false, e]
        go_enter Tryd.func41, Tryd.ntmps41
        go_wp2
        go_ret
        exact ⟨rfl, rfl⟩
      · have e : (if isF f then (0 : Int) else 1) = 0 := if_pos (by unfold isF; omega)
        simp only [Bool.false_eq_true, if_false, e]
        go_enter Tryd.func41, Tryd.ntmps41
        go_wp2
        go_ret
        exact ⟨rfl, rfl⟩
theorem rnew_any (w : World) : Calls Tryd.prog 8 #[] w fun e w' => ∃ r q, e = .returned (.pointer (some ⟨r, 0, none⟩)) ∧ RIs w' r St.new q ∧ (∀ b, RMine r q b → w.heap.size ≤ b) ∧ Below w.heap.size w w' := by
  go_enter Tryd.func8, Tryd.ntmps8
  go_wp2
  go_ret
  refine ⟨_, ⟨nilS, nilS, nilS, [], []⟩, rfl, ⟨⟨?_, nilRow _ _ _, nilRow _ _ _, nilRow _ _ _, fun f => rfl, by simp, by simp, fun h => rfl, by simp⟩, inv_new⟩, fun b hb => ?_, (Below.refl _ w).alloc (Nat.le_refl _) _⟩
  · have := heap_alloc_new w (.cells (rcells ⟨nilS, nilS, nilS, [], []⟩ St.new) 59)
    simpa [rcells, St.new] using this
  · rcases hb with rfl | hb | hb | hb
    · exact Nat.le_refl _
    · simp [Value.ownBlock] at hb
    · simp [Value.ownBlock] at hb
    · simp [Value.ownBlock] at hb
end Go.Proofs.YtdejajpmebgidaaDoor
