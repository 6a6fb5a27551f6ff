/-
  ROWS OF STRINGS AND BLOCKS AS THINGS BESIDE A DISK AND A CELL; the law's has.
-/
import Derived.Test.YtclibkpipggdeaaDoorKl
import Derived.RangeFuncBox
namespace Go.Proofs.YtclibkpipggdeaaDoor
open Go.RowKit Go.Maps WireM DiskM CellM
set_option linter.unusedVariables false
set_option linter.unusedSimpArgs false
set_option maxRecDepth 100000

theorem infoStr : (Tryd.prog.info? 9).map (fun i => (i.zero, i.size, i.bytes)) = some (some (.string .empty), 1, 16) := by kernel_rfl
def strCells (L : List (List UInt8)) : List Value := L.map fun l => Value.string (bs l)
theorem strCells_len (L : List (List UInt8)) : (strCells L).length = L.length := by simp [strCells]
/-- A slice of strings at the head of its own block. -/
def kStrs (v : Value) (L : List (List UInt8)) : Kd where
  is := fun M w => (∀ b, M b ↔ v.ownBlock = some b) ∧ w.ownsRow 0 9 1 v L.length (strCells L)
  lt := fun M w ⟨hm, h⟩ b hb => (World.ownsRow.lt h b ((hm b).1 hb)).2
  same := fun M w w' ⟨hm, h⟩ he => ⟨hm, row_block h (fun k hk => he k ((hm k).2 hk))⟩
/-- A block. -/
def kHeap (g : Nat) (o : Obj) : Kd where
  is := fun M w => (∀ b, M b ↔ b = g) ∧ w.heap[g]? = some o
  lt := fun M w ⟨hm, h⟩ b hb => by rw [(hm b).1 hb]; exact (Array.getElem?_eq_some_iff.1 h).1
  same := fun M w w' ⟨hm, h⟩ he => ⟨hm, (he g ((hm g).2 rfl)).trans h⟩
theorem Tog.heapAt {w0 w : World} {l : List Kd} (h : Tog w0 w l) {j g : Nat} {o : Obj} (hj : l[j]? = some (kHeap g o)) : w.heap[g]? = some o := by
  obtain ⟨M, ⟨h1, h2⟩, _⟩ := h.focus hj
  exact h2
theorem Tog.rowAt {w0 w : World} {l : List Kd} (h : Tog w0 w l) {j : Nat} {v : Value} {L : List (List UInt8)} (hj : l[j]? = some (kStrs v L)) : w.ownsRow 0 9 1 v L.length (strCells L) := by
  obtain ⟨M, ⟨h1, h2⟩, _⟩ := h.focus hj
  exact h2
theorem Tog.nilRow {w0 w : World} {l : List Kd} (h : Tog w0 w l) : Tog w0 w (l ++ [kStrs (.slice none 0 0) []]) :=
  h.add ⟨fun _ => False, ⟨fun b => ⟨fun h => h.elim, fun h => by simp [Value.ownBlock] at h⟩, World.ownsRow_nil _ _ _ _⟩, fun b hb => hb.elim⟩ (Below.refl _ w)
theorem Tog.block {w0 w : World} {l : List Kd} (h : Tog w0 w l) (o : Obj) : Tog w0 (w.alloc o) (l ++ [kHeap w.heap.size o]) :=
  h.add ⟨fun b => b = w.heap.size, ⟨fun _ => Iff.rfl, heap_alloc_new w _⟩, fun b hb => by rw [hb]; exact Nat.le_refl _⟩ ((Below.refl _ w).alloc (Nat.le_refl _) _)
theorem Tog.oneRow {w0 w : World} {l : List Kd} (h : Tog w0 w l) (m : ByteArray) : Tog w0 (w.alloc (.cells #[.string m] 9)) (l ++ [kStrs (.slice (some ⟨w.heap.size, 0, none⟩) 1 1) [m.data.toList]]) :=
  h.add ⟨fun b => b = w.heap.size, ⟨fun b => by simp [Value.ownBlock]; exact eq_comm, ⟨rfl, .inr ⟨w.heap.size, 1, #[.string m], rfl, Nat.zero_le _, heap_alloc_new w _, Nat.le_refl _, by unfold maxLen; omega, rfl, rfl⟩⟩⟩, fun b hb => by rw [hb]; exact Nat.le_refl _⟩ ((Below.refl _ w).alloc (Nat.le_refl _) _)
theorem append_str {ops : Array Oper} {rest : List Oper} {o : Oper} {a : Act} {Q : Exit → Act → World → Prop} (hgd : o.guard = none) (s x : Operand)
    (ho : o.op = .call { callee := .builtin .append, args := #[s, x], argTypes := #[ 51, 51 ] })
    {w0 wr : World} {l : List Kd} {i : Nat} {v : Value} {L : List (List UInt8)} (m : ByteArray) (h : Tog w0 wr l) (hi : l[i]? = some (kStrs v L)) (hs : a.eval s = v) (hx : a.eval x = .slice (some ⟨wr.heap.size, 0, none⟩) 1 1) (hlen : L.length ≤ 1000000)
    (W : World) (hW : wr.alloc (.cells #[.string m] 9) = W)
    (hK : ∀ v' w3, Tog w0 w3 (l.set i (kStrs v' (L ++ [m.data.toList]))) → wpList Tryd.prog ops Q rest (a.put o.dst v') w3) : wpList Tryd.prog ops Q (o :: rest) a W := by
  subst hW
  obtain ⟨i0, hi0, hz0, hz1, hz2⟩ := info_parts infoStr
  obtain ⟨M, ⟨m1, m2⟩, m3, m4⟩ := (h.on ((Below.refl wr.heap.size wr).alloc (Nat.le_refl _) (.cells #[.string m] 9))).focus hi
  refine wpList_append_lies _ hgd s x 51 ho 0 9 i0 (.string .empty) 1 16 Tryd.underlying51 hi0 hz0 hz1 hz2 rfl (by decide) v L.length (strCells L) hs m2 ⟨wr.heap.size, 0, none⟩ 1 1 [.string m] hx rfl (World.news_of_block (heap_alloc_new wr _)) ?_ (by decide) ?_ ?_ (Nat.zero_le _) (wr.heap.size + 1) (by simp) ?_
  · intro u hu; simp at hu; subst hu; rfl
  · unfold maxLen; omega
  · omega
  · intro g cap w3 h1 h2 h3 _
    refine hK _ w3 (m4 _ _ ⟨fun b => b = g, ⟨fun b => by simp [Value.ownBlock]; exact eq_comm, ?_⟩, fun b hb => ?_, Chg.of_grown h2 (fun k e => .inl ((m1 k).2 e))⟩)
    · have e : strCells (L ++ [m.data.toList]) = strCells L ++ [.string m] := by simp [strCells]; rfl
      rw [e, List.length_append]; exact h1
    · subst hb
      rcases h3 with e | e
      · left; exact (m1 b).2 e
      · right; simp; omega
set_option maxHeartbeats 4000000 in
theorem has_any {w : World} {v : Value} {L : List (List UInt8)} (h : w.ownsRow 0 9 1 v L.length (strCells L)) (hl : L.length ≤ 1000) (S : ByteArray) (hS : S.data.toList ∈ L) :
    Calls Tryd.prog 33 #[v, .string S] w fun e w' => e = .returned (.bool true) ∧ w = w' := by
  obtain ⟨g, cap, rfl⟩ : ∃ g cap, v = .slice (some ⟨g, 0, none⟩) L.length cap := by
    obtain ⟨n, hn⟩ : ∃ n, L.length = n + 1 := ⟨L.length - 1, by have := List.length_pos_of_mem hS; omega⟩
    rw [hn] at h ⊢
    exact ownsRow_succ h
  have CE := Lib.hid (fun j (t : List UInt8) (hj : L[j]? = some t) => show w.cell? ⟨g, j, none⟩ = some (.string (bs t)) from by
    have hlt := (List.getElem?_eq_some_iff.1 hj).1
    rw [World.ownsRow.cellAt h j (by omega)]
    simp [strCells, hj])
  have MEM := Lib.hid hS
  clear h hS
  go_enter Tryd.func33, Tryd.ntmps33
  go_wp2_with fail
  go_loopw [5] (fun i wr => ∃ j : Nat, j ≤ L.length ∧ i = .int .i64 (j : Int) ∧ wr = w ∧ Hid (∀ m t, m < j → L[m]? = some t → bs t ≠ S)) (fun i _ => L.length - (intOf i).toNat)
  case atStart => exact ⟨0, Nat.zero_le _, rfl, rfl, Lib.hid (fun m t hm => by omega)⟩
  case round =>
    obtain ⟨j, hj, rfl, rfl, HO⟩ := hrel
    by_cases hlt : j < L.length
    · obtain ⟨t, ht⟩ : ∃ t, L[j]? = some t := ⟨_, List.getElem?_eq_getElem hlt⟩
      have c0 := CE.out j t ht
      have g0 : (0 : Int) ≤ (j : Int) := by omega
      have g1 : (j : Int) < (L.length : Int) := by omega
      have w1 : wrap64 ((j : Int) + 1) = (j : Int) + 1 := by unfold wrap64; omega
      have W1 := Lib.hid w1
      have MEAS := Lib.hid (show L.length - (intOf (.int .i64 ((j : Int) + 1))).toNat < L.length - (intOf (.int .i64 (j : Int))).toNat by simp [intOf]; omega)
      by_cases e : bs t = S
      · have q0 : ((bs t).toList == S.toList) = true := by rw [e]; exact beq_self_eq_true _
        clear ht hlt hj w1 e
        go_wp2
        go_ret
        exact ⟨rfl, rfl⟩
      · have q0 : ((bs t).toList == S.toList) = false := beq_eq_false_iff_ne.2 (fun h => e (by rw [Lib.toList_data, Lib.toList_data] at h; have h2 : t = S.data.toList := h; rw [h2]; rfl))
        have G := Lib.hid (show ∃ j' : Nat, j' ≤ L.length ∧ Value.int .i64 ((j : Int) + 1) = .int .i64 (j' : Int) ∧ True ∧ Hid (∀ m t, m < j' → L[m]? = some t → bs t ≠ S) from ⟨j + 1, hlt, rfl, trivial, Lib.hid (fun m t' hm ht' => by
          by_cases e2 : m = j
          · subst e2; rw [ht] at ht'; cases ht'; exact e
          · exact HO.out m t' (by omega) ht')⟩)
        clear ht hlt hj w1 e
        go_wp2
        go_roundw
        case rel => first | exact G.out | (rw [W1.out]; exact G.out)
        case measure => first | exact MEAS.out | (rw [W1.out]; exact MEAS.out)
    · exfalso
      obtain ⟨m, hm⟩ := List.getElem?_of_mem MEM.out
      exact HO.out m _ (by have := (List.getElem?_eq_some_iff.1 hm).1; omega) hm rfl
end Go.Proofs.YtclibkpipggdeaaDoor
