/-
  THE REFERENCE OF LAYER 3: Arm; the reference's disk among other things.
-/
import Derived.Test.YtdejajpmebgidaaDoorHm
import Derived.OwnWalk
namespace Go.Proofs.YtdejajpmebgidaaDoor
open Go.RowKit Go.Maps WireM DiskM
set_option linter.unusedVariables false
set_option linter.unusedSimpArgs false
set_option maxRecDepth 100000

/-- Arm's end: both fields have turned. -/
theorem arm_end {w w1 w3 : World} {r : Nat} {s : St} {q : RP} (h : RIs w r s q) (n : Int) (hn : n ≤ 9223372036854775807) (l : List Int) (hl : l.length ≤ 1000) (e1 : w1 = w.setCell ⟨r, 4, none⟩ (.int .i64 ((n.toNat : Nat) : Int))) (hb : Below w.heap.size w1 w3) {v' : Value} (hr : w3.ownsRow w.heap.size 3 1 v' l.length (intCells l)) :
    RTurn w r q (s.arm n l) (w3.setCell ⟨r, 5, none⟩ v') := by
  have hrl := h.lt (.inl rfl)
  have t1 : R0 w1 r { s with armed := n.toNat, keep := q.K } q := by rw [e1]; exact h.toR0.field { s with armed := n.toNat, keep := q.K } 4 _ rfl rfl rfl rfl (fun _ => rfl)
  have hsz : w1.heap.size = w.heap.size := by rw [e1]; simp [World.setCell]
  have k := t1.below (by rw [hsz]; exact hb)
  have hset : ∀ b, b ≠ r → (w3.setCell ⟨r, 5, none⟩ v').heap[b]? = w3.heap[b]? := fun b hb => Below.heap_setCell _ _ _ _ hb
  have hrow : ∀ {e : TypeId} {size n : Nat} {x : Value} {xs : List Value}, w3.ownsRow 0 e size x n xs → e ≠ 59 → (w3.setCell ⟨r, 5, none⟩ v').ownsRow 0 e size x n xs := fun hrow hne =>
    row_block hrow (fun k' hk => hset k' (fun e => by
      have t1 := tag_row hrow hk
      rw [e, k.tr] at t1
      simp at t1
      exact hne t1.symm))
  refine ⟨{ q with vK := v', K := l }, ⟨⟨?_, hrow k.rowF (by decide), hrow k.rowQ (by decide), hrow (row_base hr) (by decide), h.rel, h.nod, h.num, fun _ => rfl, hl⟩, inv_arm h.inv hn l⟩, fun b hb' => ?_, ?_⟩
  · have hc := k.cells
    show _ = some (Obj.cells ((rcells q { s with armed := n.toNat, keep := q.K }).setIfInBounds 5 v') _ (0, 0))
    simp [World.setCell, Array.getElem?_modify, hc]
  · rcases hb' with rfl | e | e | e
    · exact .inl (.inl rfl)
    · exact .inl (.inr (.inl e))
    · exact .inl (.inr (.inr (.inl e)))
    · exact .inr (hr.lt b e).1
  · have hc1 : Chg (fun b => b = r) w w1 := by rw [e1]; exact Chg.set _ _ _ (.inl rfl)
    have hc2 : Chg (fun b => b = r) w1 w3 := Chg.of_below (by rw [hsz]; exact hb)
    have hc3 : Chg (fun b => b = r) w3 (w3.setCell ⟨r, 5, none⟩ v') := Chg.set _ _ _ (.inl rfl)
    exact ((hc1.trans hc2 (fun _ h => .inl h)).trans hc3 (fun _ h => .inl h)).mono (fun _ _ h => .inl h)
set_option maxHeartbeats 4000000 in
theorem rarm_any {w : World} {r : Nat} {s : St} {q : RP} (h : RIs w r s q) (n : Int) (hn : n ≤ 9223372036854775807) (v : Value) (l : List Int) (hv : SrcAt w v l.length (intCells l)) (hb : l ≠ [] → v.ownBlock ≠ some r) (hl : l.length ≤ 1000) :
    Calls Tryd.prog 16 #[.pointer (some ⟨r, 0, none⟩), .int .i64 n, v] w fun e w' => e = .returned (.tuple #[]) ∧ RTurn w r q (s.arm n l) w' := by
  have c4 := h.c4
  have f4 := h.fz 4
  have c5 := h.c5
  have f5 := h.fz 5
  have hrl := h.lt (.inl rfl)
  have FIN := Lib.hid (fun (m : Int) (em : m = ((n.toNat : Nat) : Int)) w3 v' (hb3 : Below w.heap.size (w.setCell ⟨r, 4, none⟩ (.int .i64 m)) w3) (hr3 : w3.ownsRow w.heap.size 3 1 v' l.length (intCells l)) => arm_end (w1 := w.setCell ⟨r, 4, none⟩ (.int .i64 m)) h n hn l hl (by rw [em]) hb3 hr3)
  have hset5 : ∀ (m : Int), (w.setCell ⟨r, 4, none⟩ (.int .i64 m)).heap[r]? = some (.cells ((rcells q s).setIfInBounds 4 (.int .i64 m)) 59 (0, 0)) := fun m => by simp [World.setCell, Array.getElem?_modify, h.cells]
  have hsz : ∀ (m : Int), (w.setCell ⟨r, 4, none⟩ (.int .i64 m)).heap.size = w.heap.size := fun m => by simp [World.setCell]
  have KEP := Lib.hid (fun (m : Int) w3 (hb3 : Below w.heap.size (w.setCell ⟨r, 4, none⟩ (.int .i64 m)) w3) => show w3.frozen? ⟨r, 5, none⟩ = false ∧ ∃ u, w3.cell? ⟨r, 5, none⟩ = some u from by
    have h1 := (hb3.block r hrl).trans (hset5 m)
    exact ⟨Lib.frozen_of_heap h1 5, q.vK, by rw [Lib.cell_of_heap h1]; simp [rcells]⟩)
  obtain ⟨i0, hi, hz0, hz1, hz2⟩ := info_parts infoI
  have hform : (∃ c, v = .slice none 0 c ∧ l = []) ∨ ∃ ad c, v = .slice (some ad) l.length c ∧ ∀ (m : Int) j u, (intCells l)[j]? = some u → (w.setCell ⟨r, 4, none⟩ (.int .i64 m)).cell? (ad.add j) = some u := by
    rcases hv with ⟨⟨a, c, e1⟩, e2, e3⟩ | ⟨b, off, c, e1, hc⟩
    · have hl0 := List.eq_nil_of_length_eq_zero e2
      cases a with
      | none => exact .inl ⟨c, e1, hl0⟩
      | some ad => exact .inr ⟨ad, c, by rw [e2]; exact e1, fun m j u hj => by rw [e3] at hj; simp at hj⟩
    · refine .inr ⟨⟨b, off, none⟩, c, e1, fun m j u hj => ?_⟩
      have hne : l ≠ [] := fun e => by rw [e] at hj; simp [intCells] at hj
      have hbr : b ≠ r := fun e2 => hb hne (by rw [e1, e2]; rfl)
      have : (w.setCell ⟨r, 4, none⟩ (.int .i64 m)).heap[b]? = w.heap[b]? := Below.heap_setCell _ _ _ _ hbr
      rw [Addr.add_lit, ← hc j u hj]
      unfold World.cell?
      simp only [this]
  have hxl : (intCells l).length = l.length * 1 := by rw [intCells_len]; omega
  have hone := intCells_one l
  have HSZ := Lib.hid hsz
  clear h hv hb hset5 hsz
  rcases hform with ⟨c, rfl, rfl⟩ | ⟨ad, c, rfl, hsrc⟩
  · have HR := Lib.hid (fun W (b : Nat) (ty : TypeId) => show (Builtin.append_ #[ 36, 36 ] ty #[.slice (some ⟨b, 0, none⟩) 0 0, .slice none 0 c]).run Tryd.prog W = .ok (.slice (some ⟨b, 0, none⟩) (0 + 0) 0) W from
      run_append_room_src (P := Tryd.prog) W 36 36 ty 3 i0 Tryd.underlying36 hi b 0 0 0 (.slice none 0 c) 0 [] (Src.ofNil W Tryd.underlying36 c) (by omega) (fun j hj => by simp at hj) (fun j hj => by simp at hj))
    clear hi hz0 hz1 hz2 hxl hone
    go_enter Tryd.func16, Tryd.ntmps16
    go_wp2_with (at_builtin; go_loud (refine Lib.wpList_append_run _ rfl _ _ _ _ rfl _ _ rfl rfl _ _ (HR.out _ _ _) ?_))
    all_goals
      go_end0
      refine ⟨rfl, ?_⟩
      have hs : r < (w.setCell ⟨r, 4, none⟩ (.int .i64 (n.toNat : Int))).heap.size := by rw [HSZ.out]; exact hrl
      have em : ∀ m : Int, m = (n.toNat : Int) → RTurn w r q (s.arm n []) (((w.setCell ⟨r, 4, none⟩ (.int .i64 m)).setCell ⟨r, 5, none⟩ (.slice (some ⟨w.heap.size, 0, none⟩) 0 0)).alloc (.cells #[] 3)) := fun m e => by
        subst e
        rw [← World.setCell_alloc_past _ _ _ _ hs]
        have hz := HSZ.out (n.toNat : Int)
        refine FIN.out _ rfl _ _ ((Below.refl _ _).alloc (by rw [hz]; exact Nat.le_refl _) _) ?_
        have := World.ownsRow_made (e := 3) (size := 1) (w.setCell ⟨r, 4, none⟩ (.int .i64 (n.toNat : Int))) #[] 0 (Nat.le_refl _) (Nat.zero_le _) (by simp)
        rw [hz] at this
        simpa [intCells] using this
      exact em _ (by omega)
  · have HS := Lib.hid hsrc
    have HHL := Lib.hid hl
    have HX := Lib.hid hxl
    have HO := Lib.hid hone
    have FI2 := Lib.hid (show ∀ m : Int, m = (n.toNat : Int) → ∀ v' w3, w3.ownsRow w.heap.size 3 1 v' (0 + l.length) ([] ++ intCells l) → ((w.setCell ⟨r, 4, none⟩ (.int .i64 m)).alloc (.cells #[] 3)).grownBy w3 (some w.heap.size) → Hid (RTurn w r q (s.arm n l) (w3.setCell ⟨r, 5, none⟩ v')) ∧ w3.frozen? ⟨r, 5, none⟩ = false ∧ ∃ u, w3.cell? ⟨r, 5, none⟩ = some u from fun m e v' w3 h1 h2 => by
      have hz := HSZ.out m
      have hb3 : Below w.heap.size (w.setCell ⟨r, 4, none⟩ (.int .i64 m)) w3 := ((Below.refl _ _).alloc (by rw [hz]; exact Nat.le_refl _) _).grown h2 (by simp [hz]) (fun k hk => by cases hk; exact Nat.le_refl _)
      rw [Nat.zero_add, List.nil_append] at h1
      exact ⟨Lib.hid (FIN.out m e w3 v' hb3 h1), KEP.out m w3 hb3⟩)
    have OWN := Lib.hid (show ∀ m : Int, ((w.setCell ⟨r, 4, none⟩ (.int .i64 m)).alloc (.cells #[] 3)).ownsRow w.heap.size 3 1 (.slice (some ⟨w.heap.size, 0, none⟩) 0 0) 0 [] from fun m => by
      have hz := HSZ.out m
      have := World.ownsRow_made (e := 3) (size := 1) (w.setCell ⟨r, 4, none⟩ (.int .i64 m)) #[] 0 (Nat.le_refl _) (Nat.zero_le _) (by simp)
      rw [hz] at this
      simpa using this)
    have NEG := Lib.hid (show (n < 0 → (0 : Int) = (n.toNat : Int)) ∧ (¬ n < 0 → n = (n.toNat : Int)) from ⟨fun h => by omega, fun h => by omega⟩)
    clear hsrc hl hxl hone FIN KEP
    by_cases hneg : n < 0
    · have EM := Lib.hid (NEG.out.1 hneg)
      go_enter Tryd.func16, Tryd.ntmps16
      go_wp2_with (at_builtin; go_loud (refine wpList_append_own _ rfl _ _ 36 rfl w.heap.size 3 i0 (.int .i64 0) 1 8 Tryd.underlying36 hi hz0 hz1 hz2 rfl (by decide) _ _ _ rfl (OWN.out 0) ad l.length c (intCells l) rfl HX.out (fun j u hj => Lib.cell?_alloc_some _ (HS.out 0 j u hj)) HO.out (by have := HHL.out; unfold maxLen; omega) (by have := HHL.out; omega) (by simp [HSZ.out 0]) ?_; intro v' w3 hown hgrow hnil; obtain ⟨a3, c3, hv3⟩ := row_form hown; generalize (0 + l.length) = n3 at hv3; subst hv3; obtain ⟨T3, z3, u3, y3⟩ := FI2.out 0 EM.out _ w3 hown hgrow; clear hown hgrow hnil))
      go_end0
      exact ⟨rfl, T3.out⟩
    · have EM := Lib.hid (NEG.out.2 hneg)
      go_enter Tryd.func16, Tryd.ntmps16
      go_wp2_with (at_builtin; go_loud (refine wpList_append_own _ rfl _ _ 36 rfl w.heap.size 3 i0 (.int .i64 0) 1 8 Tryd.underlying36 hi hz0 hz1 hz2 rfl (by decide) _ _ _ rfl (OWN.out n) ad l.length c (intCells l) rfl HX.out (fun j u hj => Lib.cell?_alloc_some _ (HS.out n j u hj)) HO.out (by have := HHL.out; unfold maxLen; omega) (by have := HHL.out; omega) (by simp [HSZ.out n]) ?_; intro v' w3 hown hgrow hnil; obtain ⟨a3, c3, hv3⟩ := row_form hown; generalize (0 + l.length) = n3 at hv3; subst hv3; obtain ⟨T3, z3, u3, y3⟩ := FI2.out n EM.out _ w3 hown hgrow; clear hown hgrow hnil))
      go_end0
      exact ⟨rfl, T3.out⟩
end Go.Proofs.YtdejajpmebgidaaDoor
