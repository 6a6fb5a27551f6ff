/-
  PACKAGE frames: New, slices.Clone, Fill.
-/
import Derived.Test.YtpabkaihppnddaaCd
namespace Go.Proofs.Ytpabkaihppnddaa
open Go.RowKit
set_option linter.unusedVariables false
set_option linter.unusedSimpArgs false
set_option maxRecDepth 100000
theorem made_same (c : Array Value) (v : Value) (n : Nat) (h0 : 0 < c.size) (h : ∀ k, k < c.size → c[k]! = v) : (madeCells c n).toList = List.replicate n v := by
  apply List.ext_getElem?
  intro j
  by_cases hj : j < n
  · rw [Array.getElem?_toList, madeCells_at _ _ _ hj, List.getElem?_replicate, if_pos hj, h _ (Nat.mod_lt _ h0)]
  · rw [Array.getElem?_toList, List.getElem?_eq_none (by simpa using hj), Array.getElem?_eq_none (by rw [size_madeCells]; omega)]
theorem zcells_all0 : ∀ k, k < zcells.size → zcells[k]! = .int .u8 0 := by
  intro k hk
  have : ∀ k : Fin 64, zcells[k.val]! = .int .u8 0 := by
    intro k
    match k with
    | ⟨k, h⟩ =>
      simp only
      iterate 64 (cases k with | zero => rfl | succ k => ?_)
      all_goals first | omega | skip
  exact this ⟨k, hk⟩
theorem made_pages (m : Nat) : (madeCells zcells (m * 64)).toList = byteCells (List.replicate (m * 64) 0) := by
  rw [made_same zcells (.int .u8 0) _ (by decide) zcells_all0]
  simp [byteCells]
theorem made_bools (m : Nat) : (madeCells (Value.cells (.bool false)) (m * 1)).toList = boolCells (List.replicate m none) := by
  rw [show Value.cells (.bool false) = #[.bool false] from rfl, made_same #[.bool false] (.bool false) _ (by decide) (fun k hk => by simp at hk; subst hk; rfl)]
  simp [boolCells]
theorem made_strs (m : Nat) : (madeCells (Value.cells (.string .empty)) (m * 1)).toList = strCells (List.replicate m none) := by
  rw [show Value.cells (.string .empty) = #[.string .empty] from rfl, made_same #[.string .empty] (.string .empty) _ (by decide) (fun k hk => by simp at hk; subst hk; rfl)]
  simp [strCells]; exact .inr rfl
theorem PgOk.new (m : Nat) : PgOk (List.replicate (m * 64) 0) (List.replicate m none) := ⟨by simp, fun f q h => by
  rw [List.getElem?_replicate] at h; split at h <;> simp at h⟩
section
variable {w0 w : World} {S : Nat → Prop} {l : List Kd}
set_option maxHeartbeats 1000000 in
theorem Tog.xnew (h : Tog w0 S w l) (n : Int) (hn : InI n) : Calls Try.prog 9 #[.int .i64 n] w fun e w' => ∃ p, e = .returned (.pointer (some ⟨p, 0, none⟩)) ∧ Tog w0 S w' (l ++ [kFr p (Fm.new n)]) := by
  obtain ⟨m, hm⟩ : ∃ m : Nat, (min (max n 0) 4096).toNat = m := ⟨_, rfl⟩
  have e0 : (if n < 0 then 0 else n) = max n 0 := by split <;> omega
  have e1 : (if 4096 < max n 0 then 4096 else max n 0) = (m : Int) := by split <;> omega
  have hm4 : m ≤ 4096 := by omega
  have g0 : (0 : Int) ≤ (m : Int) := by omega
  have k1 := fun W => elPage.make m (by unfold maxLen; omega) (by omega) W
  have k2 := fun W => elBool.make m (by unfold maxLen; omega) (by omega) W
  have FL : Fm.new n = List.replicate m none := by unfold Fm.new; rw [hm]
  have F1 := Lib.hid (show ∀ X : Value, ∃ p, X = X ∧ p = w.heap.size + 1 + 1 ∧ Tog w0 S (((w.alloc (Obj.cells (madeCells zcells (m * 64)) 64)).alloc (Obj.cells (madeCells #[Value.bool false] m) 4)).alloc (Obj.cells #[Value.slice (some ⟨w.heap.size, 0, none⟩) m m, Value.slice (some ⟨w.heap.size + 1, 0, none⟩) m m] 62)).drew (l ++ [kFr p (Fm.new n)]) from fun X => ⟨_, rfl, rfl, by
    have t1 := (Tog.nil w (fun _ => False)).made 64 64 m (madeCells zcells (m * 64)) (by rw [size_madeCells]) (by unfold maxLen; omega)
    have t2 := t1.made 4 1 m (madeCells #[Value.bool false] m) (by rw [size_madeCells]; omega) (by unfold maxLen; omega)
    rw [show (w.alloc (Obj.cells (madeCells zcells (m * 64)) 64)).heap.size = w.heap.size + 1 by simp] at t2
    have t3 := t2.block (Obj.cells #[Value.slice (some ⟨w.heap.size, 0, none⟩) m m, Value.slice (some ⟨w.heap.size + 1, 0, none⟩) m m] 62)
    rw [show ((w.alloc (Obj.cells (madeCells zcells (m * 64)) 64)).alloc (Obj.cells (madeCells #[Value.bool false] m) 4)).heap.size = w.heap.size + 1 + 1 by simp, made_pages, show (madeCells #[Value.bool false] m).toList = boolCells (List.replicate m none) from by have := made_bools m; rwa [Nat.mul_one] at this] at t3
    have t4 := (t3.pick [2, 0, 1] (l' := [_, _, _]) (by decide) rfl)
    have t5 := Tog.shutFr (x := (some ⟨w.heap.size, 0, none⟩, m)) (y := (some ⟨w.heap.size + 1, 0, none⟩, m)) (B := List.replicate (m * 64) 0) (L := List.replicate m none) t4 (by simp) (by rw [← FL]; exact FrOk.new n) (PgOk.new m)
    rw [FL]
    exact (h.addNew t5).drew⟩)
  have F2 := Lib.hid (show ∀ X : Value, ∃ p, X = X ∧ p = w.heap.size + 1 + 1 ∧ Tog w0 S (((w.alloc (Obj.cells (madeCells #[Value.bool false] m) 4)).alloc (Obj.cells (madeCells zcells (m * 64)) 64)).alloc (Obj.cells #[Value.slice (some ⟨w.heap.size + 1, 0, none⟩) m m, Value.slice (some ⟨w.heap.size, 0, none⟩) m m] 62)).drew (l ++ [kFr p (Fm.new n)]) from fun X => ⟨_, rfl, rfl, by
    have t1 := (Tog.nil w (fun _ => False)).made 4 1 m (madeCells #[Value.bool false] m) (by rw [size_madeCells]; omega) (by unfold maxLen; omega)
    have t2 := t1.made 64 64 m (madeCells zcells (m * 64)) (by rw [size_madeCells]) (by unfold maxLen; omega)
    rw [show (w.alloc (Obj.cells (madeCells #[Value.bool false] m) 4)).heap.size = w.heap.size + 1 by simp] at t2
    have t3 := t2.block (Obj.cells #[Value.slice (some ⟨w.heap.size + 1, 0, none⟩) m m, Value.slice (some ⟨w.heap.size, 0, none⟩) m m] 62)
    rw [show ((w.alloc (Obj.cells (madeCells #[Value.bool false] m) 4)).alloc (Obj.cells (madeCells zcells (m * 64)) 64)).heap.size = w.heap.size + 1 + 1 by simp, made_pages, show (madeCells #[Value.bool false] m).toList = boolCells (List.replicate m none) from by have := made_bools m; rwa [Nat.mul_one] at this] at t3
    have t4 := (t3.pick [2, 1, 0] (l' := [_, _, _]) (by decide) rfl)
    have t5 := Tog.shutFr (x := (some ⟨w.heap.size + 1, 0, none⟩, m)) (y := (some ⟨w.heap.size, 0, none⟩, m)) (B := List.replicate (m * 64) 0) (L := List.replicate m none) t4 (by simp) (by rw [← FL]; exact FrOk.new n) (PgOk.new m)
    rw [FL]
    exact (h.addNew t5).drew⟩)
  clear h hm hn FL
  go_enter Try.func9, Try.ntmps9
  go_upto_region 2 with (fail)
  go_region
  all_goals
    go_wp2
    go_ret
    first
      | (obtain ⟨_, _, rfl, T⟩ := F1.out undef; exact ⟨_, rfl, T⟩)
      | (obtain ⟨_, _, rfl, T⟩ := F2.out undef; exact ⟨_, rfl, T⟩)
end
end Go.Proofs.Ytpabkaihppnddaa
