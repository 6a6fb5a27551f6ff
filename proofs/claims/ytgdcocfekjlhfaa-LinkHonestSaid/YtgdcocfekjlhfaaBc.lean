/-
  PACKAGE link: New, has, add, Send, Count, IsCut, Cut, Join.
-/
import Derived.Test.YtgdcocfekjlhfaaBb
namespace Go.Proofs.Ytgdcocfekjlhfaa
open Go.RowKit
set_option linter.unusedVariables false
set_option linter.unusedSimpArgs false
set_option maxRecDepth 100000
section
variable {w0 w : World} {S : Nat → Prop} {l : List Kd}
/-- A link in a list of things, by its cells. -/
theorem Tog.linkAt (h : Tog w0 S w l) {T : TypeId} {i p : Nat} {s : LS} (hi : l[i]? = some (kLink T p s)) : ∃ (a : Option Addr) (c : Nat), w.cell? ⟨p, 0, none⟩ = some (.slice a s.L.length c) ∧ w.cell? ⟨p, 1, none⟩ = some (.bool s.cut) ∧ SrcAt w (.slice a s.L.length c) s.L.length (pkCells s.L) := by
  obtain ⟨M, h1, _⟩ := h.inner hi
  obtain ⟨a, c, h2⟩ := h1.openLink
  exact ⟨a, c, h2.cellAt (j := 0) rfl 0 rfl, h2.cellAt (j := 0) rfl 1 rfl, h2.srcPks (i := 1) rfl⟩
theorem Tog.xnew (h : Tog w0 S w l) : Calls Try.prog 8 #[] w fun e w' => ∃ p, e = .returned (.pointer (some ⟨p, 0, none⟩)) ∧ Tog w0 S w' (l ++ [kLink 53 p LS.new]) := by
  have FIN := Lib.hid (show Tog w0 S (w.alloc (.cells #[.slice none 0 0, .bool false] 53)) (l ++ [kLink 53 w.heap.size LS.new]) from by
    refine h.add ⟨fun b => b = w.heap.size, ⟨by simp [LS.new], .slice none 0 0, heap_alloc_new w _, World.ownsRow_nil _ _ _ _, by simp [Value.ownBlock], fun b => by simp [Value.ownBlock]⟩, fun b hb => by rw [hb]; exact Nat.le_refl _⟩ ((Below.refl _ w).alloc (Nat.le_refl _) _))
  clear h
  go_enter Try.func8, Try.ntmps8
  go_wp2
  go_ret
  exact ⟨_, rfl, FIN.out⟩
theorem Tog.xhas (h : Tog w0 S w l) {i p : Nat} {s : LS} (hi : l[i]? = some (kLink 53 p s)) (n : Int) : Calls Try.prog 34 #[.pointer (some ⟨p, 0, none⟩), .int .i64 n] w fun e w' => e = .returned (.bool (s.has n)) ∧ w = w' := by
  obtain ⟨a, c, c0, _, _⟩ := h.linkAt hi
  have hle := h.linkLe hi
  unfold LS.has
  clear h hi
  go_enter Try.func34, Try.ntmps34
  by_cases g1 : 0 ≤ n
  · by_cases g2 : n < s.L.length
    · go_wp2
      go_ret
      simp [g1, g2]
    · go_wp2
      go_ret
      simp [g1, g2]
  · go_wp2
    go_ret
    simp [show ¬ 0 ≤ n by omega]
theorem Tog.xadd (h : Tog w0 S w l) {i p : Nat} {s : LS} (hi : l[i]? = some (kLink 53 p s)) (q1 : Int) (q2 : ByteArray) : Calls Try.prog 33 #[.pointer (some ⟨p, 0, none⟩), .agg #[.int .i64 q1, .string q2]] w fun e w' => e = .returned (.int .i64 (s.add (q1, q2)).2) ∧ Tog w0 S w' (l.set i (kLink 53 p (s.add (q1, q2)).1)) := by
  have hle := h.linkLe hi
  obtain ⟨M, h1, CL⟩ := h.inner hi
  obtain ⟨a, c, h2⟩ := h1.openLink
  have W1 := h2.alloc (.cells #[.int .i64 q1, .string q2] 30)
  have c0 := W1.cellAt (j := 0) rfl 0 rfl
  by_cases g : 500 ≤ s.L.length
  · have FIN := Lib.hid (show Tog w0 S (w.alloc (.cells #[.int .i64 q1, .string q2] 30)) (l.set i (kLink 53 p (s.add (q1, q2)).1)) from by
      unfold LS.add; rw [if_pos g]
      have := CL _ _ [] (W1.shutLink s hle)
      rwa [List.append_nil] at this)
    have E := Lib.hid (show (s.add (q1, q2)).2 = 6 by unfold LS.add; rw [if_pos g])
    rw [E.out]
    have g1 : (500 : Int) ≤ (s.L.length : Int) := by omega
    clear h hi CL h1 h2 W1 E
    go_enter Try.func33, Try.ntmps33
    go_wp2
    go_ret
    exact ⟨rfl, FIN.out⟩
  · have FIN := Lib.hid (show ∀ v w3, Tog w M w3 [kHeap p (.cells #[v, .bool s.cut] 53 (0, 0)), kPks v (s.L ++ [(q1, q2)])] → Tog w0 S w3 (l.set i (kLink 53 p (s.add (q1, q2)).1)) from fun v w3 T => by
      unfold LS.add; rw [if_neg g]
      have := CL _ _ [] (T.shutLink ⟨s.L ++ [(q1, q2)], s.cut⟩ (by simp; omega))
      rwa [List.append_nil] at this)
    have E := Lib.hid (show (s.add (q1, q2)).2 = 0 by unfold LS.add; rw [if_neg g])
    rw [E.out]
    have g1 : ¬ (500 : Int) ≤ (s.L.length : Int) := by omega
    have b0 : (w.alloc (.cells #[.int .i64 q1, .string q2] 30)).heap[w.heap.size]? = some (.cells #[.int .i64 q1, .string q2] 30 (0, 0)) := heap_alloc_new w _
    have d0 := (W1.alloc (.cells #[.int .i64 q1, .string q2] 30)).cellAt (j := 0) rfl 0 rfl
    have T := Lib.hid W1
    have GL := Lib.hid (show s.L.length ≤ 100000 by omega)
    clear h hi CL h1 h2 W1 E g
    go_enter Try.func33, Try.ntmps33
    go_wp2
    go_region_law ((refine T.out.drew.step_pk (by rfl) _ _ (by rfl) 1 rfl (q1, q2) (by rfl) (by rfl) (by simp) GL.out ?_; intro a3 c3 w3 T3 hs; have t0 := T3.cellAt (j := 0) rfl 0 rfl; have f0 := T3.fzAt (j := 0) rfl 0; have TT := Lib.hid T3; clear T3))
    all_goals
      go_wp2
      go_ret
      exact ⟨rfl, FIN.out _ _ (TT.out.store (j := 0) rfl 0 _)⟩
end
end Go.Proofs.Ytgdcocfekjlhfaa
