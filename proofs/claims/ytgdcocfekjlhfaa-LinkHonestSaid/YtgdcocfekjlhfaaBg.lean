/-
  PACKAGE link: Drop, Double. THE REFERENCE: New, there, remove, Send, Deliver.
-/
import Derived.Test.YtgdcocfekjlhfaaBf
namespace Go.Proofs.Ytgdcocfekjlhfaa
open Go.RowKit
set_option linter.unusedVariables false
set_option linter.unusedSimpArgs false
set_option maxRecDepth 100000
section
variable {w0 w : World} {S : Nat → Prop} {l : List Kd}
theorem Tog.xdrop (h : Tog w0 S w l) {i p : Nat} {s : LS} (hi : l[i]? = some (kLink 53 p s)) (n : Int) (hn : InI n) : Calls Try.prog 23 #[.pointer (some ⟨p, 0, none⟩), .int .i64 n] w fun e w' => e = .returned (.int .i64 (s.drop n).2) ∧ Tog w0 S w' (l.set i (kLink 53 p (s.drop n).1)) := by
  unfold LS.drop
  have D := Lib.hid (h.xdeliver hi n hn)
  generalize s.deliver n = R at *
  obtain ⟨s', q, e⟩ := R
  obtain ⟨q1, q2⟩ := q
  simp only [pkVal] at D ⊢
  clear h hi
  go_enter Try.func23, Try.ntmps23
  go_wp2_with (go_at_call 21; refine D.out.mono ?_; rintro e w' ⟨rfl, t⟩; have T := Lib.hid (t.alloc (.cells #[.int .i64 q1, .string q2] 30)); clear t)
  go_ret
  exact ⟨rfl, T.out⟩
theorem Tog.xdouble (h : Tog w0 S w l) {i p : Nat} {s : LS} (hi : l[i]? = some (kLink 53 p s)) (n : Int) (hn : InI n) : Calls Try.prog 22 #[.pointer (some ⟨p, 0, none⟩), .int .i64 n] w fun e w' => e = .returned (.int .i64 (s.double n).2) ∧ Tog w0 S w' (l.set i (kLink 53 p (s.double n).1)) := by
  have H := Lib.hid (h.xhas hi n)
  by_cases g : s.has n = true
  · have E : s.double n = s.add (s.at n) := by unfold LS.double; rw [if_pos g]
    obtain ⟨g1, g2⟩ := LS.has_iff.1 g
    obtain ⟨m, rfl⟩ : ∃ m : Nat, n = m := ⟨n.toNat, by omega⟩
    have hm : m < s.L.length := by omega
    obtain ⟨q1, q2, hq⟩ : ∃ q1 q2, s.L[m]? = some (q1, q2) := ⟨s.L[m].1, s.L[m].2, List.getElem?_eq_getElem hm⟩
    have eat : s.at m = (q1, q2) := by
      unfold LS.at
      rw [show ((m : Int)).toNat = m from rfl, List.getD_eq_getElem?_getD, hq]; rfl
    rw [E, eat]
    rw [g] at H
    have A := Lib.hid (h.xadd hi q1 q2)
    obtain ⟨M, h0, _⟩ := h.inner hi
    obtain ⟨a, c, k0⟩ := h0.openLink
    obtain ⟨gb, cc, hv, d0, d1⟩ := k0.pkAt (i := 1) rfl hq
    obtain ⟨rfl, rfl⟩ : a = some ⟨gb, 0, none⟩ ∧ c = cc := by simpa using hv
    have p0 := k0.cellAt (j := 0) rfl 0 rfl
    clear h hi h0 k0 hv E eat hq g
    go_enter Try.func22, Try.ntmps22
    go_wp2_with (first | (go_at_call 34; refine H.out.mono ?_; rintro e w' ⟨rfl, rfl⟩; clear H) | (go_at_call 33; refine A.out.mono ?_; rintro e w' ⟨rfl, t⟩; have T := Lib.hid t; clear t))
    go_ret
    exact ⟨rfl, T.out⟩
  · have E : s.double n = (s, 4) := by unfold LS.double; rw [if_neg g]
    have g' : s.has n = false := by simpa using g
    rw [g'] at H
    rw [E]
    have FIN := Lib.hid (show Tog w0 S w (l.set i (kLink 53 p s)) by rw [set_same hi]; exact h)
    clear h hi E g
    go_enter Try.func22, Try.ntmps22
    go_wp2_with (go_at_call 34; refine H.out.mono ?_; rintro e w' ⟨rfl, rfl⟩)
    go_ret
    exact ⟨rfl, FIN.out⟩
theorem Tog.rnew (h : Tog w0 S w l) : Calls Try.prog 9 #[] w fun e w' => ∃ p, e = .returned (.pointer (some ⟨p, 0, none⟩)) ∧ Tog w0 S w' (l ++ [kLink 40 p LS.new]) := by
  have FIN := Lib.hid (show Tog w0 S (w.alloc (.cells #[.slice none 0 0, .bool false] 40)) (l ++ [kLink 40 w.heap.size LS.new]) from by
    refine h.add ⟨fun b => b = w.heap.size, ⟨by simp [LS.new], .slice none 0 0, heap_alloc_new w _, World.ownsRow_nil _ _ _ _, by simp [Value.ownBlock], fun b => by simp [Value.ownBlock]⟩, fun b hb => by rw [hb]; exact Nat.le_refl _⟩ ((Below.refl _ w).alloc (Nat.le_refl _) _))
  clear h
  go_enter Try.func9, Try.ntmps9
  go_wp2
  go_ret
  exact ⟨_, rfl, FIN.out⟩
theorem Tog.rthere (h : Tog w0 S w l) {i p : Nat} {s : LS} (hi : l[i]? = some (kLink 40 p s)) (n : Int) : Calls Try.prog 36 #[.pointer (some ⟨p, 0, none⟩), .int .i64 n] w fun e w' => e = .returned (.bool (s.has n)) ∧ w = w' := by
  obtain ⟨a, c, c0, _, _⟩ := h.linkAt hi
  have hle := h.linkLe hi
  unfold LS.has
  clear h hi
  go_enter Try.func36, Try.ntmps36
  by_cases g1 : 0 ≤ n
  · by_cases g2 : n < s.L.length
    · go_wp2
      go_ret
      simp [g1, g2]
    · go_wp2
      go_ret
      simp [g1, g2]
  · go_wp2
    go_ret
    simp [show ¬ 0 ≤ n by omega]
theorem Tog.rjoin (h : Tog w0 S w l) {i p : Nat} {s : LS} (hi : l[i]? = some (kLink 40 p s)) : Calls Try.prog 30 #[.pointer (some ⟨p, 0, none⟩)] w fun e w' => e = .returned (.tuple #[]) ∧ Tog w0 S w' (l.set i (kLink 40 p s.join)) := by
  have hle := h.linkLe hi
  obtain ⟨M, h1, CL⟩ := h.inner hi
  obtain ⟨a, c, h2⟩ := h1.openLink
  have c1 := h2.cellAt (j := 0) rfl 1 rfl
  have f1 := h2.fzAt (j := 0) rfl 1
  have FIN := Lib.hid (show Tog w0 S (w.setCell ⟨p, 1, none⟩ (.bool false)) (l.set i (kLink 40 p s.join)) from by
    have := CL _ _ [] ((h2.store (j := 0) rfl 1 (.bool false)).shutLink s.join hle)
    rwa [List.append_nil] at this)
  clear h hi CL h1 h2
  go_enter Try.func30, Try.ntmps30
  go_wp2
  go_end0
  exact ⟨rfl, FIN.out⟩
theorem Tog.rcut (h : Tog w0 S w l) {i p : Nat} {s : LS} (hi : l[i]? = some (kLink 40 p s)) : Calls Try.prog 29 #[.pointer (some ⟨p, 0, none⟩)] w fun e w' => e = .returned (.tuple #[]) ∧ Tog w0 S w' (l.set i (kLink 40 p s.cutS)) := by
  have hle := h.linkLe hi
  obtain ⟨M, h1, CL⟩ := h.inner hi
  obtain ⟨a, c, h2⟩ := h1.openLink
  have h3 := h2.store (j := 0) rfl 1 (.bool true)
  have c1 := h2.cellAt (j := 0) rfl 1 rfl
  have f1 := h2.fzAt (j := 0) rfl 1
  have c0 := h3.cellAt (j := 0) rfl 0 rfl
  have f0 := h3.fzAt (j := 0) rfl 0
  have FIN := Lib.hid (show Tog w0 S ((w.setCell ⟨p, 1, none⟩ (.bool true)).setCell ⟨p, 0, none⟩ (.slice none 0 0)) (l.set i (kLink 40 p s.cutS)) from by
    have h4 := h3.store (j := 0) rfl 0 (.slice none 0 0)
    have h5 := (h4.nilRow 30 2).pick [0, 2] (l' := [kHeap p (.cells #[.slice none 0 0, .bool true] 40 (0, 0)), kPks (.slice none 0 0) []]) (by decide) rfl
    have := CL _ _ [] (h5.shutLink s.cutS (by simp [LS.cutS]))
    rwa [List.append_nil] at this)
  clear h hi CL h1 h2 h3
  go_enter Try.func29, Try.ntmps29
  go_wp2
  go_end0
  exact ⟨rfl, FIN.out⟩
end
end Go.Proofs.Ytgdcocfekjlhfaa
