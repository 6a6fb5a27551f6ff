/-
  PACKAGE link: slices.Clone, Send, Count, IsCut, Cut, Join, List, Copy.
-/
import Derived.Test.YtgdcocfekjlhfaaBd
namespace Go.Proofs.Ytgdcocfekjlhfaa
open Go.RowKit
set_option linter.unusedVariables false
set_option linter.unusedSimpArgs false
set_option maxRecDepth 100000
section
variable {w0 w : World} {S : Nat → Prop} {l : List Kd}
set_option maxHeartbeats 1000000 in
theorem Tog.xclone (h : Tog w0 S w l) {a : Option Addr} {c : Nat} {L : List Pk} (hs : SrcAt w (.slice a L.length c) L.length (pkCells L)) (hl : L.length ≤ 1000) :
    Calls Try.prog 32 #[.slice a L.length c] w fun e w' => ∃ a' c', e = .returned (.slice a' L.length c') ∧ Tog w0 S w' (l ++ [kPks (.slice a' L.length c') L]) := by
  have q22 : ∀ (w : World) (a : Option Addr) (n c n' c' : Nat), (binOp .eql 38 (.slice a n c) (.slice none n' c')).run Try.prog w = .ok (.bool a.isNone) w := fun w a n c n' c' => Lib.run_eql_slice_nil w _ _ a n c n' c' Try.underlying38
  cases a with
  | none =>
    have hL : L = [] := by
      rcases hs with ⟨_, h0, _⟩ | ⟨b, o, c, hv, _⟩
      · exact List.eq_nil_of_length_eq_zero h0
      · simp at hv
    subst hL
    have FIN := Lib.hid (h.nilRow 30 2)
    clear h hs
    go_enter Try.func32, Try.ntmps32
    go_wp2
    go_ret
    exact ⟨none, 0, rfl, FIN.out⟩
  | some ad =>
    have H1 := Lib.hid (h.made 30 2 0 #[] (by simp) (by unfold maxLen; omega))
    have HS := Lib.hid (show SrcAt (w.alloc (.cells #[] 30)) (.slice (some ad) L.length c) L.length (pkCells L) from by
      rcases hs with h1 | ⟨b, o, c, hv, hc⟩
      · exact .inl h1
      · exact .inr ⟨b, o, c, hv, fun j u hj => Lib.cell?_alloc_some _ (hc j u hj)⟩)
    have HL := Lib.hid (show L.length ≤ 100000 by omega)
    have HI := Lib.hid (show (l ++ [kRow 30 2 (.slice (some ⟨w.heap.size, 0, none⟩) 0 0) 0 []])[l.length]? = some (kPks (.slice (some ⟨w.heap.size, 0, none⟩) 0 0) []) from by simp [kPks, pkCells])
    clear h hs
    go_enter Try.func32, Try.ntmps32
    go_wp2_with (at_builtin; refine H1.out.list_pks rfl _ _ rfl l.length HI.out (M := L) HS.out rfl rfl L.length (by simp) HL.out ?_; intro a' c' w' T hs')
    have FIN := Lib.hid T
    clear T
    go_wp2
    go_ret
    refine ⟨a', c', by simp, ?_⟩
    have T := FIN.out
    simpa using T
theorem Tog.xsend (h : Tog w0 S w l) {i p : Nat} {s : LS} (hi : l[i]? = some (kLink 53 p s)) (f : Int) (b : ByteArray) (hf : InI f) : Calls Try.prog 20 #[.pointer (some ⟨p, 0, none⟩), .int .i64 f, .string b] w fun e w' => e = .returned (.int .i64 (s.send f b).2) ∧ Tog w0 S w' (l.set i (kLink 53 p (s.send f b).1)) := by
  obtain ⟨a, c, _, c1, _⟩ := h.linkAt hi
  have il : i < l.length := (List.getElem?_eq_some_iff.1 hi).1
  have same : l.set i (kLink 53 p s) = l := by
    have e : l[i] = kLink 53 p s := (List.getElem?_eq_some_iff.1 hi).2
    rw [← e]; exact List.set_getElem_self il
  by_cases g : f ≠ 0 ∧ f ≠ 1
  · have E : s.send f b = (s, 1) := by unfold LS.send; rw [if_pos g]
    rw [E]
    have FIN := Lib.hid (show Tog w0 S w (l.set i (kLink 53 p s)) by rw [same]; exact h)
    have e0 : (f != 0) = true := by simpa using g.1
    have e1 : (f != 1) = true := by simpa using g.2
    have e0' : (f == 0) = false := by simpa using g.1
    have e1' : (f == 1) = false := by simpa using g.2
    clear h hi same E g
    go_enter Try.func20, Try.ntmps20
    go_wp2
    go_ret
    exact ⟨rfl, FIN.out⟩
  · have g' : f = 0 ∨ f = 1 := by omega
    by_cases hc : s.cut = true
    · have E : s.send f b = (s, 28) := by unfold LS.send; rw [if_neg g, if_pos hc]
      rw [E]
      have FIN := Lib.hid (show Tog w0 S w (l.set i (kLink 53 p s)) by rw [same]; exact h)
      rw [hc] at c1
      clear h hi same E g
      rcases g' with rfl | rfl
      · go_enter Try.func20, Try.ntmps20
        go_wp2
        go_ret
        exact ⟨rfl, FIN.out⟩
      · go_enter Try.func20, Try.ntmps20
        go_wp2
        go_ret
        exact ⟨rfl, FIN.out⟩
    · have hc' : s.cut = false := by simpa using hc
      have E : s.send f b = s.add (1 - f, b) := by unfold LS.send; rw [if_neg g, if_neg hc]
      rw [E]
      have C := Lib.hid (h.xadd hi (1 - f) b)
      rw [hc'] at c1
      clear h hi same E g
      rcases g' with rfl | rfl
      · go_enter Try.func20, Try.ntmps20
        go_wp2_with (go_at_call 33; refine C.out.mono ?_; rintro e w' ⟨rfl, t⟩; have T := Lib.hid t; clear t)
        go_wp2
        go_ret
        exact ⟨rfl, T.out⟩
      · go_enter Try.func20, Try.ntmps20
        go_wp2_with (go_at_call 33; refine C.out.mono ?_; rintro e w' ⟨rfl, t⟩; have T := Lib.hid t; clear t)
        go_wp2
        go_ret
        exact ⟨rfl, T.out⟩
theorem Tog.xcount (h : Tog w0 S w l) {i p : Nat} {s : LS} (hi : l[i]? = some (kLink 53 p s)) : Calls Try.prog 15 #[.pointer (some ⟨p, 0, none⟩)] w fun e w' => e = .returned (.int .i64 s.L.length) ∧ w = w' := by
  obtain ⟨a, c, c0, _, _⟩ := h.linkAt hi
  have hle := h.linkLe hi
  clear h hi
  go_enter Try.func15, Try.ntmps15
  go_wp2
  go_ret
  exact ⟨rfl, rfl⟩
theorem Tog.xiscut (h : Tog w0 S w l) {i p : Nat} {s : LS} (hi : l[i]? = some (kLink 53 p s)) : Calls Try.prog 16 #[.pointer (some ⟨p, 0, none⟩)] w fun e w' => e = .returned (.bool s.cut) ∧ w = w' := by
  obtain ⟨a, c, _, c1, _⟩ := h.linkAt hi
  clear h hi
  go_enter Try.func16, Try.ntmps16
  go_wp2
  go_ret
  exact ⟨rfl, rfl⟩
theorem Tog.xjoin (h : Tog w0 S w l) {i p : Nat} {s : LS} (hi : l[i]? = some (kLink 53 p s)) : Calls Try.prog 25 #[.pointer (some ⟨p, 0, none⟩)] w fun e w' => e = .returned (.tuple #[]) ∧ Tog w0 S w' (l.set i (kLink 53 p s.join)) := by
  have hle := h.linkLe hi
  obtain ⟨M, h1, CL⟩ := h.inner hi
  obtain ⟨a, c, h2⟩ := h1.openLink
  have c1 := h2.cellAt (j := 0) rfl 1 rfl
  have f1 := h2.fzAt (j := 0) rfl 1
  have FIN := Lib.hid (show Tog w0 S (w.setCell ⟨p, 1, none⟩ (.bool false)) (l.set i (kLink 53 p s.join)) from by
    have := CL _ _ [] ((h2.store (j := 0) rfl 1 (.bool false)).shutLink s.join hle)
    rwa [List.append_nil] at this)
  clear h hi CL h1 h2
  go_enter Try.func25, Try.ntmps25
  go_wp2
  go_end0
  exact ⟨rfl, FIN.out⟩
theorem Tog.xcut (h : Tog w0 S w l) {i p : Nat} {s : LS} (hi : l[i]? = some (kLink 53 p s)) : Calls Try.prog 24 #[.pointer (some ⟨p, 0, none⟩)] w fun e w' => e = .returned (.tuple #[]) ∧ Tog w0 S w' (l.set i (kLink 53 p s.cutS)) := by
  have hle := h.linkLe hi
  obtain ⟨M, h1, CL⟩ := h.inner hi
  obtain ⟨a, c, h2⟩ := h1.openLink
  have h3 := h2.store (j := 0) rfl 1 (.bool true)
  have c1 := h2.cellAt (j := 0) rfl 1 rfl
  have f1 := h2.fzAt (j := 0) rfl 1
  have c0 := h3.cellAt (j := 0) rfl 0 rfl
  have f0 := h3.fzAt (j := 0) rfl 0
  have FIN := Lib.hid (show Tog w0 S ((w.setCell ⟨p, 1, none⟩ (.bool true)).setCell ⟨p, 0, none⟩ (.slice none 0 0)) (l.set i (kLink 53 p s.cutS)) from by
    have h4 := h3.store (j := 0) rfl 0 (.slice none 0 0)
    have h5 := (h4.nilRow 30 2).pick [0, 2] (l' := [kHeap p (.cells #[.slice none 0 0, .bool true] 53 (0, 0)), kPks (.slice none 0 0) []]) (by decide) rfl
    have := CL _ _ [] (h5.shutLink s.cutS (by simp [LS.cutS]))
    rwa [List.append_nil] at this)
  clear h hi CL h1 h2 h3
  go_enter Try.func24, Try.ntmps24
  go_wp2
  go_end0
  exact ⟨rfl, FIN.out⟩
theorem Tog.xlist (h : Tog w0 S w l) {i p : Nat} {s : LS} (hi : l[i]? = some (kLink 53 p s)) : Calls Try.prog 18 #[.pointer (some ⟨p, 0, none⟩)] w fun e w' => ∃ a c, e = .returned (.slice a s.L.length c) ∧ Tog w0 S w' (l ++ [kPks (.slice a s.L.length c) s.L]) := by
  obtain ⟨a, c, c0, _, hs⟩ := h.linkAt hi
  have hle := h.linkLe hi
  have C := Lib.hid (h.xclone hs (by omega))
  clear h hi hs
  go_enter Try.func18, Try.ntmps18
  go_wp2_with (go_at_call 32; refine C.out.mono ?_; rintro e w' ⟨a', c', rfl, t⟩; have T := Lib.hid t; clear t)
  go_wp2
  go_ret
  exact ⟨a', c', rfl, T.out⟩
end
end Go.Proofs.Ytgdcocfekjlhfaa
