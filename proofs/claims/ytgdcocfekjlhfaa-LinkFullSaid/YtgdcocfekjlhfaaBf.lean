/-
  PACKAGE link: Copy, Deliver, Drop, Double.
-/
import Derived.Test.YtgdcocfekjlhfaaBe
import Derived.Laws.ResultCell
namespace Go.Proofs.Ytgdcocfekjlhfaa
open Go.RowKit
set_option linter.unusedVariables false
set_option linter.unusedSimpArgs false
set_option maxRecDepth 100000
theorem results_pk {fn : Func} {p u : Tmp} (h : fn.results = #[.cell p 30, .tmp u]) (tmps : Array Value) (w : World) {g : Nat} {c0 c1 : Value} (hp : tmps.getD p undef = .pointer (some ⟨g, 0, none⟩)) (hg : w.heap[g]? = some (.cells #[c0, c1] 30 (0, 0))) :
    (results fn tmps).run Try.prog w = .ok (.tuple #[.agg #[c0, c1], tmps.getD u undef]) w := by
  rw [results_cell_tmp h, hp]
  have hr := run_loadVar_row (P := Try.prog) w g 30 30 #[c0, c1] (0, 0) _ hg Try.underlying30 rfl (by kernel_rfl)
  simp [asAddr, hr]
section
variable {w0 w : World} {S : Nat → Prop} {l : List Kd}
theorem Tog.front {m : List Kd} (h : Tog w0 S w (l ++ m)) : Tog w0 S w l :=
  h.sub id (fun i k hk => by rw [id, List.getElem?_append_left (List.getElem?_eq_some_iff.1 hk).1]; exact hk) (fun _ _ _ _ e => e)
theorem set_same {k : Kd} {i : Nat} (hi : l[i]? = some k) : l.set i k = l := by
  have il : i < l.length := (List.getElem?_eq_some_iff.1 hi).1
  have e : l[i] = k := (List.getElem?_eq_some_iff.1 hi).2
  rw [← e]; exact List.set_getElem_self il
theorem Tog.boxLink {T : TypeId} {s : LS} {a : Option Addr} {c : Nat} (h : Tog w0 S w (l ++ [kPks (.slice a s.L.length c) s.L])) (hle : s.L.length ≤ 500) : Tog w0 S (w.alloc (.cells #[.slice a s.L.length c, .bool s.cut] T)) (l ++ [kLink T w.heap.size s]) := by
  have h1 := h.block (.cells #[.slice a s.L.length c, .bool s.cut] T)
  have h2 : Tog w0 S (w.alloc (.cells #[.slice a s.L.length c, .bool s.cut] T)) (kHeap w.heap.size (.cells #[.slice a s.L.length c, .bool s.cut] T (0, 0)) :: kPks (.slice a s.L.length c) s.L :: l) := by
    refine h1.sub (fun j => match j with | 0 => l.length + 1 | 1 => l.length | j + 2 => j) (fun j k hj => ?_) (fun j k hj hk e => ?_)
    · match j, hj with
      | 0, hj => simpa using hj
      | 1, hj => simpa using hj
      | j + 2, hj =>
        simp at hj
        have := (List.getElem?_eq_some_iff.1 hj).1
        simp only [List.append_assoc]
        rw [List.getElem?_append_left this]; exact hj
    · simp only [List.length_cons] at hj hk
      match j, k, hj, hk, e with
      | 0, 0, _, _, _ => rfl
      | 1, 1, _, _, _ => rfl
      | 0, 1, _, _, e => simp at e
      | 1, 0, _, _, e => simp at e
      | 0, k + 2, _, hk, e => simp at e; omega
      | 1, k + 2, _, hk, e => simp at e; omega
      | j + 2, 0, hj, _, e => simp at e; omega
      | j + 2, 1, hj, _, e => simp at e; omega
      | j + 2, k + 2, _, _, e => simp at e; omega
  have h3 := h2.shutLink s hle
  refine h3.sub (fun j => if j < l.length then j + 1 else 0) (fun j k hj => ?_) (fun j k hj hk e => ?_)
  · by_cases e : j < l.length
    · rw [List.getElem?_append_left e] at hj
      simp only [if_pos e]
      simpa using hj
    · rw [List.getElem?_append_right (by omega)] at hj
      simp only [if_neg e]
      have : j - l.length = 0 := by
        have := (List.getElem?_eq_some_iff.1 hj).1
        simp at this; omega
      rw [this] at hj
      simpa using hj
  · simp at hj hk
    try simp only at e
    split at e <;> split at e <;> omega
theorem Tog.xcopy (h : Tog w0 S w l) {i p : Nat} {s : LS} (hi : l[i]? = some (kLink 53 p s)) : Calls Try.prog 11 #[.pointer (some ⟨p, 0, none⟩)] w fun e w' => ∃ p', e = .returned (.pointer (some ⟨p', 0, none⟩)) ∧ Tog w0 S w' (l ++ [kLink 53 p' s]) := by
  have hle := h.linkLe hi
  have il : i < l.length := (List.getElem?_eq_some_iff.1 hi).1
  obtain ⟨a0, c0, _, c1, _⟩ := h.linkAt hi
  have C := Lib.hid (h.drew.xlist hi)
  have FIN := Lib.hid (show ∀ w1 a c, Tog w0 S w1 (l ++ [kPks (.slice a s.L.length c) s.L]) → Tog w0 S (w1.alloc (.cells #[.slice a s.L.length c, .bool s.cut] 53)) (l ++ [kLink 53 w1.heap.size s]) from fun w1 a c T => by
    exact T.boxLink hle)
  have CC := Lib.hid (fun w1 a c (T : Tog w0 S w1 (l ++ [kPks (.slice a s.L.length c) s.L])) => (T.linkAt (i := i) (p := p) (s := s) (by rw [List.getElem?_append_left il]; exact hi)))
  clear h hi
  go_enter Try.func11, Try.ntmps11
  go_wp2_with fail
  go_region_with (go_at_call 18; refine C.out.mono ?_; rintro e w' ⟨a', c', rfl, t⟩; obtain ⟨_, _, _, c3, _⟩ := CC.out _ _ _ t; have T := Lib.hid t; clear t)
  all_goals
    go_wp2
    go_ret
    exact ⟨_, rfl, FIN.out _ _ _ T.out⟩
set_option maxHeartbeats 1000000 in
theorem Tog.xdeliver (h : Tog w0 S w l) {i p : Nat} {s : LS} (hi : l[i]? = some (kLink 53 p s)) (n : Int) (hn : InI n) : Calls Try.prog 21 #[.pointer (some ⟨p, 0, none⟩), .int .i64 n] w fun e w' => e = .returned (.tuple #[pkVal (s.deliver n).2.1, .int .i64 (s.deliver n).2.2]) ∧ Tog w0 S w' (l.set i (kLink 53 p (s.deliver n).1)) := by
  have hle := h.linkLe hi
  obtain ⟨M, h0, CL⟩ := h.inner hi
  have h1 := h0.block (.cells #[.int .i64 0, .string ⟨#[]⟩] 30)
  have H := Lib.hid (h1.xhas (i := 0) rfl n)
  have x0 := h1.cellAt (j := 1) rfl 0 rfl
  have y0 := h1.fzAt (j := 1) rfl 0
  have h2 := h1.store (j := 1) rfl 0 (.int .i64 0)
  have x1 := h2.cellAt (j := 1) rfl 1 rfl
  have y1 := h2.fzAt (j := 1) rfl 1
  by_cases g : s.has n = true
  · have E : s.deliver n = (s.rem n, s.at n, 0) := by unfold LS.deliver; rw [if_pos g]
    obtain ⟨g1, g2⟩ := LS.has_iff.1 g
    obtain ⟨m, rfl⟩ : ∃ m : Nat, n = m := ⟨n.toNat, by omega⟩
    have hm : m < s.L.length := by omega
    obtain ⟨q1, q2, hq⟩ : ∃ q1 q2, s.L[m]? = some (q1, q2) := ⟨s.L[m].1, s.L[m].2, List.getElem?_eq_getElem hm⟩
    have eat : s.at m = (q1, q2) := by
      unfold LS.at
      rw [show ((m : Int)).toNat = m from rfl, List.getD_eq_getElem?_getD, hq]; rfl
    have erem : (s.rem m).L = s.L.eraseIdx m := rfl
    have elen : (s.L.eraseIdx m).length = s.L.length - 1 := by rw [List.length_eraseIdx_of_lt hm]
    rw [E, eat]
    rw [g] at H
    obtain ⟨a, c, k0⟩ := h0.openLink
    have k1 := k0.block (.cells #[.int .i64 0, .string ⟨#[]⟩] 30)
    obtain ⟨gb, cc, hv, d0, d1⟩ := k1.pkAt (i := 1) rfl hq
    obtain ⟨rfl, rfl⟩ : a = some ⟨gb, 0, none⟩ ∧ c = cc := by simpa using hv
    have p0 := k1.cellAt (j := 0) rfl 0 rfl
    have k2 := k1.block (.cells #[.int .i64 q1, .string q2] 30)
    have p0' := k2.cellAt (j := 0) rfl 0 rfl
    rw [show (w.alloc (.cells #[.int .i64 0, .string ⟨#[]⟩] 30)).heap.size = w.heap.size + 1 by simp] at k2
    have D := Lib.hid (k2.xdelete (j := 1) rfl m hm (by omega))
    have FIN := Lib.hid (show ∀ w', Tog w M w' [kHeap p (.cells #[.slice (some ⟨gb, 0, none⟩) s.L.length c, .bool s.cut] 53 (0, 0)), kPks (.slice (some ⟨gb, 0, none⟩) (s.L.length - 1) c) (s.L.eraseIdx m), kHeap w.heap.size (.cells #[.int .i64 0, .string ⟨#[]⟩] 30 (0, 0)), kHeap (w.heap.size + 1) (.cells #[.int .i64 q1, .string q2] 30 (0, 0))] →
        (w'.frozen? ⟨p, 0, none⟩ = false ∧ (∃ x, w'.cell? ⟨p, 0, none⟩ = some x)) ∧ ((w'.setCell ⟨p, 0, none⟩ (.slice (some ⟨gb, 0, none⟩) (s.L.length - 1) c)).cell? ⟨w.heap.size + 1, 0, none⟩ = some (.int .i64 q1) ∧ (w'.setCell ⟨p, 0, none⟩ (.slice (some ⟨gb, 0, none⟩) (s.L.length - 1) c)).cell? ⟨w.heap.size + 1, 1, none⟩ = some (.string q2)) ∧
        ((w'.setCell ⟨p, 0, none⟩ (.slice (some ⟨gb, 0, none⟩) (s.L.length - 1) c)).frozen? ⟨w.heap.size, 0, none⟩ = false ∧ (w'.setCell ⟨p, 0, none⟩ (.slice (some ⟨gb, 0, none⟩) (s.L.length - 1) c)).cell? ⟨w.heap.size, 0, none⟩ = some (.int .i64 0)) ∧
        (((w'.setCell ⟨p, 0, none⟩ (.slice (some ⟨gb, 0, none⟩) (s.L.length - 1) c)).setCell ⟨w.heap.size, 0, none⟩ (.int .i64 q1)).frozen? ⟨w.heap.size, 1, none⟩ = false ∧ ((w'.setCell ⟨p, 0, none⟩ (.slice (some ⟨gb, 0, none⟩) (s.L.length - 1) c)).setCell ⟨w.heap.size, 0, none⟩ (.int .i64 q1)).cell? ⟨w.heap.size, 1, none⟩ = some (.string ⟨#[]⟩)) ∧
        (((w'.setCell ⟨p, 0, none⟩ (.slice (some ⟨gb, 0, none⟩) (s.L.length - 1) c)).setCell ⟨w.heap.size, 0, none⟩ (.int .i64 q1)).setCell ⟨w.heap.size, 1, none⟩ (.string q2)).heap[w.heap.size]? = some (.cells #[.int .i64 q1, .string q2] 30 (0, 0)) ∧
        Tog w0 S (((w'.setCell ⟨p, 0, none⟩ (.slice (some ⟨gb, 0, none⟩) (s.L.length - 1) c)).setCell ⟨w.heap.size, 0, none⟩ (.int .i64 q1)).setCell ⟨w.heap.size, 1, none⟩ (.string q2)) (l.set i (kLink 53 p (s.rem m))) from fun w' T => by
      have t1 := T.store (j := 0) rfl 0 (.slice (some ⟨gb, 0, none⟩) (s.L.length - 1) c)
      have t2 := t1.store (j := 2) rfl 0 (.int .i64 q1)
      have t3 := t2.store (j := 2) rfl 1 (.string q2)
      refine ⟨⟨T.fzAt (j := 0) rfl 0, _, T.cellAt (j := 0) rfl 0 rfl⟩, ⟨t1.cellAt (j := 3) rfl 0 rfl, t1.cellAt (j := 3) rfl 1 rfl⟩, ⟨t1.fzAt (j := 2) rfl 0, t1.cellAt (j := 2) rfl 0 rfl⟩, ⟨t2.fzAt (j := 2) rfl 1, t2.cellAt (j := 2) rfl 1 rfl⟩, t3.heapAt (j := 2) rfl, ?_⟩
      have t4 := t3.pick [0, 1] (l' := [kHeap p (.cells #[.slice (some ⟨gb, 0, none⟩) (s.L.length - 1) c, .bool s.cut] 53 (0, 0)), kPks (.slice (some ⟨gb, 0, none⟩) (s.L.length - 1) c) (s.L.eraseIdx m)]) (by decide) rfl
      have t5 := CL _ _ [] (t4.shutLink (s.rem m) (by rw [erem, elen]; omega))
      rwa [List.append_nil] at t5)
    have W1 : wrap64 ((m : Int) + 1) = (m : Int) + 1 := by unfold wrap64; omega
    have g3 : (m : Int) < (s.L.length : Int) := by omega
    clear h hi g E h0 h1 h2 k0 k1 k2 hv CL g2 hm hq eat erem elen x0 x1 y0 y1
    go_enter Try.func21, Try.ntmps21
    go_wp2_with (first | (go_at_call 34; refine H.out.mono ?_; rintro e w' ⟨rfl, rfl⟩; clear H) | (go_at_call 35; refine D.out.mono ?_; rintro e w' ⟨rfl, t⟩; obtain ⟨⟨f1, x, f2⟩, ⟨f3, f4⟩, ⟨f5, f6⟩, ⟨f7, f8⟩, f9, f11⟩ := FIN.out _ t; have T := Lib.hid f11; clear t f11 D))
    ((try simp only [Exit.inBlock, Exit.then]); refine bodyPost_ret (results_pk rfl _ _ rfl f9) rfl ?_)
    exact ⟨rfl, T.out⟩
  · have E : s.deliver n = (s, Pk.zero, 4) := by unfold LS.deliver; rw [if_neg g]
    rw [E]
    have g' : s.has n = false := by simpa using g
    rw [g'] at H
    have FIN := Lib.hid (show Tog w0 S (w.alloc (.cells #[.int .i64 0, .string ⟨#[]⟩] 30)) (l.set i (kLink 53 p s)) from by
      have := CL _ _ _ h1
      exact this.front)
    have HZ := Lib.hid (h1.heapAt (j := 1) rfl)
    clear h hi g E h0 h1 h2
    go_enter Try.func21, Try.ntmps21
    go_wp2_with (go_at_call 34; refine H.out.mono ?_; rintro e w' ⟨rfl, rfl⟩)
    ((try simp only [Exit.inBlock, Exit.then]); refine bodyPost_ret (results_pk rfl _ _ rfl HZ.out) rfl ?_)
    exact ⟨rfl, FIN.out⟩
end
end Go.Proofs.Ytgdcocfekjlhfaa
