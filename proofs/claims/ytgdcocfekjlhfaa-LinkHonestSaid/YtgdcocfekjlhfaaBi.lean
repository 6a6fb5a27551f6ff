/-
  THE REFERENCE: Deliver, Drop, Send, Double, Copy.
-/
import Derived.Test.YtgdcocfekjlhfaaBh
namespace Go.Proofs.Ytgdcocfekjlhfaa
open Go.RowKit
set_option linter.unusedVariables false
set_option linter.unusedSimpArgs false
set_option maxRecDepth 100000
section
variable {w0 w : World} {S : Nat → Prop} {l : List Kd}
theorem LS.at_nat {s : LS} {m : Nat} {q : Pk} (hq : s.L[m]? = some q) : s.at m = q := by
  unfold LS.at
  rw [show ((m : Int)).toNat = m from rfl, List.getD_eq_getElem?_getD, hq]; rfl
set_option maxHeartbeats 1000000 in
theorem Tog.rdeliver (h : Tog w0 S w l) {i p : Nat} {s : LS} (hi : l[i]? = some (kLink 40 p s)) (n : Int) : Calls Try.prog 26 #[.pointer (some ⟨p, 0, none⟩), .int .i64 n] w fun e w' => e = .returned (.tuple #[pkVal (s.deliver n).2.1, .int .i64 (s.deliver n).2.2]) ∧ Tog w0 S w' (l.set i (kLink 40 p (s.deliver n).1)) := by
  have hle := h.linkLe hi
  obtain ⟨M, h0, CL⟩ := h.inner hi
  have h1 := h0.block (.cells #[.int .i64 0, .string ⟨#[]⟩] 30)
  have H := Lib.hid (h1.rthere (i := 0) rfl n)
  by_cases g : s.has n = true
  · have E : s.deliver n = (s.rem n, s.at n, 0) := by unfold LS.deliver; rw [if_pos g]
    obtain ⟨g1, g2⟩ := LS.has_iff.1 g
    obtain ⟨m, rfl⟩ : ∃ m : Nat, n = m := ⟨n.toNat, by omega⟩
    have hm : m < s.L.length := by omega
    obtain ⟨q1, q2, hq⟩ : ∃ q1 q2, s.L[m]? = some (q1, q2) := ⟨s.L[m].1, s.L[m].2, List.getElem?_eq_getElem hm⟩
    rw [E, LS.at_nat hq]
    rw [g] at H
    obtain ⟨a, c, c0, _, sr⟩ := h1.linkAt (i := 0) rfl
    have k2 := h1.block (.cells #[.int .i64 q1, .string q2] 30)
    rw [show (w.alloc (.cells #[.int .i64 0, .string ⟨#[]⟩] 30)).heap.size = w.heap.size + 1 by simp] at k2
    obtain ⟨e1, e2⟩ := pkCells_at s.L m _ hq
    obtain ⟨gb, rfl, d0, d1⟩ : ∃ gb, a = some ⟨gb, 0, none⟩ ∧ (w.alloc (.cells #[.int .i64 0, .string ⟨#[]⟩] 30)).cell? ⟨gb, m * 2, none⟩ = some (.int .i64 q1) ∧ (w.alloc (.cells #[.int .i64 0, .string ⟨#[]⟩] 30)).cell? ⟨gb, m * 2 + 1, none⟩ = some (.string q2) := by
      obtain ⟨a2, c2, k0⟩ := h0.openLink
      have k1 := k0.block (.cells #[.int .i64 0, .string ⟨#[]⟩] 30)
      obtain ⟨gb, cc, hv, d0, d1⟩ := k1.pkAt (i := 1) rfl hq
      have c0' := k1.cellAt (j := 0) rfl 0 rfl
      rw [c0] at c0'
      simp only [List.getElem_toArray, List.getElem_cons_zero, Option.some.injEq] at c0'
      rw [hv] at c0'
      obtain ⟨rfl, rfl⟩ : a = some ⟨gb, 0, none⟩ ∧ c = cc := by simpa using c0'
      exact ⟨gb, rfl, d0, d1⟩
    have D := Lib.hid (k2.rremove (i := 0) rfl m hm)
    have FIN := Lib.hid (show ∀ w', Tog w M w' [kLink 40 p (s.rem m), kHeap w.heap.size (.cells #[.int .i64 0, .string ⟨#[]⟩] 30 (0, 0)), kHeap (w.heap.size + 1) (.cells #[.int .i64 q1, .string q2] 30 (0, 0))] →
        (w'.cell? ⟨w.heap.size + 1, 0, none⟩ = some (.int .i64 q1) ∧ w'.cell? ⟨w.heap.size + 1, 1, none⟩ = some (.string q2)) ∧
        (w'.frozen? ⟨w.heap.size, 0, none⟩ = false ∧ w'.cell? ⟨w.heap.size, 0, none⟩ = some (.int .i64 0)) ∧
        ((w'.setCell ⟨w.heap.size, 0, none⟩ (.int .i64 q1)).frozen? ⟨w.heap.size, 1, none⟩ = false ∧ (w'.setCell ⟨w.heap.size, 0, none⟩ (.int .i64 q1)).cell? ⟨w.heap.size, 1, none⟩ = some (.string ⟨#[]⟩)) ∧
        ((w'.setCell ⟨w.heap.size, 0, none⟩ (.int .i64 q1)).setCell ⟨w.heap.size, 1, none⟩ (.string q2)).heap[w.heap.size]? = some (.cells #[.int .i64 q1, .string q2] 30 (0, 0)) ∧
        Tog w0 S ((w'.setCell ⟨w.heap.size, 0, none⟩ (.int .i64 q1)).setCell ⟨w.heap.size, 1, none⟩ (.string q2)) (l.set i (kLink 40 p (s.rem m))) from fun w' T => by
      have t2 := T.store (j := 1) rfl 0 (.int .i64 q1)
      have t3 := t2.store (j := 1) rfl 1 (.string q2)
      exact ⟨⟨T.cellAt (j := 2) rfl 0 rfl, T.cellAt (j := 2) rfl 1 rfl⟩, ⟨T.fzAt (j := 1) rfl 0, T.cellAt (j := 1) rfl 0 rfl⟩, ⟨t2.fzAt (j := 1) rfl 1, t2.cellAt (j := 1) rfl 1 rfl⟩, t3.heapAt (j := 1) rfl, (CL _ _ _ t3).front⟩)
    have g3 : (m : Int) < (s.L.length : Int) := by omega
    clear h hi g E h0 h1 k2 CL g2 hm hq sr e1 e2
    go_enter Try.func26, Try.ntmps26
    go_wp2_with (first | (go_at_call 36; refine H.out.mono ?_; rintro e w' ⟨rfl, rfl⟩; clear H) | (go_at_call 37; refine D.out.mono ?_; rintro e w' ⟨rfl, t⟩; obtain ⟨⟨f3, f4⟩, ⟨f5, f6⟩, ⟨f7, f8⟩, f9, f11⟩ := FIN.out _ t; have T := Lib.hid f11; clear t f11 D))
    ((try simp only [Exit.inBlock, Exit.then]); refine bodyPost_ret (results_pk rfl _ _ rfl f9) rfl ?_)
    exact ⟨rfl, T.out⟩
  · have E : s.deliver n = (s, Pk.zero, 4) := by unfold LS.deliver; rw [if_neg g]
    rw [E]
    have g' : s.has n = false := by simpa using g
    rw [g'] at H
    have FIN := Lib.hid (show Tog w0 S (w.alloc (.cells #[.int .i64 0, .string ⟨#[]⟩] 30)) (l.set i (kLink 40 p s)) from by
      have := CL _ _ _ h1
      exact this.front)
    have HZ := Lib.hid (h1.heapAt (j := 1) rfl)
    clear h hi g E h0 h1
    go_enter Try.func26, Try.ntmps26
    go_wp2_with (go_at_call 36; refine H.out.mono ?_; rintro e w' ⟨rfl, rfl⟩)
    ((try simp only [Exit.inBlock, Exit.then]); refine bodyPost_ret (results_pk rfl _ _ rfl HZ.out) rfl ?_)
    exact ⟨rfl, FIN.out⟩
theorem Tog.rdrop (h : Tog w0 S w l) {i p : Nat} {s : LS} (hi : l[i]? = some (kLink 40 p s)) (n : Int) : Calls Try.prog 27 #[.pointer (some ⟨p, 0, none⟩), .int .i64 n] w fun e w' => e = .returned (.int .i64 (s.drop n).2) ∧ Tog w0 S w' (l.set i (kLink 40 p (s.drop n).1)) := by
  have H := Lib.hid (h.rthere hi n)
  by_cases g : s.has n = true
  · have E : s.drop n = (s.rem n, 0) := by unfold LS.drop LS.deliver; rw [if_pos g]
    obtain ⟨g1, g2⟩ := LS.has_iff.1 g
    obtain ⟨m, rfl⟩ : ∃ m : Nat, n = m := ⟨n.toNat, by omega⟩
    rw [E]
    rw [g] at H
    have D := Lib.hid (h.rremove hi m (by omega))
    clear h hi g E g2
    go_enter Try.func27, Try.ntmps27
    go_wp2_with (first | (go_at_call 36; refine H.out.mono ?_; rintro e w' ⟨rfl, rfl⟩; clear H) | (go_at_call 37; refine D.out.mono ?_; rintro e w' ⟨rfl, t⟩; have T := Lib.hid t; clear t))
    go_ret
    exact ⟨rfl, T.out⟩
  · have E : s.drop n = (s, 4) := by unfold LS.drop LS.deliver; rw [if_neg g]
    have g' : s.has n = false := by simpa using g
    rw [g'] at H
    rw [E]
    have FIN := Lib.hid (show Tog w0 S w (l.set i (kLink 40 p s)) by rw [set_same hi]; exact h)
    clear h hi E g
    go_enter Try.func27, Try.ntmps27
    go_wp2_with (go_at_call 36; refine H.out.mono ?_; rintro e w' ⟨rfl, rfl⟩)
    go_ret
    exact ⟨rfl, FIN.out⟩
/-- What the two appends of the reference leave. -/
theorem Tog.radd_fin (h : Tog w0 S w l) {i p : Nat} {s : LS} (hi : l[i]? = some (kLink 40 p s)) (hlt : s.L.length < 500) (q1 : Int) (q2 : ByteArray) : ∃ (M : Nat → Prop) (a : Option Addr) (c : Nat), Tog w M (w.alloc (.cells #[] 30)) [kHeap p (.cells #[.slice a s.L.length c, .bool s.cut] 40 (0, 0)), kPks (.slice a s.L.length c) s.L, kPks (.slice (some ⟨w.heap.size, 0, none⟩) 0 0) []] ∧
    Tog w M w [kHeap p (.cells #[.slice a s.L.length c, .bool s.cut] 40 (0, 0)), kPks (.slice a s.L.length c) s.L] ∧
    ∀ w' v', Tog w M w' [kHeap p (.cells #[.slice a s.L.length c, .bool s.cut] 40 (0, 0)), kPks (.slice a s.L.length c) s.L, kPks v' ([] ++ s.L ++ [(q1, q2)])] →
      w'.cell? ⟨p, 0, none⟩ = some (.slice a s.L.length c) ∧ w'.frozen? ⟨p, 0, none⟩ = false ∧ Tog w0 S (w'.setCell ⟨p, 0, none⟩ v') (l.set i (kLink 40 p (s.add (q1, q2)).1)) := by
  obtain ⟨M, h0, CL⟩ := h.inner hi
  obtain ⟨a, c, h1⟩ := h0.openLink
  refine ⟨M, a, c, h1.made 30 2 0 #[] (by simp) (by unfold maxLen; omega), h1, fun w' v' T => ⟨T.cellAt (j := 0) rfl 0 rfl, T.fzAt (j := 0) rfl 0, ?_⟩⟩
  have e : (s.add (q1, q2)).1 = ⟨s.L ++ [(q1, q2)], s.cut⟩ := by unfold LS.add; rw [if_neg (by omega)]
  rw [e]
  have t1 := (T.store (j := 0) rfl 0 v').pick [0, 2] (l' := [kHeap p (.cells #[v', .bool s.cut] 40 (0, 0)), kPks v' ([] ++ s.L ++ [(q1, q2)])]) (by decide) rfl
  rw [List.nil_append] at t1
  have t2 := CL _ _ [] (t1.shutLink ⟨s.L ++ [(q1, q2)], s.cut⟩ (by simp; omega))
  rwa [List.append_nil] at t2
set_option maxHeartbeats 1000000 in
theorem Tog.rsend (h : Tog w0 S w l) {i p : Nat} {s : LS} (hi : l[i]? = some (kLink 40 p s)) (f : Int) (b : ByteArray) : Calls Try.prog 31 #[.pointer (some ⟨p, 0, none⟩), .int .i64 f, .string b] w fun e w' => e = .returned (.int .i64 (s.send f b).2) ∧ Tog w0 S w' (l.set i (kLink 40 p (s.send f b).1)) := by
  obtain ⟨a0, c0, cc0, c1, _⟩ := h.linkAt hi
  have hle := h.linkLe hi
  have same := set_same hi
  have FIN := Lib.hid (show Tog w0 S w (l.set i (kLink 40 p s)) by rw [same]; exact h)
  by_cases g : f ≠ 0 ∧ f ≠ 1
  · have E : s.send f b = (s, 1) := by unfold LS.send; rw [if_pos g]
    rw [E]
    have e0 : (f != 0) = true := by simpa using g.1
    have e1 : (f != 1) = true := by simpa using g.2
    have e0' : (f == 0) = false := by simpa using g.1
    have e1' : (f == 1) = false := by simpa using g.2
    clear h hi same E g
    go_enter Try.func31, Try.ntmps31
    go_wp2
    go_ret
    exact ⟨rfl, FIN.out⟩
  · have g' : f = 0 ∨ f = 1 := by omega
    by_cases hc : s.cut = true
    · have E : s.send f b = (s, 28) := by unfold LS.send; rw [if_neg g, if_pos hc]
      rw [E]
      rw [hc] at c1
      clear h hi same E g
      rcases g' with rfl | rfl
      all_goals
        go_enter Try.func31, Try.ntmps31
        go_wp2
        go_ret
        exact ⟨rfl, FIN.out⟩
    · have hc' : s.cut = false := by simpa using hc
      have E : s.send f b = s.add (1 - f, b) := by unfold LS.send; rw [if_neg g, if_neg hc]
      rw [E]
      rw [hc'] at c1
      by_cases g5 : 500 ≤ s.L.length
      · have E : ∀ q, s.add q = (s, 6) := fun q => by unfold LS.add; rw [if_pos g5]
        rw [E]
        have g6 : (500 : Int) ≤ (s.L.length : Int) := by omega
        clear h hi same E g
        rcases g' with rfl | rfl
        all_goals
          go_enter Try.func31, Try.ntmps31
          go_wp2
          go_ret
          exact ⟨rfl, FIN.out⟩
      · obtain ⟨f2, hf2⟩ : ∃ f2, 1 - f = f2 := ⟨_, rfl⟩
        rw [hf2]
        obtain ⟨M, a, c, T0, h1, ST⟩ := h.radd_fin hi (by omega) f2 b
        have E2 : (s.add (f2, b)).2 = 0 := by unfold LS.add; rw [if_neg g5]
        have g6 : ¬ (500 : Int) ≤ (s.L.length : Int) := by omega
        have p0 := h1.cellAt (j := 0) rfl 0 rfl
        have c1 := h1.cellAt (j := 0) rfl 1 rfl
        have p1 := T0.cellAt (j := 0) rfl 0 rfl
        have HT0 := Lib.hid T0
        have HS := Lib.hid (T0.srcPks (i := 1) rfl)
        have HB := Lib.hid (show s.L.length ≤ 100000 by omega)
        have HST := Lib.hid ST
        rw [E2]
        simp only [hc'] at c1
        have hff : (f = 0 ∧ f2 = 1) ∨ (f = 1 ∧ f2 = 0) := by omega
        clear h hi same E E2 g T0 h1 ST cc0 FIN hf2 g'
        rcases hff with ⟨rfl, rfl⟩ | ⟨rfl, rfl⟩
        · go_enter Try.func31, Try.ntmps31
          go_wp2_with (first | (at_builtin; refine HT0.out.list_pks rfl _ _ rfl 2 rfl (M := s.L) HS.out rfl rfl s.L.length (by simp) HB.out ?_; intro a3 c3 w3 T3 hs3; have HT3 := Lib.hid T3; clear T3 hs3 HT0) | (at_builtin; refine HT3.out.list_pk rfl _ _ rfl 2 rfl ((1, b) : Pk) rfl rfl (by simp) HB.out ?_; intro a4 c4 w4 T4 hs4; obtain ⟨q1, f1, fin⟩ := HST.out w4 _ T4; have T := Lib.hid fin; clear T4 fin hs4 HT3))
          go_ret
          exact ⟨rfl, T.out⟩
        · go_enter Try.func31, Try.ntmps31
          go_wp2_with (first | (at_builtin; refine HT0.out.list_pks rfl _ _ rfl 2 rfl (M := s.L) HS.out rfl rfl s.L.length (by simp) HB.out ?_; intro a3 c3 w3 T3 hs3; have HT3 := Lib.hid T3; clear T3 hs3 HT0) | (at_builtin; refine HT3.out.list_pk rfl _ _ rfl 2 rfl ((0, b) : Pk) rfl rfl (by simp) HB.out ?_; intro a4 c4 w4 T4 hs4; obtain ⟨q1, f1, fin⟩ := HST.out w4 _ T4; have T := Lib.hid fin; clear T4 fin hs4 HT3))
          go_ret
          exact ⟨rfl, T.out⟩
end
end Go.Proofs.Ytgdcocfekjlhfaa
