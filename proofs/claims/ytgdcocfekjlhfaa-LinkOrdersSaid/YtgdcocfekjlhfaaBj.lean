/-
  THE REFERENCE: Double, Copy, Same. The law's count.
-/
import Derived.Test.YtgdcocfekjlhfaaBi
namespace Go.Proofs.Ytgdcocfekjlhfaa
open Go.RowKit
set_option linter.unusedVariables false
set_option linter.unusedSimpArgs false
set_option maxRecDepth 100000
section
variable {w0 w : World} {S : Nat → Prop} {l : List Kd}
set_option maxHeartbeats 1000000 in
theorem Tog.rdouble (h : Tog w0 S w l) {i p : Nat} {s : LS} (hi : l[i]? = some (kLink 40 p s)) (n : Int) : Calls Try.prog 28 #[.pointer (some ⟨p, 0, none⟩), .int .i64 n] w fun e w' => e = .returned (.int .i64 (s.double n).2) ∧ Tog w0 S w' (l.set i (kLink 40 p (s.double n).1)) := by
  have H := Lib.hid (h.rthere hi n)
  have hle := h.linkLe hi
  have FIN := Lib.hid (show Tog w0 S w (l.set i (kLink 40 p s)) by rw [set_same hi]; exact h)
  obtain ⟨a0, c0, cc0, c1, _⟩ := h.linkAt hi
  by_cases g : s.has n = true
  · obtain ⟨g1, g2⟩ := LS.has_iff.1 g
    obtain ⟨m, rfl⟩ : ∃ m : Nat, n = m := ⟨n.toNat, by omega⟩
    have hm : m < s.L.length := by omega
    obtain ⟨q1, q2, hq⟩ : ∃ q1 q2, s.L[m]? = some (q1, q2) := ⟨s.L[m].1, s.L[m].2, List.getElem?_eq_getElem hm⟩
    have E : s.double m = s.add (q1, q2) := by unfold LS.double; rw [if_pos g, LS.at_nat hq]
    rw [E]
    rw [g] at H
    by_cases g5 : 500 ≤ s.L.length
    · have E : ∀ q, s.add q = (s, 6) := fun q => by unfold LS.add; rw [if_pos g5]
      rw [E]
      have g6 : (500 : Int) ≤ (s.L.length : Int) := by omega
      clear h hi E g
      go_enter Try.func28, Try.ntmps28
      go_wp2_with (go_at_call 36; refine H.out.mono ?_; rintro e w' ⟨rfl, rfl⟩; clear H)
      go_ret
      exact ⟨rfl, FIN.out⟩
    · obtain ⟨M, a, c, T0, h1, ST⟩ := h.radd_fin hi (by omega) q1 q2
      have E2 : (s.add (q1, q2)).2 = 0 := by unfold LS.add; rw [if_neg g5]
      have g6 : ¬ (500 : Int) ≤ (s.L.length : Int) := by omega
      have p0 := h1.cellAt (j := 0) rfl 0 rfl
      have p1 := T0.cellAt (j := 0) rfl 0 rfl
      obtain ⟨gb, cc, hv, d0, d1⟩ := h1.pkAt (i := 1) rfl hq
      obtain ⟨rfl, rfl⟩ : a = some ⟨gb, 0, none⟩ ∧ c = cc := by simpa using hv
      obtain ⟨_, _, hv', k0, k1⟩ := T0.pkAt (i := 1) rfl hq
      obtain ⟨⟨rfl, _⟩, rfl⟩ : (gb = _ ∧ True) ∧ c = _ := by simpa using hv'
      have KEEP := Lib.hid (show ∀ a3 c3 w3, Tog w M w3 [kHeap p (.cells #[.slice (some ⟨gb, 0, none⟩) s.L.length c, .bool s.cut] 40 (0, 0)), kPks (.slice (some ⟨gb, 0, none⟩) s.L.length c) s.L, kPks (.slice a3 s.L.length c3) ([] ++ s.L)] →
        w3.cell? ⟨p, 0, none⟩ = some (.slice (some ⟨gb, 0, none⟩) s.L.length c) ∧ w3.cell? ⟨gb, m * 2, none⟩ = some (.int .i64 q1) ∧ w3.cell? ⟨gb, m * 2 + 1, none⟩ = some (.string q2) from fun a3 c3 w3 T => by
        obtain ⟨_, _, hv', k0, k1⟩ := T.pkAt (i := 1) rfl hq
        obtain ⟨⟨rfl, _⟩, rfl⟩ : (gb = _ ∧ True) ∧ c = _ := by simpa using hv'
        exact ⟨T.cellAt (j := 0) rfl 0 rfl, k0, k1⟩)
      have TB := T0.block (.cells #[.int .i64 q1, .string q2] 30)
      rw [show (w.alloc (.cells #[] 30)).heap.size = w.heap.size + 1 by simp] at TB
      have y0 := TB.cellAt (j := 0) rfl 0 rfl
      have TC0 := h1.block (.cells #[.int .i64 q1, .string q2] 30)
      have yC := TC0.cellAt (j := 0) rfl 0 rfl
      have TC1 := (TC0.made 30 2 0 #[] (by simp) (by unfold maxLen; omega))
      rw [show (w.alloc (.cells #[.int .i64 q1, .string q2] 30)).heap.size = w.heap.size + 1 by simp] at TC1
      have TC := TC1.pick [0, 1, 3, 2] (l' := [kHeap p (.cells #[.slice (some ⟨gb, 0, none⟩) s.L.length c, .bool s.cut] 40 (0, 0)), kPks (.slice (some ⟨gb, 0, none⟩) s.L.length c) s.L, kPks (.slice (some ⟨w.heap.size + 1, 0, none⟩) 0 0) [], kHeap w.heap.size (.cells #[.int .i64 q1, .string q2] 30 (0, 0))]) (by decide) rfl
      have yC1 := TC.cellAt (j := 0) rfl 0 rfl
      have HTD := Lib.hid TC.drew
      have HSD := Lib.hid (TC.drew.srcPks (i := 1) rfl)
      have HTB := Lib.hid TB.drew
      have HSB := Lib.hid (TB.drew.srcPks (i := 1) rfl)
      have KEEPB := Lib.hid (show ∀ gq v3 w3, Tog w M w3 [kHeap p (.cells #[.slice (some ⟨gb, 0, none⟩) s.L.length c, .bool s.cut] 40 (0, 0)), kPks (.slice (some ⟨gb, 0, none⟩) s.L.length c) s.L, kPks v3 ([] ++ s.L), kHeap gq (.cells #[.int .i64 q1, .string q2] 30 (0, 0))] →
        SrcAt w3 (.slice (some ⟨gq, 0, none⟩) 1 1) [((q1, q2) : Pk)].length (pkCells [(q1, q2)]) from fun gq v3 w3 T => .inr ⟨_, 0, 1, rfl, fun j u hj => by
          rw [Nat.zero_add, cell_of_row w3 _ j _ _ _ (T.heapAt (j := 3) rfl)]
          simpa [pkCells] using hj⟩)
      have HL1 := Lib.hid (show s.L.length + 1 = ([] ++ s.L).length + [((q1, q2) : Pk)].length by simp)
      have HB1 := Lib.hid (show s.L.length + 1 ≤ 100000 by omega)
      have HSTB := Lib.hid (show ∀ gq w' v', Tog w M w' [kHeap p (.cells #[.slice (some ⟨gb, 0, none⟩) s.L.length c, .bool s.cut] 40 (0, 0)), kPks (.slice (some ⟨gb, 0, none⟩) s.L.length c) s.L, kPks v' ([] ++ s.L ++ [(q1, q2)]), kHeap gq (.cells #[.int .i64 q1, .string q2] 30 (0, 0))] → _ from fun gq w' v' T => ST w' v' (T.pick [0, 1, 2] (by decide) rfl))
      have HT0 := Lib.hid T0.drew
      have HS := Lib.hid (T0.drew.srcPks (i := 1) rfl)
      have HB := Lib.hid (show s.L.length ≤ 100000 by omega)
      have HST := Lib.hid ST
      have g3 : (m : Int) < (s.L.length : Int) := by omega
      have g4 : (0 : Int) ≤ (m : Int) := by omega
      rw [E2]
      clear h hi E E2 g T0 TB TC TC0 TC1 h1 ST cc0 FIN hv hv' hq hm g2
      go_enter Try.func28, Try.ntmps28
      go_wp2_with (go_at_call 36; refine H.out.mono ?_; rintro e w' ⟨rfl, rfl⟩; clear H)
      go_region_law (first | (refine HT0.out.step_pks (by rfl) _ _ (by rfl) 2 rfl (M := s.L) HS.out (by rfl) (by rfl) s.L.length (by simp) HB.out ?_; intro a3 c3 w3 T3 hs3; obtain ⟨z0, z1, z2⟩ := KEEP.out a3 c3 w3 T3; have HT3 := Lib.hid T3; clear T3 hs3 HT0 HTB HTD) | (refine HT3.out.step_pk (by rfl) _ _ (by rfl) 2 rfl ((q1, q2) : Pk) (by rfl) (by rfl) (by simp) HB.out ?_; intro a4 c4 w4 T4 hs4; obtain ⟨y1, f1, fin⟩ := HST.out w4 _ T4; have T := Lib.hid fin; clear T4 fin hs4 HT3) | (refine HTB.out.step_pks (by rfl) _ _ (by rfl) 2 rfl (M := s.L) HSB.out (by rfl) (by rfl) s.L.length (by simp) HB.out ?_; intro a3 c3 w3 T3 hs3; have KB := KEEPB.out _ _ w3 T3; have HKB := Lib.hid KB; have HTC := Lib.hid T3; clear T3 hs3 HT0 HTB HTD KB) | (refine HTD.out.step_pks (by rfl) _ _ (by rfl) 2 rfl (M := s.L) HSD.out (by rfl) (by rfl) s.L.length (by simp) HB.out ?_; intro a3 c3 w3 T3 hs3; have KB := KEEPB.out _ _ w3 T3; have HKB := Lib.hid KB; have HTC := Lib.hid T3; clear T3 hs3 HT0 HTB HTD KB) | (refine HTC.out.step_pks (by rfl) _ _ (by rfl) 2 rfl (M := [((q1, q2) : Pk)]) HKB.out (by rfl) (by rfl) (s.L.length + 1) HL1.out HB1.out ?_; intro a4 c4 w4 T4 hs4; obtain ⟨y1, f1, fin⟩ := HSTB.out _ w4 _ T4; have T := Lib.hid fin; clear T4 fin hs4 HTC))
      all_goals
        go_wp2
        go_ret
        exact ⟨rfl, T.out⟩
  · have E : s.double n = (s, 4) := by unfold LS.double; rw [if_neg g]
    have g' : s.has n = false := by simpa using g
    rw [g'] at H
    rw [E]
    clear h hi E g
    go_enter Try.func28, Try.ntmps28
    go_wp2_with (go_at_call 36; refine H.out.mono ?_; rintro e w' ⟨rfl, rfl⟩)
    go_ret
    exact ⟨rfl, FIN.out⟩
end
end Go.Proofs.Ytgdcocfekjlhfaa
