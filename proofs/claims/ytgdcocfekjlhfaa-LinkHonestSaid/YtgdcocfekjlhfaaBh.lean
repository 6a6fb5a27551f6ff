/-
  THE REFERENCE: remove, Send, Deliver, Drop, Double, Copy.
-/
import Derived.Test.YtgdcocfekjlhfaaBg
namespace Go.Proofs.Ytgdcocfekjlhfaa
open Go.RowKit
set_option linter.unusedVariables false
set_option linter.unusedSimpArgs false
set_option maxRecDepth 100000
theorem src_take {w : World} {g n c : Nat} {L : List Pk} (h : SrcAt w (.slice (some ⟨g, 0, none⟩) n c) n (pkCells L)) (i c' : Nat) : SrcAt w (.slice (some ⟨g, 0, none⟩) i c') i (pkCells (L.take i)) := by
  refine .inr ⟨g, 0, c', rfl, fun j u hj => ?_⟩
  have e : (pkCells L)[j]? = some u := by
    conv => lhs; rw [← List.take_append_drop i L, pkCells_app]
    rw [List.getElem?_append_left (List.getElem?_eq_some_iff.1 hj).1]; exact hj
  rcases h with ⟨_, _, h0⟩ | ⟨b, o, c2, hv, hc⟩
  · rw [h0] at e; simp at e
  · obtain ⟨⟨rfl, rfl⟩, _⟩ : (g = b ∧ 0 = o) ∧ c = c2 := by simpa using hv
    exact hc j u e
theorem src_drop {w : World} {g n c : Nat} {L : List Pk} (h : SrcAt w (.slice (some ⟨g, 0, none⟩) n c) n (pkCells L)) (k m c' : Nat) : SrcAt w (.slice (some ⟨g, k * 2, none⟩) m c') m (pkCells (L.drop k)) := by
  refine .inr ⟨g, k * 2, c', rfl, fun j u hj => ?_⟩
  have hk : k ≤ L.length := by
    rcases Nat.lt_or_ge L.length k with h1 | h1
    · rw [List.drop_of_length_le (by omega)] at hj; simp [pkCells] at hj
    · exact h1
  have e : (pkCells L)[k * 2 + j]? = some u := by
    conv => lhs; rw [← List.take_append_drop k L, pkCells_app]
    rw [List.getElem?_append_right (by rw [pkCells_len, List.length_take]; omega), pkCells_len, List.length_take, Nat.min_eq_left hk, Nat.add_sub_cancel_left]
    exact hj
  rcases h with ⟨_, _, h0⟩ | ⟨b, o, c2, hv, hc⟩
  · rw [h0] at e; simp at e
  · obtain ⟨⟨rfl, rfl⟩, _⟩ : (g = b ∧ 0 = o) ∧ c = c2 := by simpa using hv
    have := hc _ u e
    rwa [Nat.zero_add] at this
theorem src_none (w : World) (g o c : Nat) {k : Nat} {L : List Pk} (hk : L.length ≤ k) : SrcAt w (.slice (some ⟨g, o, none⟩) 0 c) 0 (pkCells (L.drop k)) := by
  rw [List.drop_of_length_le hk]
  exact .inl ⟨⟨_, c, rfl⟩, rfl, rfl⟩
theorem sl_to (g n c m : Nat) (h : m ≤ c) (W : World) : (Instr.slice 38 (.slice (some ⟨g, 0, none⟩) n c) none (some (.int .i64 (m : Int))) none).run Try.prog W = .ok (.slice (some ⟨g, 0, none⟩) m c) W := by
  have h1 : (0 : Int) ≤ (m : Int) := by omega
  have h2 : (m : Int) ≤ (c : Int) := by omega
  have hp : Try.prog.elem 38 = 30 := by kernel_rfl
  have hs : ∀ w, (sizeOf 30).run Try.prog w = .ok 2 w := by intro w; kernel_rfl
  simp [go_sem, Try.underlying38, h1, h2, h, hp, hs]
theorem sl_from (g n c m : Nat) (h : m ≤ n) (J : Int) (hJ : J = m) : ∃ o, (o = m * 2 ∨ c = m) ∧ ∀ W : World, (Instr.slice 38 (.slice (some ⟨g, 0, none⟩) n c) (some (.int .i64 J)) none none).run Try.prog W = .ok (.slice (some ⟨g, o, none⟩) (n - m) (c - m)) W := by
  subst hJ
  have h1 : (0 : Int) ≤ (m : Int) := by omega
  have h2 : (m : Int) ≤ (n : Int) := by omega
  have hp : Try.prog.elem 38 = 30 := by kernel_rfl
  have hs : ∀ w, (sizeOf 30).run Try.prog w = .ok 2 w := by intro w; kernel_rfl
  refine ⟨if c = m then 0 else m * 2, by by_cases e : c = m <;> simp [e], fun W => ?_⟩
  by_cases e : c = m
  · subst e
    simp [go_sem, Try.underlying38, h1, h2, h, hp, hs]
  · simp [go_sem, Try.underlying38, h1, h2, h, e, hp, hs]
section
variable {w0 w : World} {S : Nat → Prop} {l : List Kd}
set_option maxHeartbeats 2000000 in
theorem Tog.rremove (h : Tog w0 S w l) {i p : Nat} {s : LS} (hi : l[i]? = some (kLink 40 p s)) (m : Nat) (hm : m < s.L.length) : Calls Try.prog 37 #[.pointer (some ⟨p, 0, none⟩), .int .i64 (m : Int)] w fun e w' => e = .returned (.tuple #[]) ∧ Tog w0 S w' (l.set i (kLink 40 p (s.rem m))) := by
  have hle := h.linkLe hi
  obtain ⟨M, h0, CL⟩ := h.inner hi
  obtain ⟨a, c, h1⟩ := h0.openLink
  obtain ⟨gb, cc, hv, _, _⟩ := h1.pkAt (i := 1) rfl (List.getElem?_eq_getElem hm)
  obtain ⟨rfl, rfl⟩ : a = some ⟨gb, 0, none⟩ ∧ c = cc := by simpa using hv
  obtain ⟨hnc⟩ : Nonempty (s.L.length ≤ c) := by
    rcases (h1.rowAt (j := 1) rfl).2 with ⟨h0, _⟩ | ⟨g, cap, cur, hv, _, _, hnc, _⟩
    · simp at h0
    · obtain ⟨_, rfl⟩ : gb = g ∧ c = cap := by simpa using hv
      exact ⟨hnc⟩
  have erem : (s.rem m).L = s.L.take m ++ s.L.drop (m + 1) := by unfold LS.rem; exact erase_split _ _
  have elen : (s.L.take m ++ s.L.drop (m + 1)).length ≤ 500 := by simp; omega
  have T1 := h1.made 30 2 0 #[] (by simp) (by unfold maxLen; omega)
  have p0 := T1.cellAt (j := 0) rfl 0 rfl
  have p0d := h1.drew.cellAt (j := 0) rfl 0 rfl
  have ltk : (s.L.take m).length = m := by rw [List.length_take]; omega
  have ldr : (s.L.drop (m + 1)).length = s.L.length - (m + 1) := by simp
  have S1 := src_take (T1.drew.srcPks (i := 1) rfl) m c
  have HT1 := Lib.hid T1.drew
  have HS1 := Lib.hid (show SrcAt (w.alloc (.cells #[] 30)).drew (.slice (some ⟨gb, 0, none⟩) m c) (s.L.take m).length (pkCells (s.L.take m)) by rw [ltk]; exact S1)
  have HL1 := Lib.hid (show m = ([] : List Pk).length + (s.L.take m).length by rw [ltk]; simp)
  have HB1 := Lib.hid (show m ≤ 100000 by omega)
  have STEP := Lib.hid (show ∀ a' c' w', Tog w M w' [kHeap p (.cells #[.slice (some ⟨gb, 0, none⟩) s.L.length c, .bool s.cut] 40 (0, 0)), kPks (.slice (some ⟨gb, 0, none⟩) s.L.length c) s.L, kPks (.slice a' m c') ([] ++ s.L.take m)] →
      w'.cell? ⟨p, 0, none⟩ = some (.slice (some ⟨gb, 0, none⟩) s.L.length c) ∧ (∀ o, (o = (m + 1) * 2 ∨ c = m + 1) → SrcAt w' (.slice (some ⟨gb, o, none⟩) (s.L.length - (m + 1)) (c - (m + 1))) (s.L.drop (m + 1)).length (pkCells (s.L.drop (m + 1)))) from fun a' c' w' T => ⟨T.cellAt (j := 0) rfl 0 rfl, fun o ho => by
    rw [ldr]
    rcases ho with rfl | ho
    · exact src_drop (T.srcPks (i := 1) rfl) _ _ _
    · rw [show s.L.length - (m + 1) = 0 by omega]
      exact src_none _ _ _ _ (by omega)⟩)
  have HL2 := Lib.hid (show s.L.length - 1 = ([] ++ s.L.take m).length + (s.L.drop (m + 1)).length by rw [List.nil_append, ltk, ldr]; omega)
  have HB2 := Lib.hid (show s.L.length - 1 ≤ 100000 by omega)
  have FIN := Lib.hid (show ∀ v' w', Tog w M w' [kHeap p (.cells #[.slice (some ⟨gb, 0, none⟩) s.L.length c, .bool s.cut] 40 (0, 0)), kPks (.slice (some ⟨gb, 0, none⟩) s.L.length c) s.L, kPks v' ([] ++ s.L.take m ++ s.L.drop (m + 1))] →
      w'.cell? ⟨p, 0, none⟩ = some (.slice (some ⟨gb, 0, none⟩) s.L.length c) ∧ w'.frozen? ⟨p, 0, none⟩ = false ∧ Tog w0 S (w'.setCell ⟨p, 0, none⟩ v') (l.set i (kLink 40 p (s.rem m))) from fun v' w' T => ⟨T.cellAt (j := 0) rfl 0 rfl, T.fzAt (j := 0) rfl 0, by
    have t1 := (T.store (j := 0) rfl 0 v').pick [0, 2] (l' := [kHeap p (.cells #[v', .bool s.cut] 40 (0, 0)), kPks v' ([] ++ s.L.take m ++ s.L.drop (m + 1))]) (by decide) rfl
    rw [List.nil_append, ← erem] at t1
    have t2 := CL _ _ [] (t1.shutLink (s.rem m) (by rw [erem]; exact elen))
    rwa [List.append_nil] at t2⟩)
  have W1 : wrap64 ((m : Int) + 1) = (m : Int) + 1 := by unfold wrap64; omega
  have hic : m ≤ c := by omega
  have hic1 : m + 1 ≤ c := by omega
  have hin1 : m + 1 ≤ s.L.length := by omega
  have g0 : (0 : Int) ≤ (m : Int) := by omega
  have g1 : (0 : Int) ≤ (m : Int) + 1 := by omega
  have HLT := Lib.hid ltk
  have HLD := Lib.hid ldr
  clear h hi h0 h1 hv CL T1 S1 erem elen ltk ldr
  obtain ⟨o, ho, sl2⟩ := sl_from gb s.L.length c (m + 1) hin1 ((m : Int) + 1) (by omega)
  have sl1 := fun W => sl_to gb s.L.length c m hic W
  have HO := Lib.hid ho
  have WR : IntKind.i64.wrap ((m : Int) + 1) = (m : Int) + 1 := by rw [IntKind.wrap_i64]; omega
  have b1 : (m : Int) ≤ (c : Int) := by omega
  have b2 : (m : Int) + 1 ≤ (s.L.length : Int) := by omega
  clear ho hic hic1 hin1
  go_enter Try.func37, Try.ntmps37
  go_region_law (first | (refine HT1.out.step_pks (by rfl) _ _ (by rfl) 2 rfl (M := s.L.take m) HS1.out (by rfl) (by rfl) m HL1.out HB1.out ?_; intro a3 c3 w3 T3 hs3; obtain ⟨q0, hsrc⟩ := STEP.out a3 c3 w3 T3; have HT3 := Lib.hid T3; have HS3 := Lib.hid (hsrc o HO.out); clear T3 hsrc hs3 HT1) | (refine HT3.out.step_pks (by rfl) _ _ (by rfl) 2 rfl (M := s.L.drop (m + 1)) HS3.out (by rfl) (by rfl) (s.L.length - 1) HL2.out HB2.out ?_; intro a4 c4 w4 T4 hs4; obtain ⟨q1, f1, fin⟩ := FIN.out _ w4 T4; have T := Lib.hid fin; clear T4 fin hs4 HT3))
  all_goals
    go_wp2
    go_end0
    exact ⟨rfl, T.out⟩
end
end Go.Proofs.Ytgdcocfekjlhfaa
