/-
  THE REFERENCE OF LAYER 3: Read.
-/
import Derived.Test.YtdejajpmebgidaaDoorHd
namespace Go.Proofs.YtdejajpmebgidaaDoor
open Go.RowKit Go.Maps WireM DiskM
set_option linter.unusedVariables false
set_option linter.unusedSimpArgs false
set_option maxRecDepth 100000

theorem read_err {s : St} {f a n : Int} (h : s.down = true ∨ ¬ isF f) : mayE s f ≠ 0 ∧ s.read f a n = ([], mayE s f) := by
  unfold mayE St.read
  by_cases hd : s.down = true
  · simp [hd]
  · have hf := h.resolve_left hd
    simp [hd, hf]
set_option maxHeartbeats 4000000 in
theorem rread_any {w : World} {r : Nat} {s : St} {q : RP} (h : RIs w r s q) (f a n : Int) (ha : InI a) (hn : InI n) :
    Calls Tryd.prog 26 #[.pointer (some ⟨r, 0, none⟩), .int .i64 f, .int .i64 a, .int .i64 n] w fun e w' => e = .returned (.tuple #[.string (bs (s.read f a n).1), .int .i64 (s.read f a n).2]) ∧ Below w.heap.size w w' := by
  have M := Lib.hid (may_any h.toR0 f)
  have G := Lib.hid (get_any h.toR0 f)
  have hcap := h.inv.cap f
  have BR := Lib.hid (Below.refl w.heap.size w)
  clear h
  by_cases hb : s.down = true ∨ ¬ isF f
  · obtain ⟨e1, e2⟩ := read_err (a := a) (n := n) hb
    rw [e2]
    generalize mayE s f = z at *
    clear e2 hb G
    have hz : (z != 0) = true := by simpa using e1
    go_enter Tryd.func26, Tryd.ntmps26
    go_wp2_with (go_at_call 41; refine M.out.mono ?_; rintro e w1 ⟨rfl, rfl⟩)
    go_ret2
    exact ⟨rfl, BR.out⟩
  · have hd : s.down = false := by
      cases hd : s.down
      · rfl
      · exact absurd (.inl hd) hb
    have hf : isF f := Classical.byContradiction fun h => hb (.inr h)
    have hm : mayE s f = 0 := by unfold mayE; simp [hd, hf]
    rw [hm] at M
    by_cases h0 : a < 0 ∨ n < 0
    · have e2 : s.read f a n = ([], 1) := by
        unfold St.read
        rw [if_neg (by simp [hd]), if_pos (by rcases h0 with h | h; exact .inr (.inl h); exact .inr (.inr h))]
      rw [e2]
      clear e2 hb G hm
      rcases h0 with h0 | h0
      all_goals
        go_enter Tryd.func26, Tryd.ntmps26
        go_wp2_with (go_at_call 41; refine M.out.mono ?_; rintro e w1 ⟨rfl, rfl⟩)
        all_goals (go_ret2; exact ⟨rfl, BR.out⟩)
    · obtain ⟨A, rfl⟩ : ∃ A : Nat, a = A := ⟨a.toNat, by omega⟩
      obtain ⟨K, rfl⟩ : ∃ K : Nat, n = K := ⟨n.toNat, by omega⟩
      rw [read_up hd hf (by omega) (by omega), Int.toNat_natCast, Int.toNat_natCast]
      obtain ⟨N, hN⟩ : ∃ N, N = s.now f := ⟨_, rfl⟩
      rw [← hN] at G hcap ⊢
      obtain ⟨Y, hY⟩ : ∃ Y, Y = bs N := ⟨_, rfl⟩
      have hYs : Y.size = N.length := by rw [hY]; rfl
      rw [← hY] at G
      generalize bs (s.last f) = Z at G
      have fo := field_one (.int .i64 f) (.string Y) (.string Z)
      have hK := hn.2
      clear hb hm h0 hd hf
      rcases Nat.lt_or_ge A Y.size with c1 | c1
      · have g1 : ¬ (Y.size : Int) ≤ (A : Int) := by omega
        have g1' : ¬ Y.size ≤ A := by omega
        have g2 : wrap64 ((Y.size : Int) - (A : Int)) = (Y.size : Int) - (A : Int) := by unfold wrap64; omega
        have E := Lib.hid (show bs ((N.drop A).take K) = Y.extract A (A + min K (Y.size - A)) by
          rw [hY, ext_bs, ← hY]
          congr 1
          rw [List.drop_take, Nat.add_sub_cancel_left]
          apply List.take_eq_take_iff.2
          simp; omega)
        rcases Nat.lt_or_ge (Y.size - A) K with c2 | c2
        · have g3 : (Y.size : Int) - (A : Int) < (K : Int) := by omega
          have e1 : min K (Y.size - A) = Y.size - A := by omega
          have g4 : wrap64 ((A : Int) + ((Y.size : Int) - (A : Int))) = (A : Int) + ((Y.size : Int) - (A : Int)) := by unfold wrap64; omega
          have sl1 := fun W => slice_two Y A (A + (Y.size - A)) (A : Int) ((A : Int) + ((Y.size : Int) - (A : Int))) rfl (by omega) (by omega) (by omega) W
          rw [e1] at E
          clear hN hY hYs e1 hcap hn ha
          go_enter Tryd.func26, Tryd.ntmps26
          go_wp2_with (first
            | (go_at_call 41; refine M.out.mono ?_; rintro e w1 ⟨rfl, rfl⟩)
            | (go_at_call 42; refine G.out.mono ?_; rintro e w1 ⟨rfl, b1⟩; have B1 := Lib.hid b1; clear b1 G))
          go_ret2
          exact ⟨by rw [E.out]; rfl, B1.out⟩
        · have g3 : ¬ (Y.size : Int) - (A : Int) < (K : Int) := by omega
          have e1 : min K (Y.size - A) = K := by omega
          have g4 : wrap64 ((A : Int) + (K : Int)) = (A : Int) + (K : Int) := by unfold wrap64; omega
          have sl1 := fun W => slice_two Y A (A + K) (A : Int) ((A : Int) + (K : Int)) rfl (by omega) (by omega) (by omega) W
          rw [e1] at E
          clear hN hY hYs e1 hcap hn ha
          go_enter Tryd.func26, Tryd.ntmps26
          go_wp2_with (first
            | (go_at_call 41; refine M.out.mono ?_; rintro e w1 ⟨rfl, rfl⟩)
            | (go_at_call 42; refine G.out.mono ?_; rintro e w1 ⟨rfl, b1⟩; have B1 := Lib.hid b1; clear b1 G))
          go_ret2
          exact ⟨by rw [E.out]; rfl, B1.out⟩
      · have g1 : (Y.size : Int) ≤ (A : Int) := by omega
        have E := Lib.hid (show bs ((N.drop A).take K) = ⟨#[]⟩ by rw [List.drop_eq_nil_of_le (by omega)]; simp [bs])
        clear hN hY hYs hcap hn ha
        go_enter Tryd.func26, Tryd.ntmps26
        go_wp2_with (first
          | (go_at_call 41; refine M.out.mono ?_; rintro e w1 ⟨rfl, rfl⟩)
          | (go_at_call 42; refine G.out.mono ?_; rintro e w1 ⟨rfl, b1⟩; have B1 := Lib.hid b1; clear b1 G))
        go_ret2
        exact ⟨by rw [E.out]; rfl, B1.out⟩
end Go.Proofs.YtdejajpmebgidaaDoor
