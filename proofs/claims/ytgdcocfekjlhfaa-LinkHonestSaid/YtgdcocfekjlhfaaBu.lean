/-
  LinkHonest: what holds in the loop (no program in this text but the packets' functions).
-/
import Derived.Test.YtgdcocfekjlhfaaBm
import Derived.Test.YtgdcocfekjlhfaaBp
namespace Go.Proofs.Ytgdcocfekjlhfaa
open Go.RowKit
set_option linter.unusedVariables false
set_option linter.unusedSimpArgs false
set_option maxRecDepth 100000
structure HI (k : Nat) (s : LS) (G Sn : List Pk) : Prop where
  c : s.cut = true → s.L = []
  n : ∀ q, cnt (G ++ s.L) q ≤ cnt Sn q
  t : ∀ q ∈ G ++ s.L, q.1 = 0 ∨ q.1 = 1
  lg : G.length ≤ k
  ls : Sn.length ≤ k
theorem cnt_erase {L : List Pk} {m : Nat} {p : Pk} (h : L[m]? = some p) (q : Pk) : cnt L q = cnt (L.eraseIdx m) q + cnt [p] q := by
  have hlt := (List.getElem?_eq_some_iff.1 h).1
  have e : L[m] = p := (List.getElem?_eq_some_iff.1 h).2
  rw [erase_split, cnt_app]
  conv => lhs; rw [← List.take_append_drop m L, List.drop_eq_getElem_cons hlt, e, show ∀ (x : Pk) (y : List Pk), x :: y = [x] ++ y from fun _ _ => rfl, cnt_app, cnt_app]
  omega
section
variable {k : Nat} {s : LS} {G Sn : List Pk}
theorem HI.new : HI 0 LS.new [] [] := ⟨fun _ => rfl, fun q => Nat.le_refl _, fun q hq => by simp [LS.new] at hq, Nat.le_refl _, Nat.le_refl _⟩
theorem HI.keep (h : HI k s G Sn) : HI (k + 1) s G Sn := ⟨h.c, h.n, h.t, Nat.le_succ_of_le h.lg, Nat.le_succ_of_le h.ls⟩
theorem HI.deliver (h : HI k s G Sn) {m : Nat} {p : Pk} (hp : s.L[m]? = some p) : HI (k + 1) (s.rem m) (G ++ [p]) Sn := by
  refine ⟨fun hc => ?_, fun q => ?_, fun q hq => h.t q ?_, by simp; exact h.lg, Nat.le_succ_of_le h.ls⟩
  · have := h.c hc
    rw [this] at hp; simp at hp
  · have := h.n q
    rw [cnt_app, cnt_erase hp q] at this
    rw [cnt_app, cnt_app]
    show cnt G q + cnt [p] q + cnt (s.L.eraseIdx m) q ≤ cnt Sn q
    omega
  · simp only [List.mem_append, List.mem_singleton] at hq ⊢
    rcases hq with (h1 | rfl) | h1
    · exact .inl h1
    · exact .inr (List.mem_of_getElem? hp)
    · exact .inr (List.mem_of_mem_eraseIdx h1)
theorem HI.drop (h : HI k s G Sn) {m : Nat} {p : Pk} (hp : s.L[m]? = some p) : HI (k + 1) (s.rem m) G Sn := by
  refine ⟨fun hc => ?_, fun q => ?_, fun q hq => h.t q ?_, Nat.le_succ_of_le h.lg, Nat.le_succ_of_le h.ls⟩
  · have := h.c hc
    rw [this] at hp; simp at hp
  · have := h.n q
    rw [cnt_app, cnt_erase hp q] at this
    rw [cnt_app]
    show cnt G q + cnt (s.L.eraseIdx m) q ≤ cnt Sn q
    omega
  · simp only [List.mem_append] at hq ⊢
    rcases hq with h1 | h1
    · exact .inl h1
    · exact .inr (List.mem_of_mem_eraseIdx h1)
theorem HI.more (h : HI k s G Sn) (hc : s.cut = false) {p : Pk} (hp : p.1 = 0 ∨ p.1 = 1) : HI (k + 1) ⟨s.L ++ [p], s.cut⟩ G (Sn ++ [p]) := by
  refine ⟨fun h => by simp [hc] at h, fun q => ?_, fun q hq => ?_, Nat.le_succ_of_le h.lg, by simp; exact h.ls⟩
  · have := h.n q
    rw [cnt_app] at this
    show cnt (G ++ (s.L ++ [p])) q ≤ cnt (Sn ++ [p]) q
    rw [cnt_app, cnt_app, cnt_app]
    omega
  · simp only [List.mem_append, List.mem_singleton] at hq
    rcases hq with h1 | h1 | rfl
    · exact h.t q (List.mem_append.2 (.inl h1))
    · exact h.t q (List.mem_append.2 (.inr h1))
    · exact hp
theorem HI.cutS (h : HI k s G Sn) : HI (k + 1) s.cutS G Sn := by
  refine ⟨fun _ => rfl, fun q => ?_, fun q hq => h.t q ?_, Nat.le_succ_of_le h.lg, Nat.le_succ_of_le h.ls⟩
  · have := h.n q
    rw [cnt_app] at this
    show cnt (G ++ []) q ≤ cnt Sn q
    rw [List.append_nil]; omega
  · simp only [List.mem_append] at hq ⊢
    rcases hq with h1 | h1
    · exact .inl h1
    · simp [LS.cutS] at h1
theorem HI.join (h : HI k s G Sn) : HI (k + 1) s.join G Sn := ⟨fun h => by simp [LS.join] at h, h.n, h.t, Nat.le_succ_of_le h.lg, Nat.le_succ_of_le h.ls⟩
theorem HI.mem (h : HI k s G Sn) {p : Pk} {m : Nat} (hp : s.L[m]? = some p) : p.1 = 0 ∨ p.1 = 1 := h.t p (List.mem_append.2 (.inr (List.mem_of_getElem? hp)))
end
/-- The ways of a turn: what the operation makes of the link and what it returns, what is kept of it. -/
inductive Way (s : LS) (G Sn : List Pk) (A : OpV) (k : Nat) : Prop
  | got (m : Nat) (q1 : Int) (q2 : ByteArray) (s' : LS) (hr : A.d % 8 = 3) (hn : A.n = m) (hq : s.L[m]? = some (q1, q2)) (hc : s.cut = false) (hc' : s'.cut = false) (hop : s.op A = (s', (q1, q2), 0)) (hi : HI (k + 1) s' (G ++ [(q1, q2)]) Sn)
  | twice (m : Nat) (q1 : Int) (q2 : ByteArray) (s' : LS) (hr : A.d % 8 = 5) (hn : A.n = m) (hq : s.L[m]? = some (q1, q2)) (hc : s.cut = false) (hc' : s'.cut = false) (hop : s.op A = (s', Pk.zero, 0)) (hi : HI (k + 1) s' G (Sn ++ [(q1, q2)]))
  | sent (r f2 : Int) (s' : LS) (hr : A.d % 8 = r) (hr' : r = 0 ∨ r = 1 ∨ r = 2) (hf : 1 - A.n = f2) (hf2 : f2 = 0 ∨ f2 = 1) (hc : s.cut = false) (hc' : s'.cut = false) (hop : s.op A = (s', Pk.zero, 0)) (hi : HI (k + 1) s' G (Sn ++ [(f2, A.s)]))
  | cut (s' : LS) (hr : A.d % 8 = 6) (hc' : s'.cut = true) (hL : s'.L = []) (hop : s.op A = (s', Pk.zero, 0)) (hi : HI (k + 1) s' G Sn)
  | join (s' : LS) (hr : A.d % 8 = 7) (hc' : s'.cut = false) (hop : s.op A = (s', Pk.zero, 0)) (hi : HI (k + 1) s' G Sn)
  | dropped (s' : LS) (er : Int) (hr : A.d % 8 = 4) (b : Bool) (hb : s.cut = b) (hc' : s'.cut = b) (hL : b = true → s'.L = []) (hop : s.op A = (s', Pk.zero, er)) (hi : HI (k + 1) s' G Sn)
  | none (er r : Int) (hr : A.d % 8 = r) (hr' : r = 0 ∨ r = 1 ∨ r = 2 ∨ r = 3 ∨ r = 5) (he : er ≠ 0) (b : Bool) (hb : s.cut = b) (hL : b = true → s.L = []) (hop : s.op A = (s, Pk.zero, er)) (hi : HI (k + 1) s G Sn)
theorem way {s : LS} {G Sn : List Pk} {k : Nat} (A : OpV) (h : HI k s G Sn) (h5 : s.L.length ≤ 500) : Way s G Sn A k := by
  obtain ⟨r, hr⟩ : ∃ r, A.d % 8 = r := ⟨_, rfl⟩
  have hr8 : r = 0 ∨ r = 1 ∨ r = 2 ∨ r = 3 ∨ r = 4 ∨ r = 5 ∨ r = 6 ∨ r = 7 := by omega
  have has_get : s.has A.n = true → ∃ (m : Nat) (q1 : Int) (q2 : ByteArray), A.n = m ∧ s.L[m]? = some (q1, q2) ∧ s.cut = false := fun hh => by
    obtain ⟨g1, g2⟩ := LS.has_iff.1 hh
    have hm : A.n.toNat < s.L.length := by omega
    refine ⟨A.n.toNat, s.L[A.n.toNat].1, s.L[A.n.toNat].2, by omega, List.getElem?_eq_getElem hm, ?_⟩
    cases hc : s.cut
    · rfl
    · have := h.c hc
      rw [this] at hm; simp at hm
  have hLc : ∀ b, s.cut = b → b = true → s.L = [] := fun b hb e => h.c (by rw [hb]; exact e)
  have dsend : (r = 0 ∨ r = 1 ∨ r = 2) → Way s G Sn A k := fun hr3 => by
    have e : s.op A = ((s.send A.n A.s).1, Pk.zero, (s.send A.n A.s).2) := by unfold LS.op; rw [hr]; rcases hr3 with rfl | rfl | rfl <;> rfl
    by_cases g : A.n ≠ 0 ∧ A.n ≠ 1
    · have e2 : s.send A.n A.s = (s, 1) := by unfold LS.send; rw [if_pos g]
      rw [e2] at e
      exact .none 1 r hr (by omega) (by decide) s.cut rfl (hLc _ rfl) e h.keep
    · cases hc : s.cut with
      | true =>
        have e2 : s.send A.n A.s = (s, 28) := by unfold LS.send; rw [if_neg g, if_pos hc]
        rw [e2] at e
        exact .none 28 r hr (by omega) (by decide) s.cut rfl (hLc _ rfl) e h.keep
      | false =>
        have e2 : s.send A.n A.s = s.add (1 - A.n, A.s) := by unfold LS.send; rw [if_neg g, if_neg (by simp [hc])]
        by_cases hf : 500 ≤ s.L.length
        · have e3 : s.add (1 - A.n, A.s) = (s, 6) := by unfold LS.add; rw [if_pos hf]
          rw [e2, e3] at e
          exact .none 6 r hr (by omega) (by decide) s.cut rfl (hLc _ rfl) e h.keep
        · have e3 : s.add (1 - A.n, A.s) = (⟨s.L ++ [(1 - A.n, A.s)], s.cut⟩, 0) := by unfold LS.add; rw [if_neg hf]
          rw [e2, e3] at e
          have hp : (1 - A.n) = 0 ∨ (1 - A.n) = 1 := by omega
          exact .sent r _ ⟨s.L ++ [(1 - A.n, A.s)], s.cut⟩ hr hr3 rfl hp hc hc e (h.more hc (p := (1 - A.n, A.s)) hp)
  rcases hr8 with h0 | h0 | h0 | h0 | h0 | h0 | h0 | h0
  · exact dsend (.inl h0)
  · exact dsend (.inr (.inl h0))
  · exact dsend (.inr (.inr h0))
  · subst h0
    have e : s.op A = s.deliver A.n := by unfold LS.op; rw [hr]; rfl
    by_cases hh : s.has A.n = true
    · obtain ⟨m, q1, q2, hn, hq, hc⟩ := has_get hh
      have e2 : s.deliver A.n = (s.rem A.n, s.at A.n, 0) := by unfold LS.deliver; rw [if_pos hh]
      rw [e2, hn, LS.at_nat hq] at e
      exact .got m q1 q2 (s.rem m) hr hn hq hc hc e (h.deliver hq)
    · have e2 : s.deliver A.n = (s, Pk.zero, 4) := by unfold LS.deliver; rw [if_neg hh]
      rw [e2] at e
      exact .none 4 3 hr (by decide) (by decide) s.cut rfl (hLc _ rfl) e h.keep
  · subst h0
    have e : s.op A = ((s.drop A.n).1, Pk.zero, (s.drop A.n).2) := by unfold LS.op; rw [hr]; rfl
    by_cases hh : s.has A.n = true
    · obtain ⟨m, q1, q2, hn, hq, hc⟩ := has_get hh
      have e2 : s.drop A.n = (s.rem A.n, 0) := by unfold LS.drop LS.deliver; rw [if_pos hh]
      rw [e2, hn] at e
      exact .dropped (s.rem m) 0 hr false hc hc (fun e => by cases e) e (h.drop hq)
    · have e2 : s.drop A.n = (s, 4) := by unfold LS.drop LS.deliver; rw [if_neg hh]
      rw [e2] at e
      exact .dropped _ 4 hr s.cut rfl rfl (hLc _ rfl) e h.keep
  · subst h0
    have e : s.op A = ((s.double A.n).1, Pk.zero, (s.double A.n).2) := by unfold LS.op; rw [hr]; rfl
    by_cases hh : s.has A.n = true
    · obtain ⟨m, q1, q2, hn, hq, hc⟩ := has_get hh
      have e2 : s.double A.n = s.add (q1, q2) := by unfold LS.double; rw [if_pos hh, hn, LS.at_nat hq]
      by_cases hf : 500 ≤ s.L.length
      · have e3 : s.add (q1, q2) = (s, 6) := by unfold LS.add; rw [if_pos hf]
        rw [e2, e3] at e
        exact .none 6 5 hr (by decide) (by decide) s.cut rfl (hLc _ rfl) e h.keep
      · have e3 : s.add (q1, q2) = (⟨s.L ++ [(q1, q2)], s.cut⟩, 0) := by unfold LS.add; rw [if_neg hf]
        rw [e2, e3] at e
        exact .twice m q1 q2 ⟨s.L ++ [(q1, q2)], s.cut⟩ hr hn hq hc hc e (h.more hc (h.mem hq))
    · have e2 : s.double A.n = (s, 4) := by unfold LS.double; rw [if_neg hh]
      rw [e2] at e
      exact .none 4 5 hr (by decide) (by decide) s.cut rfl (hLc _ rfl) e h.keep
  · subst h0
    exact .cut s.cutS hr rfl rfl (by unfold LS.op; rw [hr]; rfl) h.cutS
  · subst h0
    exact .join s.join hr rfl (by unfold LS.op; rw [hr]; rfl) h.join
end Go.Proofs.Ytgdcocfekjlhfaa
