/-
  append OF A WHOLE SLICE OF STRINGS TO A SLICE OF STRINGS THAT THE CALL HAS MADE.
-/
import Derived.Test.YteccccpjhpbebaaDoorTs
import Derived.Deep.AppendSrc
namespace Go.Proofs.YteccccpjhpbebaaDoor
open Go.RowKit WireM
set_option linter.unusedVariables false
set_option linter.unusedSimpArgs false

theorem run_append_none (w : World) (ty : TypeId) (c : Nat) {base : Nat} {v : Value} {n : Nat} {xs : List Value} (h : w.ownsRow base 9 1 v n xs) :
    (Builtin.append_ #[ 30, 30 ] ty #[v, .slice none 0 c]).run Tryd.prog w = .ok v w := by
  obtain ⟨i0, hi, hz0, hz1, hz2⟩ := info_parts infoString
  have hs : Src Tryd.prog i0.size 30 (.slice none 0 c) 0 [] w := Src.ofNil w Tryd.underlying30 c
  rcases h.2 with ⟨rfl, h0⟩ | ⟨g, cap, cur, rfl, hb, hg, hnc, hcm, hcs, htake⟩
  · simp [Builtin.append_, run_underlying Tryd.underlying30, sizeOf, typeInfo, hi, hs.len, hs.cells]
  · have := run_append_room_src (P := Tryd.prog) w 30 30 ty 9 i0 Tryd.underlying30 hi g 0 n cap (.slice none 0 c) 0 [] hs (by omega) (by simp) (by simp)
    rw [this]; rfl
theorem append_rows {ops : Array Oper} {rest : List Oper} {o : Oper} {a : Act} {Q : Exit → Act → World → Prop} (hgd : o.guard = none) (s x : Operand)
    (ho : o.op = .call { callee := .builtin .append, args := #[s, x], argTypes := #[ 30, 30 ] })
    {w wr : World} {L M : List (List UInt8)} {v : Value} {b : Option Addr} {cap : Nat} (h : RowAt w L v wr) (hm : CellsAt wr b (cellsS M)) (hs : a.eval s = v) (hx : a.eval x = .slice b M.length cap)
    (hlen : L.length + M.length ≤ 1000000000000)
    (hK : ∀ v' w3, RowAt w (L ++ M) v' w3 → Below w.heap.size w w3 → wpList Tryd.prog ops Q rest (a.put o.dst v') w3) : wpList Tryd.prog ops Q (o :: rest) a wr := by
  obtain ⟨i0, hi, hz0, hz1, hz2⟩ := info_parts infoString
  have hle := h.le
  have some_case : ∀ ad : Addr, b = some ad → (∀ j u, (cellsS M)[j]? = some u → wr.cell? (ad.add j) = some u) → wpList Tryd.prog ops Q (o :: rest) a wr := by
    intro ad hb hnews
    subst hb
    refine wpList_append_own _ hgd s x 30 ho w.heap.size 9 i0 (.string .empty) 1 16 Tryd.underlying30 hi hz0 hz1 hz2 rfl (by decide) v L.length (cellsS L) hs h.1 ad M.length cap (cellsS M) hx (by rw [cellsS_len]; omega) hnews ?_ (by unfold maxLen; omega) (by omega) hle ?_
    · intro u hu
      obtain ⟨l, _, rfl⟩ := List.mem_map.1 hu
      rfl
    · intro v' w' h1 h2 _
      have e : cellsS (L ++ M) = cellsS L ++ cellsS M := by simp [cellsS]
      have hb : Below w.heap.size w w' := h.2.grown h2 hle (fun k hk => (h.1.lt k hk).1)
      exact hK v' w' ⟨by rw [e, List.length_append]; exact h1, hb⟩ hb
  rcases hm with hm | ⟨g, of, rfl, hg, hc⟩
  · have hM : M = [] := by
      have := congrArg List.length hm
      rw [cellsS_len] at this
      exact List.eq_nil_of_length_eq_zero this
    subst hM
    cases b with
    | some ad => exact some_case ad rfl (by simp [cellsS])
    | none =>
      refine wpList_plain hgd fun K hK' => ?_
      have hrun := run_append_none wr o.type cap h.1
      unfold Oper.wp
      simp only [List.length_nil] at hx
      simp [execOp, ho, resolve, invoke, builtin, hs, hx, hrun, Result.andThen]
      exact hK' _ _ (hK v wr (by simpa using h) h.2)
  · refine some_case _ rfl fun j u hj => ?_
    have hadd : (⟨g, of, none⟩ : Addr).add j = ⟨g, of + j, none⟩ := by unfold Addr.add; split <;> simp_all
    have hjl : j < (cellsS M).length := (List.getElem?_eq_some_iff.1 hj).1
    rw [hadd, hc j hjl]; exact hj
end Go.Proofs.YteccccpjhpbebaaDoor
