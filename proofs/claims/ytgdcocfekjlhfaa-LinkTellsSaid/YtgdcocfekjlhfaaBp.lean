/-
  AN ARGUMENT OF OPERATIONS OPENED.
-/
import Derived.Test.YtgdcocfekjlhfaaBl
namespace Go.Proofs.Ytgdcocfekjlhfaa
open Go.ChangeShapes Go.WideShapes Go.RowKit Go.Deep
set_option linter.unusedVariables false
set_option linter.unusedSimpArgs false
section
variable {H : Type} {enc : TypeId × Value → H} {w : World} {base : Nat} {spare : Nat → Bool} {held : Bool}
theorem op_struct {n : Nat} {cs : List Value} {x : DataW H × List MemPlace} (h : DataW.trod enc Try.prog w base spare held n 35 cs = some x) : ∃ A : OpV, cs = A.cells.toList ∧ A.Ok := by
  obtain ⟨xs, m, _, _, hlen, hxl, hg⟩ := DataW.trod_struct Try.underlying35 h
  have c4 : Try.prog.cellsOf 35 = 3 := by kernel_rfl
  have ci : Try.prog.cellsOf 3 = 1 := by kernel_rfl
  have cs1 : Try.prog.cellsOf 9 = 1 := by kernel_rfl
  rw [c4] at hlen
  match cs, hlen, xs, hxl with
  | [v0, v1, v2], _, [y0, y1, y2], _ =>
    have h0 : DataW.trod enc Try.prog w base spare held m 3 (List.take (Try.prog.cellsOf 3) [v0, v1, v2]) = some y0 := hg 0 _ rfl
    rw [ci] at h0
    have h1 : DataW.trod enc Try.prog w base spare held m 3 (List.take (Try.prog.cellsOf 3) [v1, v2]) = some y1 := hg 1 _ rfl
    rw [ci] at h1
    have h2 : DataW.trod enc Try.prog w base spare held m 9 (List.take (Try.prog.cellsOf 9) [v2]) = some y2 := hg 2 _ rfl
    rw [cs1] at h2
    obtain ⟨D, e0, wd⟩ := int_one h0
    obtain ⟨N, e1, wn⟩ := int_one h1
    obtain ⟨T, e2, ws⟩ := str_one h2
    have e0' : v0 = .int .i64 D := by simpa [intCells1] using e0
    have e1' : v1 = .int .i64 N := by simpa [intCells1] using e1
    have e2' : v2 = .string T := by simpa [strCells1] using e2
    subst e0' e1' e2'
    exact ⟨⟨D, N, T⟩, rfl, ⟨wd, wn, ws⟩⟩
theorem open_ops {n : Nat} {a : Option Addr} {len cap : Nat} {x : DataW H × List MemPlace} (h : DataW.trod enc Try.prog w base spare held n 22 [.slice a len cap] = some x) :
    ∃ l : List OpV, len = l.length ∧ RowsAt OpV.cells OpV.Ok 3 w.heap.size w a l := open_rows Try.underlying22 OpV.cells OpV.Ok 3 (by decide) (by kernel_rfl) (fun _ => rfl) (fun _ _ _ h => op_struct h) h
end
end Go.Proofs.Ytgdcocfekjlhfaa
