/-
  AN ARGUMENT OF OPERATIONS OPENED.
-/
import Derived.Test.YtpabkaihppnddaaCl
namespace Go.Proofs.Ytpabkaihppnddaa
open Go.ChangeShapes Go.WideShapes Go.RowKit Go.Deep
set_option linter.unusedVariables false
set_option linter.unusedSimpArgs false
section
variable {H : Type} {enc : TypeId × Value → H} {w : World} {base : Nat} {spare : Nat → Bool} {held : Bool}
theorem byte_one {n : Nat} {cs : List Value} {x : DataW H × List MemPlace} (h : DataW.trod enc Try.prog w base spare held n 5 cs = some x) : ∃ b : UInt8, cs = [.int .u8 (b.toNat : Int)] := by
  obtain ⟨D, e0, _, wd⟩ := DataW.trod_int Try.underlying5 h
  obtain ⟨h0, h1⟩ := bounds_u8 wd
  refine ⟨UInt8.ofNat D.toNat, ?_⟩
  have e : ((UInt8.ofNat D.toNat).toNat : Int) = D := by simp; omega
  rw [e]; exact e0
theorem op_struct {n : Nat} {cs : List Value} {x : DataW H × List MemPlace} (h : DataW.trod enc Try.prog w base spare held n 33 cs = some x) : ∃ A : OpV, cs = A.cells.toList ∧ A.Ok := by
  obtain ⟨xs, m, _, _, hlen, hxl, hg⟩ := DataW.trod_struct Try.underlying33 h
  have c5 : Try.prog.cellsOf 33 = 5 := by kernel_rfl
  have ci : Try.prog.cellsOf 3 = 1 := by kernel_rfl
  have cb : Try.prog.cellsOf 5 = 1 := by kernel_rfl
  have cs1 : Try.prog.cellsOf 9 = 1 := by kernel_rfl
  rw [c5] at hlen
  match cs, hlen, xs, hxl with
  | [v0, v1, v2, v3, v4], _, [y0, y1, y2, y3, y4], _ =>
    have h0 : DataW.trod enc Try.prog w base spare held m 3 (List.take (Try.prog.cellsOf 3) [v0, v1, v2, v3, v4]) = some y0 := hg 0 _ rfl
    rw [ci] at h0
    have h1 : DataW.trod enc Try.prog w base spare held m 3 (List.take (Try.prog.cellsOf 3) [v1, v2, v3, v4]) = some y1 := hg 1 _ rfl
    rw [ci] at h1
    have h2 : DataW.trod enc Try.prog w base spare held m 3 (List.take (Try.prog.cellsOf 3) [v2, v3, v4]) = some y2 := hg 2 _ rfl
    rw [ci] at h2
    have h3 : DataW.trod enc Try.prog w base spare held m 5 (List.take (Try.prog.cellsOf 5) [v3, v4]) = some y3 := hg 3 _ rfl
    rw [cb] at h3
    have h4 : DataW.trod enc Try.prog w base spare held m 9 (List.take (Try.prog.cellsOf 9) [v4]) = some y4 := hg 4 _ rfl
    rw [cs1] at h4
    obtain ⟨D, e0, wd⟩ := int_one h0
    obtain ⟨F, e1, wf⟩ := int_one h1
    obtain ⟨X, e2, wx⟩ := int_one h2
    obtain ⟨B, e3⟩ := byte_one h3
    obtain ⟨T, e4, ws⟩ := str_one h4
    have e0' : v0 = .int .i64 D := by simpa [intCells1] using e0
    have e1' : v1 = .int .i64 F := by simpa [intCells1] using e1
    have e2' : v2 = .int .i64 X := by simpa [intCells1] using e2
    have e3' : v3 = .int .u8 (B.toNat : Int) := by simpa using e3
    have e4' : v4 = .string T := by simpa [strCells1] using e4
    subst e0' e1' e2' e3' e4'
    exact ⟨⟨D, F, X, B, T⟩, rfl, ⟨wd, wf, wx, ws⟩⟩
theorem open_ops {n : Nat} {a : Option Addr} {len cap : Nat} {x : DataW H × List MemPlace} (h : DataW.trod enc Try.prog w base spare held n 22 [.slice a len cap] = some x) :
    ∃ l : List OpV, len = l.length ∧ RowsAt OpV.cells OpV.Ok 5 w.heap.size w a l := open_rows Try.underlying22 OpV.cells OpV.Ok 5 (by decide) (by kernel_rfl) (fun _ => rfl) (fun _ _ _ h => op_struct h) h
end
end Go.Proofs.Ytpabkaihppnddaa
