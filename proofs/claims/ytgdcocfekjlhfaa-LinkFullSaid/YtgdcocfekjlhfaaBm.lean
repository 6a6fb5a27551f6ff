/-
  THE LAWS' small.
-/
import Derived.Test.YtgdcocfekjlhfaaBl
namespace Go.Proofs.Ytgdcocfekjlhfaa
open Go.RowKit
set_option linter.unusedVariables false
set_option linter.unusedSimpArgs false
set_option maxRecDepth 100000
def bA : ByteArray := ⟨#[97]⟩
def bB : ByteArray := ⟨#[98]⟩
def bC : ByteArray := ⟨#[99]⟩
def s1 : LS := ⟨[(1, bA)], false⟩
def s2 : LS := ⟨[(1, bA), (0, bB)], false⟩
def s3 : LS := ⟨[], true⟩
theorem r1 : LS.new.send 0 bA = (s1, 0) := by rfl
theorem r2 : s1.send 1 bB = (s2, 0) := by rfl
theorem r3 : s2.deliver 1 = (s1, (0, bB), 0) := by rfl
theorem r4 : s1.deliver 0 = (LS.new, (1, bA), 0) := by rfl
theorem r5 : LS.new.deliver 0 = (LS.new, Pk.zero, 4) := by rfl
theorem r6 : s3.send 0 bC = (s3, 28) := by rfl
section
variable {w0 w : World} {S : Nat → Prop} {p m : Nat}
theorem z1 (h : Tog w0 S w [kLink 53 p LS.new, kLink 53 m LS.new]) : Calls Try.prog 20 #[.pointer (some ⟨p, 0, none⟩), .int .i64 0, .string ⟨#[97]⟩] w fun e w' => e = .returned (.int .i64 0) ∧ Tog w0 S w' [kLink 53 p s1, kLink 53 m LS.new] := by
  have := h.xsend (i := 0) rfl 0 bA (by unfold InI; omega); rw [r1] at this; exact this
theorem z2 (h : Tog w0 S w [kLink 53 p s1, kLink 53 m LS.new]) : Calls Try.prog 20 #[.pointer (some ⟨p, 0, none⟩), .int .i64 1, .string ⟨#[98]⟩] w fun e w' => e = .returned (.int .i64 0) ∧ Tog w0 S w' [kLink 53 p s2, kLink 53 m LS.new] := by
  have := h.xsend (i := 0) rfl 1 bB (by unfold InI; omega); rw [r2] at this; exact this
theorem z3 (h : Tog w0 S w [kLink 53 p s2, kLink 53 m LS.new]) : Calls Try.prog 21 #[.pointer (some ⟨p, 0, none⟩), .int .i64 1] w fun e w' => e = .returned (.tuple #[.agg #[.int .i64 0, .string ⟨#[98]⟩], .int .i64 0]) ∧ Tog w0 S (w'.alloc (.cells #[.int .i64 0, .string ⟨#[98]⟩] 30)) [kLink 53 p s1, kLink 53 m LS.new, kHeap w'.heap.size (.cells #[.int .i64 0, .string ⟨#[98]⟩] 30 (0, 0))] := by
  have := h.xdeliver (i := 0) rfl 1 (by unfold InI; omega); rw [r3] at this; exact this.mono (fun e w' ⟨a, b⟩ => ⟨a, b.block _⟩)
theorem z4 {g : Nat} {o : Obj} (h : Tog w0 S w [kLink 53 p s1, kLink 53 m LS.new, kHeap g o]) : Calls Try.prog 21 #[.pointer (some ⟨p, 0, none⟩), .int .i64 0] w fun e w' => e = .returned (.tuple #[.agg #[.int .i64 1, .string ⟨#[97]⟩], .int .i64 0]) ∧ Tog w0 S (w'.alloc (.cells #[.int .i64 1, .string ⟨#[97]⟩] 30)) [kLink 53 p LS.new, kLink 53 m LS.new, kHeap g o, kHeap w'.heap.size (.cells #[.int .i64 1, .string ⟨#[97]⟩] 30 (0, 0))] := by
  have := h.xdeliver (i := 0) rfl 0 (by unfold InI; omega); rw [r4] at this; exact this.mono (fun e w' ⟨a, b⟩ => ⟨a, b.block _⟩)
theorem z5 {l : List Kd} (h : Tog w0 S w (kLink 53 p LS.new :: kLink 53 m LS.new :: l)) : Calls Try.prog 21 #[.pointer (some ⟨p, 0, none⟩), .int .i64 0] w fun e w' => e = .returned (.tuple #[.agg #[.int .i64 0, .string ⟨#[]⟩], .int .i64 4]) ∧ Tog w0 S (w'.alloc (.cells #[.int .i64 0, .string ⟨#[]⟩] 30)) (kLink 53 p LS.new :: kLink 53 m LS.new :: l) := by
  have := h.xdeliver (i := 0) rfl 0 (by unfold InI; omega); rw [r5] at this; exact this.mono (fun e w' ⟨a, b⟩ => ⟨a, b.alloc _⟩)
theorem z6 {l : List Kd} {k : Kd} (h : Tog w0 S w (k :: kLink 53 m LS.new :: l)) : Calls Try.prog 20 #[.pointer (some ⟨m, 0, none⟩), .int .i64 0, .string ⟨#[97]⟩] w fun e w' => e = .returned (.int .i64 0) ∧ Tog w0 S w' (k :: kLink 53 m s1 :: l) := by
  have := h.xsend (i := 1) rfl 0 bA (by unfold InI; omega); rw [r1] at this; exact this
theorem z7 {l : List Kd} {k : Kd} (h : Tog w0 S w (k :: kLink 53 m s1 :: l)) : Calls Try.prog 24 #[.pointer (some ⟨m, 0, none⟩)] w fun e w' => e = .returned (.tuple #[]) ∧ Tog w0 S w' (k :: kLink 53 m s3 :: l) := h.xcut (i := 1) rfl
theorem z8 {l : List Kd} {k : Kd} (h : Tog w0 S w (k :: kLink 53 m s3 :: l)) : Calls Try.prog 20 #[.pointer (some ⟨m, 0, none⟩), .int .i64 0, .string ⟨#[99]⟩] w fun e w' => e = .returned (.int .i64 28) ∧ Tog w0 S w' (k :: kLink 53 m s3 :: l) := by
  have := h.xsend (i := 1) rfl 0 bC (by unfold InI; omega); rw [r6] at this; exact this
theorem z9 {l : List Kd} {k : Kd} (h : Tog w0 S w (k :: kLink 53 m s3 :: l)) : Calls Try.prog 25 #[.pointer (some ⟨m, 0, none⟩)] w fun e w' => e = .returned (.tuple #[]) ∧ Tog w0 S w' (k :: kLink 53 m LS.new :: l) := h.xjoin (i := 1) rfl
theorem zc {l : List Kd} {k : Kd} (h : Tog w0 S w (k :: kLink 53 m LS.new :: l)) : Calls Try.prog 15 #[.pointer (some ⟨m, 0, none⟩)] w fun e w' => e = .returned (.int .i64 0) ∧ w = w' := h.xcount (i := 1) rfl
theorem zi {l : List Kd} {k : Kd} (h : Tog w0 S w (k :: kLink 53 m LS.new :: l)) : Calls Try.prog 16 #[.pointer (some ⟨m, 0, none⟩)] w fun e w' => e = .returned (.bool false) ∧ w = w' := h.xiscut (i := 1) rfl
end
set_option maxHeartbeats 2000000 in
theorem small_any (w : World) : Calls Try.prog 7 #[] w fun e w' => e = .returned (.bool true) ∧ Below w.heap.size w w' := by
  have N1 := Lib.hid ((Tog.nil w (fun _ => False)).xnew)
  go_enter Try.func7, Try.ntmps7
  go_wp2_with (first
    | (go_at_call 8; refine N1.out.mono ?_; rintro e w1 ⟨p, rfl, t⟩; have N2 := Lib.hid t.xnew; clear t N1)
    | (go_at_call 8; refine N2.out.mono ?_; rintro e w2 ⟨m, rfl, t⟩; have T1 := Lib.hid (z1 t); clear t N2)
    | (go_at_call 20; refine T1.out.mono ?_; rintro e w3 ⟨rfl, t⟩; have T2 := Lib.hid (z2 t); clear t T1)
    | (go_at_call 20; refine T2.out.mono ?_; rintro e w4 ⟨rfl, t⟩; have T3 := Lib.hid (z3 t); clear t T2)
    | (go_at_call 21; refine T3.out.mono ?_; rintro e w5 ⟨rfl, t⟩; have T4 := Lib.hid (z4 t); clear t T3)
    | (go_at_call 21; refine T4.out.mono ?_; rintro e w6 ⟨rfl, t⟩; have T5 := Lib.hid (z5 t); clear t T4)
    | (go_at_call 21; refine T5.out.mono ?_; rintro e w7 ⟨rfl, t⟩; have T6 := Lib.hid (z6 t); clear t T5)
    | (go_at_call 20; refine T6.out.mono ?_; rintro e w8 ⟨rfl, t⟩; have T7 := Lib.hid (z7 t); clear t T6)
    | (go_at_call 24; refine T7.out.mono ?_; rintro e w9 ⟨rfl, t⟩; have T8 := Lib.hid (z8 t); clear t T7)
    | (go_at_call 20; refine T8.out.mono ?_; rintro e w10 ⟨rfl, t⟩; have T9 := Lib.hid (z9 t); clear t T8)
    | (go_at_call 25; refine T9.out.mono ?_; rintro e w11 ⟨rfl, t⟩; have k0 := t.cellAt (j := 2) rfl 0 rfl; have k1 := t.cellAt (j := 2) rfl 1 rfl; have k2 := t.cellAt (j := 3) rfl 0 rfl; have k3 := t.cellAt (j := 3) rfl 1 rfl; have TC := Lib.hid (zc t); have TI := Lib.hid (zi t); have TB := Lib.hid t.top; clear t T9)
    | (go_at_call 15; refine TC.out.mono ?_; rintro e w12 ⟨rfl, rfl⟩)
    | (go_at_call 16; refine TI.out.mono ?_; rintro e w12 ⟨rfl, rfl⟩))
  go_ret
  exact ⟨rfl, TB.out⟩
end Go.Proofs.Ytgdcocfekjlhfaa
