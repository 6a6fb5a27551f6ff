/-
  THE LAWS' small.
-/
import Derived.Test.YtpabkaihppnddaaCl
namespace Go.Proofs.Ytpabkaihppnddaa
open Go.RowKit
set_option linter.unusedVariables false
set_option linter.unusedSimpArgs false
set_option maxRecDepth 100000
def sAB : ByteArray := ⟨#[97, 98]⟩
def m0 : Fm := [none, none]
def m1 : Fm := [some zpage, none]
def m2 : Fm := [some zpage, some zpage]
def m3 : Fm := [some (zpage.set 63 7), some zpage]
def m4 : Fm := [none, some zpage]
def m6 : Fm := [some zpage, some (fillOf sAB)]
theorem q0 : Fm.new 2 = m0 := by rfl
theorem q1 : m0.alloc = (m1, 0, true) := by rfl
theorem q2 : m1.alloc = (m2, 1, true) := by rfl
theorem q3 : m2.alloc = (m2, 0, false) := by rfl
theorem q4 : m2.put 0 63 7 = (m3, 0) := by rfl
theorem q5 : m3.free 0 = (m4, 0) := by rfl
theorem q6 : m4.alloc = (m2, 0, true) := by rfl
theorem q7 : m2.fill 1 sAB = (m6, 0) := by rfl
theorem q8 : m6.byte 0 63 = 0 := by rfl
theorem q9 : (m6.page 1).size = 64 := by rfl
theorem q10 : m6.byte 1 1 = 98 := by rfl
theorem q11 : m6.byte 1 2 = 0 := by rfl
theorem q12 : m6.used = 2 := by rfl
section
variable {w0 w : World} {S : Nat → Prop} {p : Nat}
theorem z0 (h : Tog w0 S w []) : Calls Try.prog 9 #[.int .i64 2] w fun e w' => ∃ p, e = .returned (.pointer (some ⟨p, 0, none⟩)) ∧ Tog w0 S w' [kFr p m0] := by
  have := h.xnew 2 (by unfold InI; omega); rw [q0] at this; exact this
theorem z1 (h : Tog w0 S w [kFr p m0]) : Calls Try.prog 25 #[.pointer (some ⟨p, 0, none⟩)] w fun e w' => e = .returned (.tuple #[.int .i64 0, .bool true]) ∧ Tog w0 S w' [kFr p m1] := by
  have := h.xalloc (i := 0) rfl; rw [q1] at this; exact this
theorem z2 (h : Tog w0 S w [kFr p m1]) : Calls Try.prog 25 #[.pointer (some ⟨p, 0, none⟩)] w fun e w' => e = .returned (.tuple #[.int .i64 1, .bool true]) ∧ Tog w0 S w' [kFr p m2] := by
  have := h.xalloc (i := 0) rfl; rw [q2] at this; exact this
theorem z3 (h : Tog w0 S w [kFr p m2]) : Calls Try.prog 25 #[.pointer (some ⟨p, 0, none⟩)] w fun e w' => e = .returned (.tuple #[.int .i64 0, .bool false]) ∧ Tog w0 S w' [kFr p m2] := by
  have := h.xalloc (i := 0) rfl; rw [q3] at this; exact this
theorem z4 (h : Tog w0 S w [kFr p m2]) : Calls Try.prog 29 #[.pointer (some ⟨p, 0, none⟩), .int .i64 0, .int .i64 63, .int .u8 7] w fun e w' => e = .returned (.int .i64 0) ∧ Tog w0 S w' [kFr p m3] := by
  have := h.xset (i := 0) rfl 0 63 7 (by unfold InI; omega); rw [q4] at this; exact this
theorem z5 (h : Tog w0 S w [kFr p m3]) : Calls Try.prog 27 #[.pointer (some ⟨p, 0, none⟩), .int .i64 0] w fun e w' => e = .returned (.int .i64 0) ∧ Tog w0 S w' [kFr p m4] := by
  have := h.xfree (i := 0) rfl 0 (by unfold InI; omega); rw [q5] at this; exact this
theorem z6 (h : Tog w0 S w [kFr p m4]) : Calls Try.prog 25 #[.pointer (some ⟨p, 0, none⟩)] w fun e w' => e = .returned (.tuple #[.int .i64 0, .bool true]) ∧ Tog w0 S w' [kFr p m2] := by
  have := h.xalloc (i := 0) rfl; rw [q6] at this; exact this
theorem z7 (h : Tog w0 S w [kFr p m2]) : Calls Try.prog 26 #[.pointer (some ⟨p, 0, none⟩), .int .i64 1, .string ⟨#[97, 98]⟩] w fun e w' => e = .returned (.int .i64 0) ∧ Tog w0 S w' [kFr p m6] := by
  have := h.xfill (i := 0) rfl 1 sAB (by unfold InI; omega); rw [q7] at this; exact this
theorem z8 (h : Tog w0 S w [kFr p m6]) : Calls Try.prog 17 #[.pointer (some ⟨p, 0, none⟩), .int .i64 0, .int .i64 63] w fun e w' => e = .returned (.int .u8 0) ∧ w' = w := by
  have := h.xbyte (i := 0) rfl 0 63 (by unfold InI; omega); rw [q8] at this; exact this
theorem z9 (h : Tog w0 S w [kFr p m6]) : Calls Try.prog 19 #[.pointer (some ⟨p, 0, none⟩), .int .i64 1] w fun e w' => ∃ s, s.size = 64 ∧ e = .returned (.string s) ∧ w' = w :=
  (h.xpage (i := 0) rfl 1 (by unfold InI; omega)).mono (fun e w' ⟨a, b⟩ => ⟨_, q9, a, b⟩)
theorem z10 (h : Tog w0 S w [kFr p m6]) : Calls Try.prog 17 #[.pointer (some ⟨p, 0, none⟩), .int .i64 1, .int .i64 1] w fun e w' => e = .returned (.int .u8 98) ∧ w' = w := by
  have := h.xbyte (i := 0) rfl 1 1 (by unfold InI; omega); rw [q10] at this; exact this
theorem z11 (h : Tog w0 S w [kFr p m6]) : Calls Try.prog 17 #[.pointer (some ⟨p, 0, none⟩), .int .i64 1, .int .i64 2] w fun e w' => e = .returned (.int .u8 0) ∧ w' = w := by
  have := h.xbyte (i := 0) rfl 1 2 (by unfold InI; omega); rw [q11] at this; exact this
theorem z12 (h : Tog w0 S w [kFr p m6]) : Calls Try.prog 13 #[.pointer (some ⟨p, 0, none⟩)] w fun e w' => e = .returned (.int .i64 2) ∧ w' = w := by
  have := h.xused (i := 0) rfl; rw [q12] at this; exact this
theorem z13 (h : Tog w0 S w [kFr p m6]) : Calls Try.prog 21 #[.pointer (some ⟨p, 0, none⟩)] w fun e w' => e = .returned (.int .i64 2) ∧ w' = w := h.xsize (i := 0) rfl
end
set_option maxHeartbeats 2000000 in
theorem small_any (w : World) : Calls Try.prog 7 #[] w fun e w' => e = .returned (.bool true) ∧ Below w.heap.size w w' := by
  have N1 := Lib.hid (z0 (Tog.nil w (fun _ => False)))
  go_enter Try.func7, Try.ntmps7
  go_wp2_with (first
    | (go_at_call 9; refine N1.out.mono ?_; rintro e w1 ⟨p, rfl, t⟩; have T1 := Lib.hid (z1 t); clear t N1)
    | (go_at_call 25; refine T1.out.mono ?_; rintro e w2 ⟨rfl, t⟩; have T2 := Lib.hid (z2 t); clear t T1)
    | (go_at_call 25; refine T2.out.mono ?_; rintro e w3 ⟨rfl, t⟩; have T3 := Lib.hid (z3 t); clear t T2)
    | (go_at_call 25; refine T3.out.mono ?_; rintro e w4 ⟨rfl, t⟩; have T4 := Lib.hid (z4 t); clear t T3)
    | (go_at_call 29; refine T4.out.mono ?_; rintro e w5 ⟨rfl, t⟩; have T5 := Lib.hid (z5 t); clear t T4)
    | (go_at_call 27; refine T5.out.mono ?_; rintro e w6 ⟨rfl, t⟩; have T6 := Lib.hid (z6 t); clear t T5)
    | (go_at_call 25; refine T6.out.mono ?_; rintro e w7 ⟨rfl, t⟩; have T7 := Lib.hid (z7 t); clear t T6)
    | (go_at_call 26; refine T7.out.mono ?_; rintro e w8 ⟨rfl, t⟩; have T8 := Lib.hid (z8 t); have T9 := Lib.hid (z9 t); have T10 := Lib.hid (z10 t); have T11 := Lib.hid (z11 t); have T12 := Lib.hid (z12 t); have T13 := Lib.hid (z13 t); have FIN := Lib.hid t; clear t T7)
    | (go_at_call 17; refine T8.out.mono ?_; rintro e w9 ⟨rfl, hw⟩; subst w9; clear T8)
    | (go_at_call 19; refine T9.out.mono ?_; rintro e w9 ⟨s, hs, rfl, hw⟩; subst w9; clear T9)
    | (go_at_call 17; refine T10.out.mono ?_; rintro e w9 ⟨rfl, hw⟩; subst w9; clear T10)
    | (go_at_call 17; refine T11.out.mono ?_; rintro e w9 ⟨rfl, hw⟩; subst w9; clear T11)
    | (go_at_call 13; refine T12.out.mono ?_; rintro e w9 ⟨rfl, hw⟩; subst w9; clear T12)
    | (go_at_call 21; refine T13.out.mono ?_; rintro e w9 ⟨rfl, hw⟩; subst w9; clear T13))
  go_ret
  exact ⟨rfl, FIN.out.top⟩
end Go.Proofs.Ytpabkaihppnddaa
