/-
  CellReads: the walk.
-/
import Derived.Test.YtdejajpmebgidaaDoorKg
import Derived.Test.YtdejajpmebgidaaDoorKt
namespace Go.Proofs.YtdejajpmebgidaaDoor
open Go.RowKit Go.Maps WireM DiskM CellM
set_option linter.unusedVariables false
set_option linter.unusedSimpArgs false
set_option maxRecDepth 100000

theorem tog_new {w W : World} (b : Below w.heap.size w W) : Calls Tryd.prog 7 #[] W (fun e w' => ∃ p, e = .returned (.pointer (some ⟨p, 0, none⟩)) ∧ Tog w w' [kDisk p St.new]) := ((Tog.nil w).on b).new
theorem tog_rnew {w W : World} {p : Nat} {s : St} (h : Tog w W [kDisk p s]) : Calls Tryd.prog 8 #[] W (fun e w' => ∃ r, e = .returned (.pointer (some ⟨r, 0, none⟩)) ∧ Tog w w' [kDisk p s, kRef r St.new]) := h.rnew
set_option maxHeartbeats 16000000 in
theorem creads_main {w : World} (hS : Slots w) (s t : ByteArray) (f : Int) (hs : s.size ≤ 300) (ht : t.size ≤ 300) (hf : InI f) :
    Calls Tryd.prog 4 #[.string s, .string t, .int .i64 f] w fun e w' => e = .returned (.bool true) ∧ Below w.heap.size w w' := by
  obtain ⟨s1, r1, e1⟩ : ∃ s1 r1, St.new.write f 0 s.data.toList = (s1, r1) := ⟨_, _, rfl⟩
  obtain ⟨s2, r2, e2⟩ : ∃ s2 r2, s1.write f 131072 t.data.toList = (s2, r2) := ⟨_, _, rfl⟩
  have SM := Lib.hid (csmall_any w hS)
  have NW := Lib.hid (fun W b => tog_new (w := w) (W := W) b)
  have RN := Lib.hid (fun W p (h : Tog w W [kDisk p St.new]) => tog_rnew h)
  have W1 := Lib.hid (fun W p r (hW : Tog w W [kDisk p St.new, kRef r St.new]) => show Calls Tryd.prog 28 #[.pointer (some ⟨p, 0, none⟩), .int .i64 f, .int .i64 0, .string s] W (fun e w' => e = .returned (.int .i64 r1) ∧ Tog w w' [kDisk p s1, kRef r St.new]) from by
    have := hW.write (i := 0) rfl f 0 s (by omega)
    rw [e1] at this; exact this)
  have V1 := Lib.hid (fun W p r (hW : Tog w W [kDisk p s1, kRef r St.new]) => show Calls Tryd.prog 29 #[.pointer (some ⟨r, 0, none⟩), .int .i64 f, .int .i64 0, .string s] W (fun e w' => e = .returned (.int .i64 r1) ∧ Tog w w' [kDisk p s1, kRef r s1]) from by
    have := hW.rwrite (i := 1) rfl f 0 s (by unfold InI; omega) (by omega)
    rw [e1] at this; exact this)
  have W2 := Lib.hid (fun W p r (hW : Tog w W [kDisk p s1, kRef r s1]) => show Calls Tryd.prog 28 #[.pointer (some ⟨p, 0, none⟩), .int .i64 f, .int .i64 131072, .string t] W (fun e w' => e = .returned (.int .i64 r2) ∧ Tog w w' [kDisk p s2, kRef r s1]) from by
    have := hW.write (i := 0) rfl f 131072 t (by omega)
    rw [e2] at this; exact this)
  have V2 := Lib.hid (fun W p r (hW : Tog w W [kDisk p s2, kRef r s1]) => show Calls Tryd.prog 29 #[.pointer (some ⟨r, 0, none⟩), .int .i64 f, .int .i64 131072, .string t] W (fun e w' => e = .returned (.int .i64 r2) ∧ Tog w w' [kDisk p s2, kRef r s2]) from by
    have := hW.rwrite (i := 1) rfl f 131072 t (by unfold InI; omega) (by omega)
    rw [e2] at this; exact this)
  have i1 : ¬ (300 : Int) < (s.size : Int) := by omega
  have i2 : ¬ (300 : Int) < (t.size : Int) := by omega
  obtain ⟨oc, x, ho⟩ : ∃ oc x, openS s2 f = (oc, x) := ⟨_, _, rfl⟩
  cases oc with
  | none =>
    have OA := Lib.hid (fun W p r (hW : Tog w W [kDisk p s2, kRef r s2]) => show Calls Tryd.prog 9 #[.pointer (some ⟨p, 0, none⟩), .int .i64 f] W (fun e w' => e = .returned (.tuple #[.pointer none, .int .i64 x]) ∧ Tog w w' [kDisk p s2, kRef r s2]) from by
      have := open_any hW hS (i := 0) rfl f hf
      rw [ho] at this; exact this)
    have OB := Lib.hid (fun W p r (hW : Tog w W [kDisk p s2, kRef r s2]) => show Calls Tryd.prog 10 #[.pointer (some ⟨r, 0, none⟩), .int .i64 f] W (fun e w' => e = .returned (.tuple #[.pointer none, .int .i64 x]) ∧ Tog w w' [kDisk p s2, kRef r s2]) from by
      have := ropen_any hW (i := 1) rfl f hf
      rw [ho] at this; exact this)
    clear e1 e2 ho hS hf hs ht
    go_enter Tryd.func4, Tryd.ntmps4
    go_wp2_with (first
      | (go_at_call 5; refine SM.out.mono ?_; rintro e w1 ⟨rfl, b1⟩; have B1 := Lib.hid b1; clear b1 SM)
      | (go_at_call 7; refine (NW.out _ B1.out).mono ?_; rintro e w2 ⟨p, rfl, t2⟩; have T2 := Lib.hid t2; clear t2 NW)
      | (go_at_call 8; refine (RN.out _ _ T2.out).mono ?_; rintro e w3 ⟨r, rfl, t3⟩; have T3 := Lib.hid t3; clear t3 RN)
      | (go_at_call 28; refine (W1.out _ _ _ T3.out).mono ?_; rintro e w4 ⟨rfl, t4⟩; have T4 := Lib.hid t4; clear t4 W1)
      | (go_at_call 29; refine (V1.out _ _ _ T4.out).mono ?_; rintro e w5 ⟨rfl, t5⟩; have T5 := Lib.hid t5; clear t5 V1)
      | (go_at_call 28; refine (W2.out _ _ _ T5.out).mono ?_; rintro e w6 ⟨rfl, t6⟩; have T6 := Lib.hid t6; clear t6 W2)
      | (go_at_call 29; refine (V2.out _ _ _ T6.out).mono ?_; rintro e w7 ⟨rfl, t7⟩; have T7 := Lib.hid t7; clear t7 V2)
      | (go_at_call 9; refine (OA.out _ _ _ T7.out).mono ?_; rintro e w8 ⟨rfl, t8⟩; have T8 := Lib.hid t8; clear t8 OA)
      | (go_at_call 10; refine (OB.out _ _ _ T8.out).mono ?_; rintro e w9 ⟨rfl, t9⟩; have T9 := Lib.hid t9; clear t9 OB))
    go_ret
    exact ⟨rfl, T9.out.bel⟩
  | some cs =>
    have OA := Lib.hid (fun W p r (hW : Tog w W [kDisk p s2, kRef r s2]) => show Calls Tryd.prog 9 #[.pointer (some ⟨p, 0, none⟩), .int .i64 f] W (fun e w' => ∃ z, e = .returned (.tuple #[.pointer (some ⟨z, 0, none⟩), .int .i64 x]) ∧ Tog w w' [kDisk p s2, kRef r s2, kCell 61 z p f cs]) from by
      have := open_any hW hS (i := 0) rfl f hf
      rw [ho] at this; exact this)
    have OB := Lib.hid (fun W p r z (hW : Tog w W [kDisk p s2, kRef r s2, kCell 61 z p f cs]) => show Calls Tryd.prog 10 #[.pointer (some ⟨r, 0, none⟩), .int .i64 f] W (fun e w' => ∃ y, e = .returned (.tuple #[.pointer (some ⟨y, 0, none⟩), .int .i64 x]) ∧ Tog w w' [kDisk p s2, kRef r s2, kCell 61 z p f cs, kCell 66 y r f cs]) from by
      have := ropen_any hW (i := 1) rfl f hf
      rw [ho] at this; exact this)
    have GA := Lib.hid (fun W p r z y (hW : Tog w W [kDisk p s2, kRef r s2, kCell 61 z p f cs, kCell 66 y r f cs]) => cget_any hW (j := 2) rfl)
    have GB := Lib.hid (fun W p r z y (hW : Tog w W [kDisk p s2, kRef r s2, kCell 61 z p f cs, kCell 66 y r f cs]) => rcget_any hW (j := 3) rfl)
    generalize decide (cs.slot ≠ 0) = d at *
    generalize bs cs.val = v at *
    clear e1 e2 ho hS hf hs ht
    go_enter Tryd.func4, Tryd.ntmps4
    go_wp2_with (first
      | (go_at_call 5; refine SM.out.mono ?_; rintro e w1 ⟨rfl, b1⟩; have B1 := Lib.hid b1; clear b1 SM)
      | (go_at_call 7; refine (NW.out _ B1.out).mono ?_; rintro e w2 ⟨p, rfl, t2⟩; have T2 := Lib.hid t2; clear t2 NW)
      | (go_at_call 8; refine (RN.out _ _ T2.out).mono ?_; rintro e w3 ⟨r, rfl, t3⟩; have T3 := Lib.hid t3; clear t3 RN)
      | (go_at_call 28; refine (W1.out _ _ _ T3.out).mono ?_; rintro e w4 ⟨rfl, t4⟩; have T4 := Lib.hid t4; clear t4 W1)
      | (go_at_call 29; refine (V1.out _ _ _ T4.out).mono ?_; rintro e w5 ⟨rfl, t5⟩; have T5 := Lib.hid t5; clear t5 V1)
      | (go_at_call 28; refine (W2.out _ _ _ T5.out).mono ?_; rintro e w6 ⟨rfl, t6⟩; have T6 := Lib.hid t6; clear t6 W2)
      | (go_at_call 29; refine (V2.out _ _ _ T6.out).mono ?_; rintro e w7 ⟨rfl, t7⟩; have T7 := Lib.hid t7; clear t7 V2)
      | (go_at_call 9; refine (OA.out _ _ _ T7.out).mono ?_; rintro e w8 ⟨z, rfl, t8⟩; have T8 := Lib.hid t8; clear t8 OA)
      | (go_at_call 10; refine (OB.out _ _ _ _ T8.out).mono ?_; rintro e w9 ⟨y, rfl, t9⟩; have T9 := Lib.hid t9; clear t9 OB)
      | (go_at_call 20; refine (GA.out _ _ _ _ _ T9.out).mono ?_; rintro e w10 ⟨rfl, t10⟩; have T10 := Lib.hid t10; clear t10 GA)
      | (go_at_call 21; refine (GB.out _ _ _ _ _ T10.out).mono ?_; rintro e w11 ⟨rfl, t11⟩; have T11 := Lib.hid t11; clear t11 GB))
    all_goals
      go_ret
      exact ⟨by first | rfl | simp, T11.out.bel⟩
theorem creads_few {w : World} (hS : Slots w) (s t : ByteArray) (f : Int) (hs : s.size ≤ maxLen) (ht : t.size ≤ maxLen) (hn : ¬ (s.size ≤ 300 ∧ t.size ≤ 300)) :
    Calls Tryd.prog 4 #[.string s, .string t, .int .i64 f] w fun e w' => e = .returned (.bool true) ∧ Below w.heap.size w w' := by
  have SM := Lib.hid (csmall_any w hS)
  have hn' : ¬ ((s.size : Int) ≤ 300 ∧ (t.size : Int) ≤ 300) := fun h => hn ⟨by omega, by omega⟩
  clear hn hS
  go_enter Tryd.func4, Tryd.ntmps4
  go_wp2_with (first
    | (go_at_call 5; refine SM.out.mono ?_; rintro e w1 ⟨rfl, b1⟩; have B1 := Lib.hid b1; clear b1 SM)
    | (exfalso; omega))
  all_goals first
    | (go_ret; exact ⟨rfl, B1.out⟩)
    | (exfalso; omega)
theorem creads_any {w : World} (hS : Slots w) (s t : ByteArray) (f : Int) (hs : s.size ≤ maxLen) (ht : t.size ≤ maxLen) (hf : InI f) :
    Calls Tryd.prog 4 #[.string s, .string t, .int .i64 f] w fun e w' => e = .returned (.bool true) ∧ Below w.heap.size w w' := by
  by_cases hg : s.size ≤ 300 ∧ t.size ≤ 300
  · exact creads_main hS s t f hg.1 hg.2 hf
  · exact creads_few hS s t f hs ht hg
end Go.Proofs.YtdejajpmebgidaaDoor
