/-
  PACKAGE cell: Set, whole; the laws' again and small.
-/
import Derived.Test.YtdejajpmebgidaaDoorKd
import Derived.Test.YtdejajpmebgidaaDoorKf
import Derived.Test.YtdejajpmebgidaaDoorJn
namespace Go.Proofs.YtdejajpmebgidaaDoor
open Go.RowKit Go.Maps WireM DiskM CellM
set_option linter.unusedVariables false
set_option linter.unusedSimpArgs false
set_option maxRecDepth 100000

set_option maxHeartbeats 4000000 in
theorem cset_any {w0 w : World} {l : List Kd} {i j p z : Nat} {f : Int} {s : St} {c : CS} (hij : i ≠ j) (hi : i < l.length) (hj : j < l.length) (h : Tog w0 w (DC 61 l i j p z f s c)) (hS : Slots w0) (t : List UInt8) :
    Calls Tryd.prog 11 #[.pointer (some ⟨z, 0, none⟩), .string (bs t)] w fun e w' => e = .returned (.int .i64 (setS s f c t).2.2) ∧ Tog w0 w' (DC 61 l i j p z f (setS s f c t).1 (setS s f c t).2.1) := by
  have hlen : (bs t).size = t.length := rfl
  by_cases ht : 65536 < t.length
  · have E : setS s f c t = (s, c, 6) := by unfold setS; rw [if_pos ht]
    rw [E]
    have H := Lib.hid h
    have g0 : (65536 : Int) < ((bs t).size : Int) := by rw [hlen]; omega
    clear h hlen ht E
    go_enter Tryd.func11, Tryd.ntmps11
    go_wp2
    go_ret
    exact ⟨rfl, H.out⟩
  have ht' : t.length ≤ 65536 := by omega
  by_cases hc : c.slot ≠ 0 ∧ c.sure = false
  · by_cases hr : (s.sync f).2 = 0
    · have E : setS s f c t = set2 (s.sync f).1 f { c with sure := true } t := by unfold setS; rw [if_neg ht, if_pos hc, if_neg (fun h => h hr)]
      rw [E]
      exact set2_walk hij hi hj h hS t ht' (.inr (.inr ⟨hc.1, hc.2, hr, rfl, rfl⟩))
    · have E : setS s f c t = ((s.sync f).1, c, (s.sync f).2) := by unfold setS; rw [if_neg ht, if_pos hc, if_pos hr]
      rw [E]
      have F := h.cellF (DC_j hj)
      have y2 := F.c2
      have y4 := F.c4
      rw [hc.2] at y4
      have n0 : ((c.slot : Int) != 0) = true := by simpa using hc.1
      have SEC := DC.secure hij hi hj h
      have ec : ({ c with sure := decide ((s.sync f).2 = 0) } : CS) = c := by
        rw [decide_eq_false hr, ← hc.2]
      rw [ec] at SEC
      have SE := Lib.hid SEC
      have n1 : ((s.sync f).2 != 0) = true := by simpa using hr
      generalize s.sync f = R at *
      obtain ⟨s1, r⟩ := R
      simp only at n1 SE
      have g0 : ¬ (65536 : Int) < ((bs t).size : Int) := by rw [hlen]; omega
      clear F SEC ec hr hc E h hlen ht ht'
      go_enter Tryd.func11, Tryd.ntmps11
      go_wp2_with (go_at_call 32; refine SE.out.mono ?_; rintro e w1 ⟨rfl, t1⟩; have T1 := Lib.hid t1; clear t1 SE)
      go_ret
      exact ⟨rfl, T1.out⟩
  · have E : setS s f c t = set2 s f c t := by unfold setS; rw [if_neg ht, if_neg hc]
    rw [E]
    refine set2_walk hij hi hj h hS t ht' ?_
    by_cases h0 : c.slot = 0
    · exact .inl ⟨h0, rfl, rfl⟩
    · refine .inr (.inl ⟨h0, ?_, rfl, rfl⟩)
      cases hs : c.sure
      · exact absurd ⟨h0, hs⟩ hc
      · rfl
theorem again_any {w0 w : World} {l : List Kd} (h : Tog w0 w l) (hS : Slots w0) {i p : Nat} {s : St} (hi : l[i]? = some (kDisk p s)) {a : Option Addr} {c : Nat} {k : List Int} (K : NumsAt w0 a c k) :
    Calls Tryd.prog 17 #[.pointer (some ⟨p, 0, none⟩), .slice a k.length c] w (OpenPost 61 w0 (l.set i (kDisk p (s.crash k).start)) p 3 (openS (s.crash k).start 3)) := by
  have C := Lib.hid (h.crash hi K)
  have hil : i < l.length := (List.getElem?_eq_some_iff.1 hi).1
  have S := Lib.hid (fun W (hW : Tog w0 W (l.set i (kDisk p (s.crash k)))) => hW.start (List.getElem?_set_self hil))
  have O := Lib.hid (fun W (hW : Tog w0 W (l.set i (kDisk p (s.crash k).start))) => open_any hW hS (List.getElem?_set_self hil) 3 (by unfold InI; omega))
  have e1 : ∀ x, (l.set i (kDisk p (s.crash k))).set i x = l.set i x := fun x => List.set_set _
  generalize hO : openS (s.crash k).start 3 = o at *
  obtain ⟨oc, r⟩ := o
  clear h hi hil hO
  cases oc with
  | some cs =>
    go_enter Tryd.func17, Tryd.ntmps17
    go_wp2_with (first
      | (go_at_call 22; refine C.out.mono ?_; rintro e w1 ⟨rfl, t1⟩; have T1 := Lib.hid t1; clear t1)
      | (go_at_call 23; refine (S.out _ T1.out).mono ?_; rintro e w2 ⟨rfl, t2⟩; rw [e1] at t2; have T2 := Lib.hid t2; clear t2)
      | (go_at_call 9; refine (O.out _ T2.out).mono ?_; rintro e w3 ⟨z, rfl, t3⟩; have T3 := Lib.hid t3; clear t3))
    go_ret2
    exact ⟨_, rfl, T3.out⟩
  | none =>
    go_enter Tryd.func17, Tryd.ntmps17
    go_wp2_with (first
      | (go_at_call 22; refine C.out.mono ?_; rintro e w1 ⟨rfl, t1⟩; have T1 := Lib.hid t1; clear t1)
      | (go_at_call 23; refine (S.out _ T1.out).mono ?_; rintro e w2 ⟨rfl, t2⟩; rw [e1] at t2; have T2 := Lib.hid t2; clear t2)
      | (go_at_call 9; refine (O.out _ T2.out).mono ?_; rintro e w3 ⟨rfl, t3⟩; have T3 := Lib.hid t3; clear t3))
    go_ret2
    exact ⟨rfl, T3.out⟩
theorem open_new (f : Int) (hf : isF f) : openS St.new f = (some ⟨0, [], false⟩, 0) := by
  unfold openS
  rw [if_neg (by simp [St.new]), if_neg (fun h => h hf)]
  rfl
set_option maxHeartbeats 8000000 in
theorem csmall_any (w : World) (hS : Slots w) : Calls Tryd.prog 5 #[] w fun e w' => e = .returned (.bool true) ∧ Below w.heap.size w w' := by
  have T0 := Lib.hid (Tog.nil w)
  have HS := Lib.hid hS
  have I3 : InI 3 := by unfold InI; omega
  have O := Lib.hid (fun W p (hW : Tog w W [kDisk p St.new]) => (open_new 3 f3) ▸ open_any hW hS (i := 0) rfl 3 (by unfold InI; omega))
  have S1 := Lib.hid (fun W p z (hW : Tog w W [kDisk p St.new, kCell 61 z p 3 ⟨0, [], false⟩]) => show Calls Tryd.prog 11 #[.pointer (some ⟨z, 0, none⟩), .string ⟨#[97]⟩] W (fun e w' => e = .returned (.int .i64 0) ∧ Tog w w' [kDisk p ex1, kCell 61 z p 3 ⟨1, [97], true⟩]) from by
    have := cset_any (l := [kDisk p St.new, kDisk p St.new]) (i := 0) (j := 1) (by decide) (by simp) (by simp) hW hS [97]
    rw [ex1_is.1] at this
    exact this)
  have S2 := Lib.hid (fun W p z (hW : Tog w W [kDisk p ex1, kCell 61 z p 3 ⟨1, [97], true⟩]) => show Calls Tryd.prog 11 #[.pointer (some ⟨z, 0, none⟩), .string ⟨#[98, 99]⟩] W (fun e w' => e = .returned (.int .i64 0) ∧ Tog w w' [kDisk p ex2, kCell 61 z p 3 ⟨2, [98, 99], true⟩]) from by
    have := cset_any (l := [kDisk p St.new, kDisk p St.new]) (i := 0) (j := 1) (by decide) (by simp) (by simp) hW hS [98, 99]
    rw [ex2_is.1] at this
    exact this)
  obtain ⟨x1, x2, x3⟩ := ex_reads
  have R := Lib.hid (fun W p z (hW : Tog w W [kDisk p ex2, kCell 61 z p 3 ⟨2, [98, 99], true⟩]) (a n : Nat) (ha : a ≤ 1000000) (hn : n ≤ 1000000) => by
    have := hW.read (i := 0) rfl 3 a n (by unfold InI; omega) (by unfold InI; omega) (by unfold InI; omega)
    rw [read_up ex2_is.2.1 f3 (by omega) (by omega), Int.toNat_natCast, Int.toNat_natCast] at this
    exact this)
  have R1 := Lib.hid (fun W p z (hW : Tog w W [kDisk p ex2, kCell 61 z p 3 ⟨2, [98, 99], true⟩]) => show Calls Tryd.prog 25 #[.pointer (some ⟨p, 0, none⟩), .int .i64 3, .int .i64 0, .int .i64 6] W (fun e w' => e = .returned (.tuple #[.string ⟨#[2, 2, 0, 0, 0, 0]⟩, .int .i64 0]) ∧ W = w') from by
    have := R.out W p z hW 0 6 (by omega) (by omega)
    rw [List.drop_zero, x1] at this
    exact this)
  have R2 := Lib.hid (fun W p z (hW : Tog w W [kDisk p ex2, kCell 61 z p 3 ⟨2, [98, 99], true⟩]) => show Calls Tryd.prog 25 #[.pointer (some ⟨p, 0, none⟩), .int .i64 3, .int .i64 64, .int .i64 1] W (fun e w' => e = .returned (.tuple #[.string ⟨#[97]⟩, .int .i64 0]) ∧ W = w') from by
    have := R.out W p z hW 64 1 (by omega) (by omega)
    rw [x2] at this
    exact this)
  have R3 := Lib.hid (fun W p z (hW : Tog w W [kDisk p ex2, kCell 61 z p 3 ⟨2, [98, 99], true⟩]) => show Calls Tryd.prog 25 #[.pointer (some ⟨p, 0, none⟩), .int .i64 3, .int .i64 131072, .int .i64 9] W (fun e w' => e = .returned (.tuple #[.string ⟨#[98, 99]⟩, .int .i64 0]) ∧ W = w') from by
    have := R.out W p z hW 131072 9 (by omega) (by omega)
    rw [x3] at this
    exact this)
  have G1 := Lib.hid (fun W p z (hW : Tog w W [kDisk p St.new, kCell 61 z p 3 ⟨0, [], false⟩]) => show Calls Tryd.prog 20 #[.pointer (some ⟨z, 0, none⟩)] W (fun e w' => e = .returned (.tuple #[.string ⟨#[]⟩, .bool false]) ∧ Tog w w' [kDisk p St.new, kCell 61 z p 3 ⟨0, [], false⟩]) from cget_any hW (j := 1) rfl)
  have G2 := Lib.hid (fun W p z (hW : Tog w W [kDisk p ex2, kCell 61 z p 3 ⟨2, [98, 99], true⟩]) => show Calls Tryd.prog 20 #[.pointer (some ⟨z, 0, none⟩)] W (fun e w' => e = .returned (.tuple #[.string ⟨#[98, 99]⟩, .bool true]) ∧ Tog w w' [kDisk p ex2, kCell 61 z p 3 ⟨2, [98, 99], true⟩]) from cget_any hW (j := 1) rfl)
  clear x1 x2 x3 I3 hS R
  go_enter Tryd.func5, Tryd.ntmps5
  go_wp2_with (first
    | (go_at_call 7; refine (T0.out.new).mono ?_; rintro e w1 ⟨p, rfl, t1⟩; have T1 := Lib.hid (show Tog w w1 [kDisk p St.new] from t1); clear t1)
    | (go_at_call 9; refine (O.out _ _ T1.out).mono ?_; rintro e w2 ⟨z, rfl, t2⟩; have T2 := Lib.hid (show Tog w w2 [kDisk p St.new, kCell 61 z p 3 ⟨0, [], false⟩] from t2); clear t2)
    | (go_at_call 20; refine (G1.out _ _ _ T2.out).mono ?_; rintro e w3 ⟨rfl, t3⟩; have T3 := Lib.hid t3; clear t3 G1)
    | (go_at_call 11; refine (S1.out _ _ _ T3.out).mono ?_; rintro e w4 ⟨rfl, t4⟩; have T4 := Lib.hid t4; clear t4 S1)
    | (go_at_call 11; refine (S2.out _ _ _ T4.out).mono ?_; rintro e w5 ⟨rfl, t5⟩; have T5 := Lib.hid t5; clear t5 S2)
    | (go_at_call 20; refine (G2.out _ _ _ T5.out).mono ?_; rintro e w6 ⟨rfl, t6⟩; have T6 := Lib.hid t6; clear t6 G2)
    | (go_at_call 25; refine (R1.out _ _ _ T6.out).mono ?_; rintro e w7 ⟨rfl, rfl⟩; clear R1)
    | (go_at_call 25; refine (R2.out _ _ _ T6.out).mono ?_; rintro e w7 ⟨rfl, rfl⟩; clear R2)
    | (go_at_call 25; refine (R3.out _ _ _ T6.out).mono ?_; rintro e w7 ⟨rfl, rfl⟩; clear R3))
  go_ret
  exact ⟨rfl, T6.out.bel⟩
end Go.Proofs.YtdejajpmebgidaaDoor
