/-
  FramesTell.
-/
import Derived.Test.YtpabkaihppnddaaCm
namespace Go.Proofs.Ytpabkaihppnddaa
open Go.RowKit
set_option linter.unusedVariables false
set_option linter.unusedSimpArgs false
set_option maxRecDepth 100000
theorem FrOk.op {L : Fm} (h : FrOk L) (A : OpV) : FrOk (L.op A).1 := by
  unfold Fm.op
  split
  · exact h.alloc
  · split
    · exact h.free _
    · split
      · exact h.put _ _ _
      · exact h.fill _ _
theorem Tog.okTop {w : World} {l : List Kd} (h : Tog w (fun _ => False) w l) : True := trivial
set_option maxHeartbeats 4000000 in
theorem tell_any {a : Option Addr} {c : Nat} {AL : List OpV} (w : World) (h : RowsAt OpV.cells OpV.Ok 5 w.heap.size w a AL) (n f at' : Int) (hn : InI n) (hf : InI f) :
    Calls Try.prog 3 #[.int .i64 n, .slice a AL.length c, .int .i64 f, .int .i64 at'] w fun e w' => e = .returned (.bool true) ∧ Below w.heap.size w w' := by
  have SM := Lib.hid (small_any w)
  by_cases hr : n ≤ 20
  · have FEW := Lib.hid (fun (w1 : World) (b : Below w.heap.size w w1) => few_any (w := w1) (c := c) ⟨h.cells.imp id (fun ⟨x, o, h1, h2, h3⟩ => ⟨x, o, h1, h2, fun i A hA j u hj => (b.cell (p := ⟨x, o + i * 5 + j, none⟩) h2).trans (h3 i A hA j u hj)⟩), h.ok, h.len⟩ h.len)
    cases hfew : fewB AL with
    | false =>
      rw [hfew] at FEW
      clear h
      go_enter Try.func3, Try.ntmps3
      go_wp2_with (first
        | (go_at_call 7; refine SM.out.mono ?_; rintro e w1 ⟨rfl, t⟩; have N3 := Lib.hid (FEW.out w1 t); have TB := Lib.hid t; clear t SM FEW)
        | (go_at_call 8; refine N3.out.mono ?_; rintro e w4 ⟨rfl, hw⟩; subst w4; clear N3))
      go_ret
      exact ⟨rfl, TB.out⟩
    | true =>
      rw [hfew] at FEW
      have hl100 : AL.length ≤ 100 := by
        unfold fewB at hfew
        rw [Bool.and_eq_true] at hfew
        exact of_decide_eq_true hfew.2
      have CE := Lib.hid (fun (wr : World) (hw : Below w.heap.size w wr) i A (hA : AL[i]? = some A) => h.one hw hA)
      have OK := Lib.hid h.ok
      have NEW := Lib.hid (fun (w1 : World) (b : Below w.heap.size w w1) => ((Tog.nil w (fun _ => False)).on b).xnew n hn)
      clear h hfew
      go_enter Try.func3, Try.ntmps3
      go_wp2_with (first
        | (go_at_call 7; refine SM.out.mono ?_; rintro e w1 ⟨rfl, t⟩; have N3 := Lib.hid (FEW.out w1 t); have N1 := Lib.hid (NEW.out w1 t); clear t SM FEW NEW)
        | (go_at_call 8; refine N3.out.mono ?_; rintro e w4 ⟨rfl, hw⟩; subst w4; clear N3)
        | (go_at_call 9; refine N1.out.mono ?_; rintro e w2 ⟨p, rfl, t⟩; have N2 := Lib.hid (t.rnew n hn); clear t N1)
        | (go_at_call 10; refine N2.out.mono ?_; rintro e w3 ⟨r, rfl, t⟩; have T0 := Lib.hid (show Tog w (fun _ => False) w3 [kFr p (Fm.new n), kRef r (Fm.new n)] from t); clear t N2))
      go_loopw [12] (fun i wr => ∃ (j : Nat) (L : Fm), j ≤ AL.length ∧ i = .int .i64 (j : Int) ∧ Hid (Tog w (fun _ => False) wr [kFr p L, kRef r L])) (fun i _ => AL.length - (intOf i).toNat)
      case atStart => exact ⟨0, _, Nat.zero_le _, rfl, T0⟩
      case round =>
        obtain ⟨j, L, hj, rfl, HT⟩ := hrel
        clear T0
        by_cases hlt : j < AL.length
        · obtain ⟨A, hA⟩ : ∃ A, AL[j]? = some A := ⟨_, List.getElem?_eq_getElem hlt⟩
          have okA := OK.out A (List.mem_of_getElem? hA)
          obtain ⟨b, o, rfl, _, hc⟩ := CE.out wr HT.out.top j A hA
          have c0 : wr.cell? ⟨b, o + j * 5, none⟩ = some (.int .i64 A.d) := hc 0 _ rfl
          have c1 : wr.cell? ⟨b, o + j * 5 + 1, none⟩ = some (.int .i64 A.f) := hc 1 _ rfl
          have c2 : wr.cell? ⟨b, o + j * 5 + 2, none⟩ = some (.int .i64 A.a) := hc 2 _ rfl
          have c3 : wr.cell? ⟨b, o + j * 5 + 3, none⟩ = some (.int .u8 (A.b.toNat : Int)) := hc 3 _ rfl
          have c4 : wr.cell? ⟨b, o + j * 5 + 4, none⟩ = some (.string A.s) := hc 4 _ rfl
          have C1 := Lib.hid (HT.out.xdo (i := 0) rfl A okA)
          have GO := Lib.hid (show ∀ w1, Tog w (fun _ => False) w1 [kFr p (L.op A).1, kRef r L] → _ from fun w1 T => And.intro (CE.out w1 T.top j A hA) (T.rdo (i := 1) rfl A okA))
          have hAf := okA.f
          obtain ⟨ad, af, aa, ab, sx⟩ := A
          simp only at C1 GO hAf
          simp only at c0 c1 c2 c3 c4
          generalize hR : L.op ⟨ad, af, aa, ab, sx⟩ = R at *
          obtain ⟨L2, v1, v2, v3⟩ := R
          simp only at C1 GO
          have g0 : (0 : Int) ≤ (j : Int) := by omega
          have g1 : (j : Int) < (AL.length : Int) := by omega
          have w1' : wrap64 ((j : Int) + 1) = (j : Int) + 1 := by unfold wrap64; omega
          have W1 := Lib.hid w1'
          have MEAS := Lib.hid (show AL.length - (intOf (.int .i64 ((j : Int) + 1))).toNat < AL.length - (intOf (.int .i64 (j : Int))).toNat by simp [intOf]; omega)
          have NX := Lib.hid (show ∀ wz, Tog w (fun _ => False) wz [kFr p L2, kRef r L2] → ∃ (j' : Nat) (L' : Fm), j' ≤ AL.length ∧ Value.int .i64 ((j : Int) + 1) = .int .i64 (j' : Int) ∧ Hid (Tog w (fun _ => False) wz [kFr p L', kRef r L']) from fun wz T => ⟨j + 1, L2, hlt, rfl, Lib.hid T⟩)
          have U := Lib.hid (show ∀ w1, Tog w (fun _ => False) w1 [kFr p L2, kRef r L2] → _ from fun w1 T => And.intro (CE.out w1 T.top j _ hA) (And.intro (fun n => (T.drewN n).xused (i := 0) rfl) (And.intro (fun n => (T.drewN n).rused (i := 1) rfl) (And.intro (fun n => (T.drewN n).xhas (i := 0) rfl f hf) (And.intro (fun n => (T.drewN n).rhas (i := 1) rfl f hf) (And.intro (fun n => (T.drewN n).xbyte (i := 0) rfl f at' hf) (And.intro (fun n => (T.drewN n).rbyte (i := 1) rfl f at' hf) (And.intro (fun n => (T.drewN n).xpage (i := 0) rfl af hAf) (fun n => (T.drewN n).rpage (i := 1) rfl af hAf)))))))))
          clear hA hlt hj w1' HT hc okA hR CE OK
          go_wp2_with (first
            | (go_at_call 11; refine C1.out.mono ?_; rintro e w5 ⟨rfl, t⟩; obtain ⟨⟨b2, o2, e2, _, hc2⟩, C2⟩ := GO.out w5 t; obtain ⟨rfl, rfl⟩ : b = b2 ∧ o = o2 := by simpa using e2
               have d0 : w5.cell? ⟨b, o + j * 5, none⟩ = some (.int .i64 ad) := hc2 0 _ rfl; have d1 : w5.cell? ⟨b, o + j * 5 + 1, none⟩ = some (.int .i64 af) := hc2 1 _ rfl; have d2 : w5.cell? ⟨b, o + j * 5 + 2, none⟩ = some (.int .i64 aa) := hc2 2 _ rfl; have d3 : w5.cell? ⟨b, o + j * 5 + 3, none⟩ = some (.int .u8 (ab.toNat : Int)) := hc2 3 _ rfl; have d4 : w5.cell? ⟨b, o + j * 5 + 4, none⟩ = some (.string sx) := hc2 4 _ rfl; have HC2 := Lib.hid C2; clear t C2 hc2 e2 C1 GO)
            | (go_at_call 12; refine HC2.out.mono ?_; rintro e w6 ⟨rfl, t⟩; have t' : Tog w (fun _ => False) w6 [kFr p L2, kRef r L2] := t; obtain ⟨⟨b2, o2, e2, _, hc2⟩, u1, u2, u3, u4, u5, u6, u7, u8⟩ := U.out w6 t'; obtain ⟨rfl, rfl⟩ : b = b2 ∧ o = o2 := by simpa using e2
               have f1 : w6.cell? ⟨b, o + j * 5 + 1, none⟩ = some (.int .i64 af) := hc2 1 _ rfl; have U1 := Lib.hid u1; have U2 := Lib.hid u2; have U3 := Lib.hid u3; have U4 := Lib.hid u4; have U5 := Lib.hid u5; have U6 := Lib.hid u6; have U7 := Lib.hid u7; have U8 := Lib.hid u8; have FN := Lib.hid (fun n => NX.out _ (t'.drewN n)); clear t t' hc2 e2 u1 u2 u3 u4 u5 u6 u7 u8 U NX HC2))
          go_quiet (first
            | (go_at_call 13; exact Calls.quiet_of_same (U1.out _))
            | (go_at_call 14; exact Calls.quiet_of_same (U2.out _))
            | (go_at_call 15; exact Calls.quiet_of_same (U3.out _))
            | (go_at_call 16; exact Calls.quiet_of_same (U4.out _))
            | (go_at_call 17; exact Calls.quiet_of_same (U5.out _))
            | (go_at_call 18; exact Calls.quiet_of_same (U6.out _))
            | (go_at_call 19; exact Calls.quiet_of_same (U7.out _))
            | (go_at_call 20; exact Calls.quiet_of_same (U8.out _)))
          go_wp2_with (fail)
          go_roundw
          case rel => first | exact FN.out _ | (rw [W1.out]; exact FN.out _)
          case measure => first | exact MEAS.out | (rw [W1.out]; exact MEAS.out)
        · have g1 : ¬ (j : Int) < (AL.length : Int) := by omega
          have TB := Lib.hid HT.out.top
          have S1 := Lib.hid (fun n => (HT.out.drewN n).xsize (i := 0) rfl)
          have S2 := Lib.hid (fun n => (HT.out.drewN n).xpage (i := 0) rfl f hf)
          have S3 := Lib.hid (fun n => (HT.out.drewN n).rpage (i := 1) rfl f hf)
          obtain ⟨ra, rc, x0, _⟩ := HT.out.refAt (i := 1) rfl
          clear hlt hj HT
          go_wp2
          go_quiet (first
            | (go_at_call 21; exact Calls.quiet_of_same (S1.out _))
            | (go_at_call 19; exact Calls.quiet_of_same (S2.out _))
            | (go_at_call 20; exact Calls.quiet_of_same (S3.out _)))
          go_wp2_with (fail)
          go_ret
          exact ⟨rfl, TB.out.trans ⟨rfl, rfl, rfl, Nat.le_refl _, fun _ _ => rfl⟩⟩
  · clear h
    go_enter Try.func3, Try.ntmps3
    go_wp2_with (go_at_call 7; refine SM.out.mono ?_; rintro e w1 ⟨rfl, t⟩; have TB := Lib.hid t; clear t SM)
    go_ret
    exact ⟨rfl, TB.out⟩
end Go.Proofs.Ytpabkaihppnddaa
