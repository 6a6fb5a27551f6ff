/-
  FramesCopy: the walk.
-/
import Derived.Test.YtpabkaihppnddaaCu
namespace Go.Proofs.Ytpabkaihppnddaa
open Go.RowKit
set_option linter.unusedVariables false
set_option linter.unusedSimpArgs false
set_option maxRecDepth 100000
theorem outsCells {w0 w : World} {S : Nat → Prop} {l : List Kd} {k k' : Kd} {g1 g2 g3 n c1 c2 c3 i : Nat} {O : Outs} {o : Int × Bool × Int} (h : Tog w0 S w (k :: k' :: kF (.slice (some ⟨g1, 0, none⟩) n c1) O :: kO (.slice (some ⟨g2, 0, none⟩) n c2) O :: kE (.slice (some ⟨g3, 0, none⟩) n c3) O :: l)) (hn : O.length = n) (hi : O[i]? = some o) :
    w.cell? ⟨g1, i, none⟩ = some (.int .i64 o.1) ∧ w.cell? ⟨g2, i, none⟩ = some (.bool o.2.1) ∧ w.cell? ⟨g3, i, none⟩ = some (.int .i64 o.2.2) := by
  subst hn
  exact ⟨h.rowCell (i := 2) rfl (by simp [hi]), h.rowCell (i := 3) rfl (by simp [hi]), h.rowCell (i := 4) rfl (by simp [hi])⟩
set_option maxHeartbeats 8000000 in
theorem copy_any {a b : Option Addr} {c d : Nat} {AL BL : List OpV} (w : World) (h : RowsAt OpV.cells OpV.Ok 5 w.heap.size w a AL) (h' : RowsAt OpV.cells OpV.Ok 5 w.heap.size w b BL) (n : Int) (hn : InI n) :
    Calls Try.prog 6 #[.int .i64 n, .slice a AL.length c, .slice b BL.length d] w fun e w' => e = .returned (.bool true) ∧ Below w.heap.size w w' := by
  have SM := Lib.hid (small_any w)
  have FEW := Lib.hid (fun (w1 : World) (b : Below w.heap.size w w1) => few_any (w := w1) (c := c) ⟨h.cells.imp id (fun ⟨x, o, h1, h2, h3⟩ => ⟨x, o, h1, h2, fun i A hA j u hj => (b.cell (p := ⟨x, o + i * 5 + j, none⟩) h2).trans (h3 i A hA j u hj)⟩), h.ok, h.len⟩ h.len)
  have FEX := Lib.hid (fun (w1 : World) (b : Below w.heap.size w w1) => few_any (w := w1) (c := d) ⟨h'.cells.imp id (fun ⟨x, o, h1, h2, h3⟩ => ⟨x, o, h1, h2, fun i A hA j u hj => (b.cell (p := ⟨x, o + i * 5 + j, none⟩) h2).trans (h3 i A hA j u hj)⟩), h'.ok, h'.len⟩ h'.len)
  have hlA : AL.length ≤ 9223372036854775807 := by have := h.len; unfold maxLen at this; omega
  have hlB : BL.length ≤ 9223372036854775807 := by have := h'.len; unfold maxLen at this; omega
  by_cases hr : n ≤ 20
  · cases hf1 : fewB AL with
    | false =>
      rw [hf1] at FEW
      clear h h' FEX
      go_enter Try.func6, Try.ntmps6
      go_wp2_with (first
        | (go_at_call 7; refine SM.out.mono ?_; rintro e w1 ⟨rfl, t⟩; have N3 := Lib.hid (FEW.out w1 t); have TB := Lib.hid t; clear t SM FEW)
        | (go_at_call 8; refine N3.out.mono ?_; rintro e w4 ⟨rfl, hw⟩; subst w4; clear N3))
      go_ret
      exact ⟨rfl, TB.out⟩
    | true =>
      rw [hf1] at FEW
      cases hf2 : fewB BL with
      | false =>
        rw [hf2] at FEX
        clear h h'
        go_enter Try.func6, Try.ntmps6
        go_wp2_with (first
          | (go_at_call 7; refine SM.out.mono ?_; rintro e w1 ⟨rfl, t⟩; have N3 := Lib.hid (FEW.out w1 t); have N4 := Lib.hid (FEX.out w1 t); have TB := Lib.hid t; clear t SM FEW FEX)
          | (go_at_call 8; refine N3.out.mono ?_; rintro e w4 ⟨rfl, hw⟩; subst w4; clear N3)
          | (go_at_call 8; refine N4.out.mono ?_; rintro e w4 ⟨rfl, hw⟩; subst w4; clear N4))
        go_ret
        exact ⟨rfl, TB.out⟩
      | true =>
        rw [hf2] at FEX
        by_cases hA : AL.length ≤ 50 ∧ BL.length ≤ 50
        · obtain ⟨hA50, hB50⟩ := hA
          have CE := Lib.hid (fun (wr : World) (hw : Below w.heap.size w wr) i A (hA : AL[i]? = some A) => h.one hw hA)
          have CX := Lib.hid (fun (wr : World) (hw : Below w.heap.size w wr) i A (hA : BL[i]? = some A) => h'.one hw hA)
          have OK := Lib.hid h.ok
          have OX := Lib.hid h'.ok
          have NEW := Lib.hid (fun (w1 : World) (b : Below w.heap.size w w1) => ((Tog.nil w (fun _ => False)).on b).xnew n hn)
          have hlz : (Fm.new n).length = (min (max n 0) 4096).toNat := by simp [Fm.new]
          have HLZ := Lib.hid hlz
          have gA : ¬ (50 : Int) < (AL.length : Int) := by omega
          have gB : ¬ (50 : Int) < (BL.length : Int) := by omega
          clear h h' hlz hlA hlB hf1 hf2
          go_enter Try.func6, Try.ntmps6
          go_wp2_with (first
            | (go_at_call 7; refine SM.out.mono ?_; rintro e w1 ⟨rfl, t⟩; have N3 := Lib.hid (FEW.out w1 t); have N4 := Lib.hid (FEX.out w1 t); have N1 := Lib.hid (NEW.out w1 t); clear t SM FEW FEX NEW)
            | (go_at_call 8; refine N3.out.mono ?_; rintro e w4 ⟨rfl, hw⟩; subst w4; clear N3)
            | (go_at_call 8; refine N4.out.mono ?_; rintro e w4 ⟨rfl, hw⟩; subst w4; clear N4)
            | (go_at_call 9; refine N1.out.mono ?_; rintro e w2 ⟨p, rfl, t⟩; have T0 := Lib.hid (show Tog w (fun _ => False) w2 [kFr p (Fm.new n)] from t); clear t N1))
          clear gA gB
          go_loopw [9] (fun i wr => ∃ (j : Nat) (L : Fm), j ≤ AL.length ∧ i = .int .i64 (j : Int) ∧ Hid (Tog w (fun _ => False) wr [kFr p L])) (fun i _ => AL.length - (intOf i).toNat)
          case atStart => exact ⟨0, _, Nat.zero_le _, rfl, T0⟩
          case round =>
            obtain ⟨j, L, hj, rfl, HT⟩ := hrel
            clear T0
            have T := HT.out
            by_cases hlt : j < AL.length
            · obtain ⟨A, hA⟩ : ∃ A, AL[j]? = some A := ⟨_, List.getElem?_eq_getElem hlt⟩
              have okA := OK.out A (List.mem_of_getElem? hA)
              obtain ⟨ba, oa, rfl, _, hc⟩ := CE.out wr T.top j A hA
              have c0 : wr.cell? ⟨ba, oa + j * 5, none⟩ = some (.int .i64 A.d) := hc 0 _ rfl
              have c1 : wr.cell? ⟨ba, oa + j * 5 + 1, none⟩ = some (.int .i64 A.f) := hc 1 _ rfl
              have c2 : wr.cell? ⟨ba, oa + j * 5 + 2, none⟩ = some (.int .i64 A.a) := hc 2 _ rfl
              have c3 : wr.cell? ⟨ba, oa + j * 5 + 3, none⟩ = some (.int .u8 (A.b.toNat : Int)) := hc 3 _ rfl
              have c4 : wr.cell? ⟨ba, oa + j * 5 + 4, none⟩ = some (.string A.s) := hc 4 _ rfl
              have g0 : (0 : Int) ≤ (j : Int) := by omega
              have g1 : (j : Int) < (AL.length : Int) := by omega
              have w1' : wrap64 ((j : Int) + 1) = (j : Int) + 1 := by unfold wrap64; omega
              have W1 := Lib.hid w1'
              have MEAS := Lib.hid (show AL.length - (intOf (.int .i64 ((j : Int) + 1))).toNat < AL.length - (intOf (.int .i64 (j : Int))).toNat by simp [intOf]; omega)
              have C1 := Lib.hid (T.xdo (i := 0) rfl A okA)
              have NX := Lib.hid (show ∀ wz, Tog w (fun _ => False) wz [kFr p (L.op A).1] → ∃ (j' : Nat) (L : Fm), j' ≤ AL.length ∧ Value.int .i64 ((j : Int) + 1) = .int .i64 (j' : Int) ∧ Hid (Tog w (fun _ => False) wz [kFr p L]) from fun wz T => ⟨j + 1, _, hlt, rfl, Lib.hid T⟩)
              generalize L.op A = R at *
              obtain ⟨ad, af, aa, ab, sx⟩ := A
              obtain ⟨L2, v1, v2, v3⟩ := R
              simp only at C1 NX c0 c1 c2 c3 c4
              clear hA okA hc hlt hj w1' T HT CE CX OK OX
              go_wp2_with (go_at_call 11; refine C1.out.mono ?_; rintro e w3 ⟨rfl, t⟩; have FN := Lib.hid (NX.out w3 t); clear t C1 NX)
              go_roundw
              case rel => first | exact FN.out | (rw [W1.out]; exact FN.out)
              case measure => first | exact MEAS.out | (rw [W1.out]; exact MEAS.out)
            · have g1 : ¬ (j : Int) < (AL.length : Int) := by omega
              have C1 := Lib.hid (T.xcopy (i := 0) rfl)
              clear hlt hj HT T CE OK
              go_wp2_with (first
                | (go_at_call 28; refine C1.out.mono ?_; rintro e w3 ⟨p', rfl, t⟩; have T1 := Lib.hid (show Tog w (fun _ => False) w3 [kFr p L, kFr p' L] from t); have U1 := Lib.hid (Tog.xused t (i := 1) rfl); clear t C1)
                | (go_at_call 13; refine U1.out.mono ?_; rintro e w4 ⟨rfl, hw⟩; subst w4; clear U1))
              go_loopw [15, 12, 13, 14] (fun i va vb vc wz => ∃ (k : Nat) (fa : Option Addr) (fc : Nat) (oa2 : Option Addr) (oc : Nat) (ea : Option Addr) (ec : Nat), k ≤ BL.length ∧ i = .int .i64 (k : Int) ∧ va = .slice fa k fc ∧ vb = .slice oa2 k oc ∧ vc = .slice ea k ec ∧ Hid (Tog w (fun _ => False) wz [kFr p (runs L (BL.take k)), kFr p' L, kF (.slice fa k fc) (outs L (BL.take k)), kO (.slice oa2 k oc) (outs L (BL.take k)), kE (.slice ea k ec) (outs L (BL.take k))])) (fun i _ _ _ _ => BL.length - (intOf i).toNat)
              case atStart =>
                refine ⟨0, none, 0, none, 0, none, 0, Nat.zero_le _, rfl, rfl, rfl, rfl, Lib.hid ?_⟩
                have t1 := ((T1.out.nilRow 3 1).nilRow 4 1).nilRow 29 1
                exact t1
              case round =>
                clear T1
                obtain ⟨k, fa, fc, oa2, oc, ea, ec, hk, rfl, rfl, rfl, rfl, HT⟩ := hrel
                rename World => wz
                have T := HT.out
                by_cases hlt : k < BL.length
                · obtain ⟨A, hA⟩ : ∃ A, BL[k]? = some A := ⟨_, List.getElem?_eq_getElem hlt⟩
                  have okA := OX.out A (List.mem_of_getElem? hA)
                  obtain ⟨bb, ob, rfl, _, hc⟩ := CX.out wz T.top k A hA
                  have c0 : wz.cell? ⟨bb, ob + k * 5, none⟩ = some (.int .i64 A.d) := hc 0 _ rfl
                  have c1 : wz.cell? ⟨bb, ob + k * 5 + 1, none⟩ = some (.int .i64 A.f) := hc 1 _ rfl
                  have c2 : wz.cell? ⟨bb, ob + k * 5 + 2, none⟩ = some (.int .i64 A.a) := hc 2 _ rfl
                  have c3 : wz.cell? ⟨bb, ob + k * 5 + 3, none⟩ = some (.int .u8 (A.b.toNat : Int)) := hc 3 _ rfl
                  have c4 : wz.cell? ⟨bb, ob + k * 5 + 4, none⟩ = some (.string A.s) := hc 4 _ rfl
                  have g0 : (0 : Int) ≤ (k : Int) := by omega
                  have g1 : (k : Int) < (BL.length : Int) := by omega
                  have w1' : wrap64 ((k : Int) + 1) = (k : Int) + 1 := by unfold wrap64; omega
                  have W1 := Lib.hid w1'
                  have MEAS := Lib.hid (show BL.length - (intOf (.int .i64 ((k : Int) + 1))).toNat < BL.length - (intOf (.int .i64 (k : Int))).toNat by simp [intOf]; omega)
                  have hR : runs L (BL.take (k + 1)) = ((runs L (BL.take k)).op A).1 := by rw [take_snoc hA, runs_snoc]
                  have hO : outs L (BL.take (k + 1)) = outs L (BL.take k) ++ [((runs L (BL.take k)).op A).2] := by rw [take_snoc hA, outs_snoc]
                  have hOl : (outs L (BL.take k)).length = k := by rw [outs_len, List.length_take]; omega
                  have C1 := Lib.hid (T.xdo (i := 0) rfl A okA)
                  have NX := Lib.hid (show ∀ wq a1 a2 a3 c1 c2 c3, Tog w (fun _ => False) wq [kFr p (runs L (BL.take (k + 1))), kFr p' L, kF (.slice a1 (k + 1) c1) (outs L (BL.take (k + 1))), kO (.slice a2 (k + 1) c2) (outs L (BL.take (k + 1))), kE (.slice a3 (k + 1) c3) (outs L (BL.take (k + 1)))] → ∃ (k' : Nat) (fa : Option Addr) (fc : Nat) (oa2 : Option Addr) (oc : Nat) (ea : Option Addr) (ec : Nat), k' ≤ BL.length ∧ Value.int .i64 ((k : Int) + 1) = .int .i64 (k' : Int) ∧ Value.slice a1 (k + 1) c1 = .slice fa k' fc ∧ Value.slice a2 (k + 1) c2 = .slice oa2 k' oc ∧ Value.slice a3 (k + 1) c3 = .slice ea k' ec ∧ Hid (Tog w (fun _ => False) wq [kFr p (runs L (BL.take k')), kFr p' L, kF (.slice fa k' fc) (outs L (BL.take k')), kO (.slice oa2 k' oc) (outs L (BL.take k')), kE (.slice ea k' ec) (outs L (BL.take k'))]) from fun wq a1 a2 a3 c1 c2 c3 T => ⟨k + 1, a1, c1, a2, c2, a3, c3, hlt, rfl, rfl, rfl, rfl, Lib.hid T⟩)
                  rw [hR, hO] at NX
                  generalize (runs L (BL.take k)).op A = R at *
                  generalize outs L (BL.take k) = O at *
                  obtain ⟨ad, af, aa, ab, sx⟩ := A
                  obtain ⟨L2, v1, v2, v3⟩ := R
                  simp only at C1 NX c0 c1 c2 c3 c4
                  have LB := Lib.hid (show k ≤ 100000 by omega)
                  have NX2 := Lib.hid (show ∀ wq a1 a2 a3 c1 c2 c3, Tog w (fun _ => False) wq [kFr p L2, kFr p' L, kRow 3 1 (.slice a1 (k + 1) c1) (k + 1) ((O.map fun o => Value.int .i64 o.1) ++ [.int .i64 v1]), kRow 4 1 (.slice a2 (k + 1) c2) (k + 1) ((O.map fun o => Value.bool o.2.1) ++ [.bool v2]), kRow 29 1 (.slice a3 (k + 1) c3) (k + 1) ((O.map fun o => Value.int .i64 o.2.2) ++ [.int .i64 v3])] → _ from fun wq a1 a2 a3 c1 c2 c3 T => NX.out wq a1 a2 a3 c1 c2 c3 (by
                    rw [kF_add a1 k c1 O hOl.symm (v1, v2, v3), kO_add a2 k c2 O hOl.symm (v1, v2, v3), kE_add a3 k c3 O hOl.symm (v1, v2, v3)] at T
                    exact T))
                  have HOL := Lib.hid hOl
                  clear hA okA hc hlt hk w1' T HT CX OX hR hO hOl NX
                  go_wp2_with (first
                    | (go_at_call 11; refine C1.out.mono ?_; rintro e w3 ⟨rfl, t⟩; have T3 := Lib.hid (show Tog w (fun _ => False) w3 [kFr p L2, kFr p' L, kRow 3 1 (.slice fa k fc) k (O.map fun o => Value.int .i64 o.1), kRow 4 1 (.slice oa2 k oc) k (O.map fun o => Value.bool o.2.1), kRow 29 1 (.slice ea k ec) k (O.map fun o => Value.int .i64 o.2.2)] from by have t' : Tog w (fun _ => False) w3 [kFr p L2, kFr p' L, kF (.slice fa k fc) O, kO (.slice oa2 k oc) O, kE (.slice ea k ec) O] := t; unfold kF kO kE at t'; rw [HOL.out] at t'; exact t'); clear t C1)
                    | (at_builtin; refine T3.out.list_one elInt rfl _ _ rfl 2 rfl (.int .i64 v1) rfl rfl rfl rfl LB.out (by decide) ?_; intro a1 c1 w5 t; have T4 := Lib.hid t; clear t T3)
                    | (at_builtin; refine T4.out.list_one elBool rfl _ _ rfl 3 rfl (.bool v2) rfl rfl rfl rfl LB.out (by decide) ?_; intro a2 c2 w6 t; have T5 := Lib.hid t; clear t T4)
                    | (at_builtin; refine T5.out.list_one elErr rfl _ _ rfl 4 rfl (.int .i64 v3) rfl rfl rfl rfl LB.out (by decide) ?_; intro a3 c3 w7 t; have FN := Lib.hid (NX2.out w7 a1 a2 a3 c1 c2 c3 t); clear t T5 NX2))
                  go_roundw
                  case rel => first | exact FN.out | (rw [W1.out]; exact FN.out)
                  case measure => first | exact MEAS.out | (rw [W1.out]; exact MEAS.out)
                · have g1 : ¬ (k : Int) < (BL.length : Int) := by omega
                  obtain rfl : k = BL.length := by omega
                  rw [List.take_length] at HT T
                  have U1 := Lib.hid (T.xused (i := 1) rfl)
                  have T1 := Lib.hid (show Tog w (fun _ => False) wz [kFr p (runs L BL), kFr p' (runs L (BL.take 0)), kF (.slice fa BL.length fc) (outs L BL), kO (.slice oa2 BL.length oc) (outs L BL), kE (.slice ea BL.length ec) (outs L BL)] from T)
                  clear hlt hk HT T
                  go_wp2_with (go_at_call 13; refine U1.out.mono ?_; rintro e w4 ⟨rfl, hw⟩; subst w4; clear U1)
                  have OL := Lib.hid (outs_len BL L)
                  go_loopw [19] (fun i wz => ∃ k : Nat, k ≤ BL.length ∧ i = .int .i64 (k : Int) ∧ Hid (Tog w (fun _ => False) wz [kFr p (runs L BL), kFr p' (runs L (BL.take k)), kF (.slice fa BL.length fc) (outs L BL), kO (.slice oa2 BL.length oc) (outs L BL), kE (.slice ea BL.length ec) (outs L BL)])) (fun i _ => BL.length - (intOf i).toNat)
                  case atStart => exact ⟨0, Nat.zero_le _, rfl, T1⟩
                  case round =>
                    clear T1
                    obtain ⟨k, hk, rfl, HT⟩ := hrel
                    rename World => wy
                    have T := HT.out
                    by_cases hlt : k < BL.length
                    · obtain ⟨A, hA⟩ : ∃ A, BL[k]? = some A := ⟨_, List.getElem?_eq_getElem hlt⟩
                      have okA := OX.out A (List.mem_of_getElem? hA)
                      obtain ⟨bb, ob, rfl, _, hc⟩ := CX.out wy T.top k A hA
                      have c0 : wy.cell? ⟨bb, ob + k * 5, none⟩ = some (.int .i64 A.d) := hc 0 _ rfl
                      have c1 : wy.cell? ⟨bb, ob + k * 5 + 1, none⟩ = some (.int .i64 A.f) := hc 1 _ rfl
                      have c2 : wy.cell? ⟨bb, ob + k * 5 + 2, none⟩ = some (.int .i64 A.a) := hc 2 _ rfl
                      have c3 : wy.cell? ⟨bb, ob + k * 5 + 3, none⟩ = some (.int .u8 (A.b.toNat : Int)) := hc 3 _ rfl
                      have c4 : wy.cell? ⟨bb, ob + k * 5 + 4, none⟩ = some (.string A.s) := hc 4 _ rfl
                      have g0 : (0 : Int) ≤ (k : Int) := by omega
                      have g1 : (k : Int) < (BL.length : Int) := by omega
                      have w1' : wrap64 ((k : Int) + 1) = (k : Int) + 1 := by unfold wrap64; omega
                      have W1 := Lib.hid w1'
                      have MEAS := Lib.hid (show BL.length - (intOf (.int .i64 ((k : Int) + 1))).toNat < BL.length - (intOf (.int .i64 (k : Int))).toNat by simp [intOf]; omega)
                      have hR : runs L (BL.take (k + 1)) = ((runs L (BL.take k)).op A).1 := by rw [take_snoc hA, runs_snoc]
                      have hO := outs_at BL L k hA
                      obtain ⟨x1, y1, x2, y2, x3, y3, ea1, ea2, ea3, _, _, _⟩ := T.outsAt hO
                      obtain ⟨rfl, rfl⟩ : fa = some ⟨x1, 0, none⟩ ∧ fc = y1 := by simp at ea1; exact ⟨ea1.1, ea1.2.2⟩
                      obtain ⟨rfl, rfl⟩ : oa2 = some ⟨x2, 0, none⟩ ∧ oc = y2 := by simp at ea2; exact ⟨ea2.1, ea2.2.2⟩
                      obtain ⟨rfl, rfl⟩ : ea = some ⟨x3, 0, none⟩ ∧ ec = y3 := by simp at ea3; exact ⟨ea3.1, ea3.2.2⟩
                      have C1 := Lib.hid (T.xdo (i := 1) rfl A okA)
                      have NX := Lib.hid (show ∀ wq, Tog w (fun _ => False) wq [kFr p (runs L BL), kFr p' (runs L (BL.take (k + 1))), kF (.slice (some ⟨x1, 0, none⟩) BL.length fc) (outs L BL), kO (.slice (some ⟨x2, 0, none⟩) BL.length oc) (outs L BL), kE (.slice (some ⟨x3, 0, none⟩) BL.length ec) (outs L BL)] → ∃ k' : Nat, k' ≤ BL.length ∧ Value.int .i64 ((k : Int) + 1) = .int .i64 (k' : Int) ∧ Hid (Tog w (fun _ => False) wq [kFr p (runs L BL), kFr p' (runs L (BL.take k')), kF (.slice (some ⟨x1, 0, none⟩) BL.length fc) (outs L BL), kO (.slice (some ⟨x2, 0, none⟩) BL.length oc) (outs L BL), kE (.slice (some ⟨x3, 0, none⟩) BL.length ec) (outs L BL)]) from fun wq T => ⟨k + 1, hlt, rfl, Lib.hid T⟩)
                      rw [hR] at NX
                      generalize (runs L (BL.take k)).op A = R at *
                      obtain ⟨ad, af, aa, ab, sx⟩ := A
                      obtain ⟨L2, v1, v2, v3⟩ := R
                      simp only at C1 NX c0 c1 c2 c3 c4 hO
                      have GO := Lib.hid (show ∀ wq, Tog w (fun _ => False) wq [kFr p (runs L BL), kFr p' L2, kF (.slice (some ⟨x1, 0, none⟩) BL.length fc) (outs L BL), kO (.slice (some ⟨x2, 0, none⟩) BL.length oc) (outs L BL), kE (.slice (some ⟨x3, 0, none⟩) BL.length ec) (outs L BL)] → _ from fun wq T => And.intro (outsCells T OL.out hO) (NX.out wq T))
                      clear hA okA hc hlt hk w1' T HT CX OX hR hO NX ea1 ea2 ea3
                      go_wp2_with (go_at_call 11; refine C1.out.mono ?_; rintro e w3 ⟨rfl, t⟩; obtain ⟨⟨f1, f2, f3⟩, nx⟩ := GO.out w3 t; have FN := Lib.hid nx; clear t nx C1 GO)
                      go_roundw
                      case rel => first | exact FN.out | (rw [W1.out]; exact FN.out)
                      case measure => first | exact MEAS.out | (rw [W1.out]; exact MEAS.out)
                    · have g1 : ¬ (k : Int) < (BL.length : Int) := by omega
                      obtain rfl : k = BL.length := by omega
                      rw [List.take_length] at HT T
                      have T1 := Lib.hid (T.pick [0, 1] (l' := [kFr p (runs L BL), kFr p' (runs L BL)]) (by decide) rfl)
                      clear hlt hk HT T CX OX OL
                      generalize runs L BL = LE at *
                      go_wp2_with fail
                      go_loopw [23] (fun i wz => ∃ x : Nat, (x : Int) ≤ max n 0 ∧ i = .int .i64 (x : Int) ∧ Hid (Tog w (fun _ => False) wz [kFr p LE, kFr p' LE])) (fun i _ => (n - intOf i).toNat)
                      case atStart => exact ⟨0, by omega, rfl, T1⟩
                      case round =>
                        clear T1
                        obtain ⟨x, hx, rfl, HT⟩ := hrel
                        rename World => wx
                        have T := HT.out
                        by_cases hlt : (x : Int) < n
                        · have w1' : wrap64 ((x : Int) + 1) = (x : Int) + 1 := by unfold wrap64; omega
                          have W1 := Lib.hid w1'
                          have MEAS := Lib.hid (show (n - intOf (.int .i64 ((x : Int) + 1))).toNat < (n - intOf (.int .i64 (x : Int))).toNat by simp [intOf]; omega)
                          have FN := Lib.hid (show ∃ x' : Nat, (x' : Int) ≤ max n 0 ∧ Value.int .i64 ((x : Int) + 1) = .int .i64 (x' : Int) ∧ Hid (Tog w (fun _ => False) wx [kFr p LE, kFr p' LE]) from ⟨x + 1, by omega, rfl, Lib.hid T⟩)
                          have hI : InI (x : Int) := by unfold InI; omega
                          have P1 := T.xpage (i := 0) rfl (x : Int) hI
                          have P2 := T.xpage (i := 1) rfl (x : Int) hI
                          generalize LE.page (x : Int) = S at P1 P2
                          have P3 := Lib.hid (show ∀ q, q = p ∨ q = p' → Calls Try.prog 19 #[.pointer (some ⟨q, 0, none⟩), .int .i64 (x : Int)] wx (fun e w' => e = .returned (.string S) ∧ w' = wx) from fun q hq => by
                            rcases hq with e | e
                            · rw [e]; exact P1
                            · rw [e]; exact P2)
                          have ne1 : (S.toList != S.toList) = false := by simp
                          clear hx w1' hI P1 P2 T HT
                          go_wp2_with (go_at_call 19; refine (P3.out _ (by first | exact .inl rfl | exact .inr rfl)).mono ?_; rintro e w4 ⟨rfl, hw⟩; subst w4)
                          go_roundw
                          case rel => first | exact FN.out | (rw [W1.out]; exact FN.out)
                          case measure => first | exact MEAS.out | (rw [W1.out]; exact MEAS.out)
                        · have TB := Lib.hid T.top
                          clear hx T HT
                          go_wp2
                          go_ret
                          exact ⟨rfl, TB.out⟩
        · clear h h'
          by_cases hA1 : AL.length ≤ 50
          · have g1 : ¬ (50 : Int) < (AL.length : Int) := by omega
            have g2 : (50 : Int) < (BL.length : Int) := by have : ¬ BL.length ≤ 50 := fun e => hA ⟨hA1, e⟩; omega
            clear hA
            go_enter Try.func6, Try.ntmps6
            go_wp2_with (first
              | (go_at_call 7; refine SM.out.mono ?_; rintro e w1 ⟨rfl, t⟩; have N3 := Lib.hid (FEW.out w1 t); have N4 := Lib.hid (FEX.out w1 t); have TB := Lib.hid t; clear t SM FEW FEX)
              | (go_at_call 8; refine N3.out.mono ?_; rintro e w4 ⟨rfl, hw⟩; subst w4; clear N3)
              | (go_at_call 8; refine N4.out.mono ?_; rintro e w4 ⟨rfl, hw⟩; subst w4; clear N4))
            go_ret
            exact ⟨rfl, TB.out⟩
          · have g1 : (50 : Int) < (AL.length : Int) := by omega
            clear hA
            go_enter Try.func6, Try.ntmps6
            go_wp2_with (first
              | (go_at_call 7; refine SM.out.mono ?_; rintro e w1 ⟨rfl, t⟩; have N3 := Lib.hid (FEW.out w1 t); have N4 := Lib.hid (FEX.out w1 t); have TB := Lib.hid t; clear t SM FEW FEX)
              | (go_at_call 8; refine N3.out.mono ?_; rintro e w4 ⟨rfl, hw⟩; subst w4; clear N3)
              | (go_at_call 8; refine N4.out.mono ?_; rintro e w4 ⟨rfl, hw⟩; subst w4; clear N4))
            go_ret
            exact ⟨rfl, TB.out⟩
  · clear h h' FEW FEX
    go_enter Try.func6, Try.ntmps6
    go_wp2_with (go_at_call 7; refine SM.out.mono ?_; rintro e w1 ⟨rfl, t⟩; have TB := Lib.hid t; clear t SM)
    go_ret
    exact ⟨rfl, TB.out⟩
end Go.Proofs.Ytpabkaihppnddaa
