/-
  LinkTells.
-/
import Derived.Test.YtgdcocfekjlhfaaBm
import Derived.Test.YtgdcocfekjlhfaaBp
namespace Go.Proofs.Ytgdcocfekjlhfaa
open Go.RowKit
set_option linter.unusedVariables false
set_option linter.unusedSimpArgs false
set_option maxRecDepth 100000
abbrev LT : TypeId := 53
abbrev RT : TypeId := 40
/-- The four links. -/
def four (px py pz pw : Nat) (s u : LS) : List Kd := [kLink 53 px s, kLink 40 py s, kLink 53 pz u, kLink 40 pw u]
/-- The links of the reference opened. -/
theorem tells_open {w wr : World} {px py pz pw : Nat} {s u : LS} (T : Tog w (fun _ => False) wr (four px py pz pw s u)) : ∃ a1 c1 a2 c2, Tog w (fun _ => False) wr [kHeap pw (.cells #[.slice a2 u.L.length c2, .bool u.cut] 40 (0, 0)), kPks (.slice a2 u.L.length c2) u.L, kHeap py (.cells #[.slice a1 s.L.length c1, .bool s.cut] 40 (0, 0)), kPks (.slice a1 s.L.length c1) s.L, kLink 53 px s, kLink 53 pz u] := by
  obtain ⟨a1, c1, T1⟩ := (T.pick [1, 0, 2, 3] (l' := [kLink 40 py s, kLink 53 px s, kLink 53 pz u, kLink 40 pw u]) (by decide) rfl).openLink
  obtain ⟨a2, c2, T2⟩ := (T1.pick [4, 0, 1, 2, 3] (l' := [kLink 40 pw u, kHeap py (.cells #[.slice a1 s.L.length c1, .bool s.cut] 40 (0, 0)), kPks (.slice a1 s.L.length c1) s.L, kLink 53 px s, kLink 53 pz u]) (by decide) rfl).openLink
  exact ⟨a1, c1, a2, c2, T2⟩
/-- What one turn leaves ahead of its test. -/
theorem tells_turn {w : World} {px py pz pw b1 b2 : Nat} {s u : LS} {W : World} {q1 : Int} {q2 : ByteArray} (T : Tog w (fun _ => False) W (four px py pz pw s u ++ [kHeap b1 (.cells #[.int .i64 q1, .string q2] 30 (0, 0)), kHeap b2 (.cells #[.int .i64 q1, .string q2] 30 (0, 0))])) :
    (W.cell? ⟨b1, 0, none⟩ = some (.int .i64 q1) ∧ W.cell? ⟨b1, 1, none⟩ = some (.string q2)) ∧ (W.cell? ⟨b2, 0, none⟩ = some (.int .i64 q1) ∧ W.cell? ⟨b2, 1, none⟩ = some (.string q2)) ∧
    (∃ a c, W.cell? ⟨py, 0, none⟩ = some (.slice a s.L.length c)) ∧ W.cell? ⟨py, 1, none⟩ = some (.bool s.cut) ∧
    Calls Try.prog 15 #[.pointer (some ⟨px, 0, none⟩)] W.drew (fun e w' => e = .returned (.int .i64 s.L.length) ∧ W.drew = w') ∧
    Calls Try.prog 16 #[.pointer (some ⟨px, 0, none⟩)] W.drew (fun e w' => e = .returned (.bool s.cut) ∧ W.drew = w') ∧
    Tog w (fun _ => False) W.drew (four px py pz pw s u) := by
  obtain ⟨a, c, l0, l1, _⟩ := T.linkAt (i := 1) rfl
  exact ⟨⟨T.cellAt (j := 4) rfl 0 rfl, T.cellAt (j := 4) rfl 1 rfl⟩, ⟨T.cellAt (j := 5) rfl 0 rfl, T.cellAt (j := 5) rfl 1 rfl⟩, ⟨a, c, l0⟩, l1, T.drew.xcount (i := 0) rfl, T.drew.xiscut (i := 0) rfl, T.drew.front⟩
set_option maxHeartbeats 8000000 in
theorem tells_in {a : Option Addr} {c : Nat} {L : List OpV} (w : World) (h : RowsAt OpV.cells OpV.Ok 3 w.heap.size w a L) (at_ : Int) (hat : InI at_) (hL : L.length ≤ 600) (hfew : fewB L 600 = true) :
    Calls Try.prog 3 #[.slice a L.length c, .int .i64 at_] w fun e w' => e = .returned (.bool true) ∧ Below w.heap.size w w' := by
  have SM := Lib.hid (small_any w)
  have NEW := Lib.hid (fun (w1 : World) (b : Below w.heap.size w w1) => ((Tog.nil w (fun _ => False)).on b).xnew)
  have FEW := Lib.hid (fun (w1 : World) (b : Below w.heap.size w w1) => few_any (w := w1) (c := c) ⟨h.cells.imp id (fun ⟨x, o, h1, h2, h3⟩ => ⟨x, o, h1, h2, fun i A hA j u hj => (b.cell (p := ⟨x, o + i * 3 + j, none⟩) h2).trans (h3 i A hA j u hj)⟩), h.ok, h.len⟩ 600 h.len)
  rw [hfew] at FEW
  have H := Lib.hid h
  clear h hfew
  go_enter Try.func3, Try.ntmps3
  go_wp2_with (first
    | (go_at_call 7; refine SM.out.mono ?_; rintro e w1 ⟨rfl, t⟩; have N1 := Lib.hid (NEW.out w1 t); clear t SM)
    | (go_at_call 8; refine N1.out.mono ?_; rintro e w2 ⟨px, rfl, t⟩; have N2 := Lib.hid t.rnew; clear t N1)
    | (go_at_call 9; refine N2.out.mono ?_; rintro e w3 ⟨py, rfl, t⟩; have N3 := Lib.hid (FEW.out w3 t.top); have N4 := Lib.hid (t.xcopy (i := 0) rfl); clear t N2 FEW)
    | (go_at_call 10; refine N3.out.mono ?_; rintro e w4 ⟨rfl, rfl⟩; clear N3)
    | (go_at_call 11; refine N4.out.mono ?_; rintro e w5 ⟨pz, rfl, t⟩; have N5 := Lib.hid (t.rcopy (i := 1) rfl); clear t N4)
    | (go_at_call 12; refine N5.out.mono ?_; rintro e w6 ⟨pw, rfl, t⟩; have T0 := Lib.hid (show Tog w (fun _ => False) w6 (four px py pz pw LS.new LS.new) from t); clear t N5))
  go_loopw [10, 8, 9] (fun i z y wr => ∃ (k : Nat) (s u : LS) (pz pw : Nat), k ≤ L.length ∧ i = .int .i64 (k : Int) ∧ z = .pointer (some ⟨pz, 0, none⟩) ∧ y = .pointer (some ⟨pw, 0, none⟩) ∧ Hid (Tog w (fun _ => False) wr (four px py pz pw s u))) (fun i _ _ _ => L.length - (intOf i).toNat)
  case atStart => exact ⟨0, LS.new, LS.new, pz, pw, Nat.zero_le _, rfl, rfl, rfl, T0⟩
  case round =>
    obtain ⟨k, s, u, pz, pw, hk, rfl, rfl, rfl, HT⟩ := hrel
    clear T0
    by_cases hlt : k < L.length
    · obtain ⟨A, hA⟩ : ∃ A, L[k]? = some A := ⟨_, List.getElem?_eq_getElem hlt⟩
      have ok := H.out.ok A (List.mem_of_getElem? hA)
      obtain ⟨ab, ao, rfl, hab, hc⟩ := H.out.one HT.out.top hA
      have ARG := Lib.hid (show ∀ wz l, Tog w (fun _ => False) wz l → wz.cell? ⟨ab, ao + k * 3, none⟩ = some (.int .i64 A.d) ∧ wz.cell? ⟨ab, ao + k * 3 + 1, none⟩ = some (.int .i64 A.n) ∧ wz.cell? ⟨ab, ao + k * 3 + 2, none⟩ = some (.string A.s) from fun wz l T => by
        obtain ⟨b', o', he, _, h'⟩ := H.out.one T.top hA
        obtain ⟨rfl, rfl⟩ : ab = b' ∧ ao = o' := by simpa using he
        exact ⟨h' 0 _ rfl, h' 1 _ rfl, h' 2 _ rfl⟩)
      obtain ⟨d0, d1, d2⟩ := ARG.out _ _ HT.out
      have g0 : (0 : Int) ≤ (k : Int) := by omega
      have g1 : (k : Int) < (L.length : Int) := by omega
      have w1 : wrap64 ((k : Int) + 1) = (k : Int) + 1 := by unfold wrap64; omega
      have W1 := Lib.hid w1
      have MEAS := Lib.hid (show L.length - (intOf (.int .i64 ((k : Int) + 1))).toNat < L.length - (intOf (.int .i64 (k : Int))).toNat by simp [intOf]; omega)
      have NX := Lib.hid (show ∀ wz s' u' pz' pw', Tog w (fun _ => False) wz (four px py pz' pw' s' u') → ∃ (k' : Nat) (s u : LS) (qz qw : Nat), k' ≤ L.length ∧ Value.int .i64 ((k : Int) + 1) = .int .i64 (k' : Int) ∧ Value.pointer (some ⟨pz', 0, none⟩) = .pointer (some ⟨qz, 0, none⟩) ∧ Value.pointer (some ⟨pw', 0, none⟩) = .pointer (some ⟨qw, 0, none⟩) ∧ Hid (Tog w (fun _ => False) wz (four px py qz qw s u)) from fun wz s' u' pz' pw' T => ⟨k + 1, s', u', pz', pw', hlt, rfl, rfl, rfl, Lib.hid T⟩)
      obtain ⟨s', q, er, hop⟩ : ∃ s' q er, s.op A = (s', q, er) := ⟨_, _, _, rfl⟩
      obtain ⟨q1, q2⟩ := q
      have DO := Lib.hid (show ∀ wz u' pz' pw', Tog w (fun _ => False) wz (four px py pz' pw' s u') → Calls Try.prog 13 #[.pointer (some ⟨px, 0, none⟩), .agg #[.int .i64 A.d, .int .i64 A.n, .string A.s]] wz (fun e w' => e = .returned (.tuple #[.agg #[.int .i64 q1, .string q2], .int .i64 er]) ∧ Tog w (fun _ => False) (w'.alloc (.cells #[.int .i64 q1, .string q2] 30)) [kLink 53 px s', kLink 40 py s, kLink 53 pz' u', kLink 40 pw' u', kHeap w'.heap.size (.cells #[.int .i64 q1, .string q2] 30 (0, 0))]) from fun wz u' pz' pw' T => by
        have := T.xdo (i := 0) rfl A ok
        rw [hop] at this
        exact this.mono (fun e w' ⟨a, b⟩ => ⟨a, b.block _⟩))
      have MODEL := Lib.hid (show ∀ wz u' pz' pw' b1, Tog w (fun _ => False) wz [kLink 53 px s', kLink 40 py s, kLink 53 pz' u', kLink 40 pw' u', kHeap b1 (.cells #[.int .i64 q1, .string q2] 30 (0, 0))] → Calls Try.prog 14 #[.pointer (some ⟨py, 0, none⟩), .agg #[.int .i64 A.d, .int .i64 A.n, .string A.s]] wz (fun e w' => e = .returned (.tuple #[.agg #[.int .i64 q1, .string q2], .int .i64 er]) ∧ Tog w (fun _ => False) (w'.alloc (.cells #[.int .i64 q1, .string q2] 30)) (four px py pz' pw' s' u' ++ [kHeap b1 (.cells #[.int .i64 q1, .string q2] 30 (0, 0)), kHeap w'.heap.size (.cells #[.int .i64 q1, .string q2] 30 (0, 0))])) from fun wz u' pz' pw' b1 T => by
        have := T.rmodel (i := 1) rfl A ok
        rw [hop] at this
        exact this.mono (fun e w' ⟨a, b⟩ => ⟨a, b.block _⟩))
      have q0 := fun W => pk_neq q1 q1 q2 q2 W
      rw [decide_eq_true rfl] at q0
      simp only [Bool.not_true] at q0
      by_cases hka : (k : Int) = at_
      · have e5 : ((k : Int) == at_) = true := beq_iff_eq.2 hka
        have XC := Lib.hid (HT.out.xcopy (i := 0) rfl)
        have DOC := Lib.hid (show ∀ wz p1 p2, Tog w (fun _ => False) wz (four px py pz pw s u ++ [kLink 53 p1 s] ++ [kLink 40 p2 s]) → _ ∧ _ from fun wz p1 p2 T => ⟨DO.out wz s p1 p2 (T.pick [0, 1, 4, 5] (by decide) rfl), (ARG.out _ _ T)⟩)
        clear hlt hk w1 HT hA hc hop hka ok hab DO
        go_wp2_with (first
          | (go_at_call 11; refine XC.out.mono ?_; rintro e w5 ⟨p1, rfl, t⟩; have RC := Lib.hid (t.rcopy (i := 1) rfl); clear t XC)
          | (go_at_call 12; refine RC.out.mono ?_; rintro e w6 ⟨p2, rfl, t⟩; obtain ⟨d5, c5, c6, c7⟩ := DOC.out _ _ _ t; have D1 := Lib.hid d5; clear t RC d5 DOC)
          | (go_at_call 13; refine D1.out.mono ?_; rintro e w7 ⟨rfl, t⟩; obtain ⟨e0, e1, e2⟩ := ARG.out _ _ t; have M1 := Lib.hid (MODEL.out _ _ _ _ _ t); clear t D1)
          | (go_at_call 14; refine M1.out.mono ?_; rintro e w8 ⟨rfl, t⟩; obtain ⟨⟨x0, x1⟩, ⟨y0, y1⟩, ⟨la, lc, z0⟩, z1, cc, ci, tt⟩ := tells_turn t; have CC := Lib.hid cc; have CI := Lib.hid ci; have T := Lib.hid (NX.out _ _ _ _ _ tt); clear t M1 cc ci tt))
        go_region_held3 (fun w' => w'.cell? ⟨w7.heap.size, 0, none⟩ = some (.int .i64 q1) ∧ w'.cell? ⟨w7.heap.size, 1, none⟩ = some (.string q2) ∧ w'.cell? ⟨w8.heap.size, 0, none⟩ = some (.int .i64 q1) ∧ w'.cell? ⟨w8.heap.size, 1, none⟩ = some (.string q2) ∧ w'.cell? ⟨py, 0, none⟩ = some (.slice la s'.L.length lc) ∧ w'.cell? ⟨py, 1, none⟩ = some (.bool s'.cut) ∧ (binOp .neq 30 (.agg #[.int .i64 q1, .string q2]) (.agg #[.int .i64 q1, .string q2])).run Try.prog w' = .ok (.bool false) w') (first | exact ⟨x0, x1, y0, y1, z0, z1, q0 _⟩) (first | (go_at_call 15; refine CC.out.mono ?_; rintro e w9 ⟨rfl, rfl⟩; clear CC) | (go_at_call 16; refine CI.out.mono ?_; rintro e w9 ⟨rfl, rfl⟩; clear CI))
        all_goals
          go_wp2
          go_roundw
          case rel => first | exact T.out | (rw [W1.out]; exact T.out)
          case measure => first | exact MEAS.out | (rw [W1.out]; exact MEAS.out)
      · have e5 : ((k : Int) == at_) = false := beq_eq_false_iff_ne.2 hka
        have D1 := Lib.hid (DO.out _ _ _ _ HT.out)
        clear hlt hk w1 HT hA hc hop hka ok hab DO
        go_wp2_with (first
          | (go_at_call 13; refine D1.out.mono ?_; rintro e w7 ⟨rfl, t⟩; obtain ⟨e0, e1, e2⟩ := ARG.out _ _ t; have M1 := Lib.hid (MODEL.out _ _ _ _ _ t); clear t D1)
          | (go_at_call 14; refine M1.out.mono ?_; rintro e w8 ⟨rfl, t⟩; obtain ⟨⟨x0, x1⟩, ⟨y0, y1⟩, ⟨la, lc, z0⟩, z1, cc, ci, tt⟩ := tells_turn t; have CC := Lib.hid cc; have CI := Lib.hid ci; have T := Lib.hid (NX.out _ _ _ _ _ tt); clear t M1 cc ci tt))
        go_region_held3 (fun w' => w'.cell? ⟨w7.heap.size, 0, none⟩ = some (.int .i64 q1) ∧ w'.cell? ⟨w7.heap.size, 1, none⟩ = some (.string q2) ∧ w'.cell? ⟨w8.heap.size, 0, none⟩ = some (.int .i64 q1) ∧ w'.cell? ⟨w8.heap.size, 1, none⟩ = some (.string q2) ∧ w'.cell? ⟨py, 0, none⟩ = some (.slice la s'.L.length lc) ∧ w'.cell? ⟨py, 1, none⟩ = some (.bool s'.cut) ∧ (binOp .neq 30 (.agg #[.int .i64 q1, .string q2]) (.agg #[.int .i64 q1, .string q2])).run Try.prog w' = .ok (.bool false) w') (first | exact ⟨x0, x1, y0, y1, z0, z1, q0 _⟩) (first | (go_at_call 15; refine CC.out.mono ?_; rintro e w9 ⟨rfl, rfl⟩; clear CC) | (go_at_call 16; refine CI.out.mono ?_; rintro e w9 ⟨rfl, rfl⟩; clear CI))
        all_goals
          go_wp2
          go_roundw
          case rel => first | exact T.out | (rw [W1.out]; exact T.out)
          case measure => first | exact MEAS.out | (rw [W1.out]; exact MEAS.out)
    · have g1 : ¬ (k : Int) < (L.length : Int) := by omega
      have hs5 := HT.out.linkLe (i := 0) rfl
      have hu5 := HT.out.linkLe (i := 2) rfl
      obtain ⟨b1, d1, b2, d2, TT⟩ := tells_open HT.out
      have y0 := TT.cellAt (j := 2) rfl 0 rfl
      have y1 := TT.cellAt (j := 2) rfl 1 rfl
      have z0 := TT.cellAt (j := 0) rfl 0 rfl
      have z1 := TT.cellAt (j := 0) rfl 1 rfl
      have LX := Lib.hid (TT.drew.xlist (i := 4) rfl)
      have SX := Lib.hid (show ∀ w7 a7 c7, Tog w (fun _ => False) w7 ([kHeap pw (.cells #[.slice b2 u.L.length d2, .bool u.cut] 40 (0, 0)), kPks (.slice b2 u.L.length d2) u.L, kHeap py (.cells #[.slice b1 s.L.length d1, .bool s.cut] 40 (0, 0)), kPks (.slice b1 s.L.length d1) s.L, kLink 53 px s, kLink 53 pz u] ++ [kPks (.slice a7 s.L.length c7) s.L]) →
          (w7.cell? ⟨py, 0, none⟩ = some (.slice b1 s.L.length d1) ∧ w7.cell? ⟨pw, 0, none⟩ = some (.slice b2 u.L.length d2) ∧ w7.cell? ⟨pw, 1, none⟩ = some (.bool u.cut)) ∧
          Calls Try.prog 17 #[.slice a7 s.L.length c7, .slice b1 s.L.length d1] w7 (fun e w' => e = .returned (.bool true) ∧ (w'.cell? ⟨py, 0, none⟩ = some (.slice b1 s.L.length d1) ∧ w'.cell? ⟨pw, 0, none⟩ = some (.slice b2 u.L.length d2) ∧ w'.cell? ⟨pw, 1, none⟩ = some (.bool u.cut)) ∧
            Calls Try.prog 18 #[.pointer (some ⟨pz, 0, none⟩)] w' (fun e w8 => ∃ a8 c8, e = .returned (.slice a8 u.L.length c8) ∧ (w8.cell? ⟨py, 0, none⟩ = some (.slice b1 s.L.length d1) ∧ w8.cell? ⟨pw, 0, none⟩ = some (.slice b2 u.L.length d2) ∧ w8.cell? ⟨pw, 1, none⟩ = some (.bool u.cut)) ∧
              Calls Try.prog 17 #[.slice a8 u.L.length c8, .slice b2 u.L.length d2] w8 (fun e w9 => e = .returned (.bool true) ∧ (w9.cell? ⟨py, 0, none⟩ = some (.slice b1 s.L.length d1) ∧ w9.cell? ⟨pw, 0, none⟩ = some (.slice b2 u.L.length d2) ∧ w9.cell? ⟨pw, 1, none⟩ = some (.bool u.cut)) ∧
                Calls Try.prog 16 #[.pointer (some ⟨pz, 0, none⟩)] w9 (fun e w10 => e = .returned (.bool u.cut) ∧ w9 = w10) ∧ Below w.heap.size w w9))) from fun w7 a7 c7 T => by
        refine ⟨⟨T.cellAt (j := 2) rfl 0 rfl, T.cellAt (j := 0) rfl 0 rfl, T.cellAt (j := 0) rfl 1 rfl⟩, ?_⟩
        have S1 := same_any (T.srcPks (i := 6) rfl) (T.srcPks (i := 3) rfl) (by omega) (by omega)
        rw [decide_eq_true rfl] at S1
        refine S1.mono (fun e w' ⟨he, hb⟩ => ⟨he, ?_⟩)
        have T2 := T.on hb
        refine ⟨⟨T2.cellAt (j := 2) rfl 0 rfl, T2.cellAt (j := 0) rfl 0 rfl, T2.cellAt (j := 0) rfl 1 rfl⟩, (T2.xlist (i := 5) rfl).mono (fun e w8 ⟨a8, c8, he, T3⟩ => ⟨a8, c8, he, ⟨T3.cellAt (j := 2) rfl 0 rfl, T3.cellAt (j := 0) rfl 0 rfl, T3.cellAt (j := 0) rfl 1 rfl⟩, ?_⟩)⟩
        have S2 := same_any (T3.srcPks (i := 7) rfl) (T3.srcPks (i := 1) rfl) (by omega) (by omega)
        rw [decide_eq_true rfl] at S2
        refine S2.mono (fun e w9 ⟨he, hb⟩ => ⟨he, ?_⟩)
        have T4 := T3.on hb
        exact ⟨⟨T4.cellAt (j := 2) rfl 0 rfl, T4.cellAt (j := 0) rfl 0 rfl, T4.cellAt (j := 0) rfl 1 rfl⟩, T4.xiscut (i := 5) rfl, T4.top⟩)
      generalize s.L.length = ns at *
      generalize u.L.length = nu at *
      clear hlt hk HT TT hs5 hu5
      go_wp2_with fail
      go_region_held3 (fun w' => w'.cell? ⟨py, 0, none⟩ = some (.slice b1 ns d1) ∧ w'.cell? ⟨pw, 0, none⟩ = some (.slice b2 nu d2) ∧ w'.cell? ⟨pw, 1, none⟩ = some (.bool u.cut)) (first | exact ⟨y0, z0, z1⟩ | exact ⟨f0, f1, f2⟩ | exact ⟨f3, f4, f5⟩ | exact ⟨f6, f7, f8⟩ | exact ⟨f9, f10, f11⟩) (first
        | (go_at_call 18; refine LX.out.mono ?_; rintro e w7 ⟨a7, c7, rfl, t⟩; obtain ⟨⟨f0, f1, f2⟩, sm⟩ := SX.out _ _ _ t; have S1 := Lib.hid sm; clear t sm LX SX)
        | (go_at_call 17; refine S1.out.mono ?_; rintro e w8 ⟨rfl, ⟨f3, f4, f5⟩, lz⟩; have LZ := Lib.hid lz; clear lz S1)
        | (go_at_call 18; refine LZ.out.mono ?_; rintro e w9 ⟨a8, c8, rfl, ⟨f6, f7, f8⟩, sm⟩; have S2 := Lib.hid sm; clear sm LZ)
        | (go_at_call 17; refine S2.out.mono ?_; rintro e w10 ⟨rfl, ⟨f9, f10, f11⟩, ic, bb⟩; have IC := Lib.hid ic; have BB := Lib.hid bb; clear ic bb S2)
        | (go_at_call 16; refine IC.out.mono ?_; rintro e w11 ⟨rfl, rfl⟩))
      all_goals
        go_wp2
        go_ret
        exact ⟨rfl, BB.out⟩
set_option maxHeartbeats 2000000 in
theorem tells_any {a : Option Addr} {c : Nat} {L : List OpV} (w : World) (h : RowsAt OpV.cells OpV.Ok 3 w.heap.size w a L) (at_ : Int) (hat : InI at_) :
    Calls Try.prog 3 #[.slice a L.length c, .int .i64 at_] w fun e w' => e = .returned (.bool true) ∧ Below w.heap.size w w' := by
  by_cases hfew : fewB L 600 = true
  · refine tells_in w h at_ hat ?_ hfew
    have : (L.length : Int) ≤ 600 := by
      unfold fewB at hfew
      rw [Bool.and_eq_true] at hfew
      exact of_decide_eq_true hfew.2
    omega
  · have hf : fewB L 600 = false := by simpa using hfew
    have SM := Lib.hid (small_any w)
    have NEW := Lib.hid (fun (w1 : World) (b : Below w.heap.size w w1) => ((Tog.nil w (fun _ => False)).on b).xnew)
    have FEW := Lib.hid (fun (w1 : World) (b : Below w.heap.size w w1) => few_any (w := w1) (c := c) ⟨h.cells.imp id (fun ⟨x, o, h1, h2, h3⟩ => ⟨x, o, h1, h2, fun i A hA j u hj => (b.cell (p := ⟨x, o + i * 3 + j, none⟩) h2).trans (h3 i A hA j u hj)⟩), h.ok, h.len⟩ 600 h.len)
    rw [hf] at FEW
    clear h hfew
    go_enter Try.func3, Try.ntmps3
    go_wp2_with (first
      | (go_at_call 7; refine SM.out.mono ?_; rintro e w1 ⟨rfl, t⟩; have N1 := Lib.hid (NEW.out w1 t); clear t SM)
      | (go_at_call 8; refine N1.out.mono ?_; rintro e w2 ⟨px, rfl, t⟩; have N2 := Lib.hid t.rnew; clear t N1)
      | (go_at_call 9; refine N2.out.mono ?_; rintro e w3 ⟨py, rfl, t⟩; have N3 := Lib.hid (FEW.out w3 t.top); have TB := Lib.hid t.top; clear t N2 FEW)
      | (go_at_call 10; refine N3.out.mono ?_; rintro e w4 ⟨rfl, rfl⟩; clear N3))
    go_ret
    exact ⟨rfl, TB.out⟩
end Go.Proofs.Ytgdcocfekjlhfaa
