/-
  FramesHold.
-/
import Derived.Test.YtpabkaihppnddaaCq
namespace Go.Proofs.Ytpabkaihppnddaa
open Go.RowKit
set_option linter.unusedVariables false
set_option linter.unusedSimpArgs false
set_option maxRecDepth 100000
theorem elRows : El Try.prog 43 46 (.slice none 0 0) 1 24 := ⟨Try.underlying43, by kernel_rfl, rfl, by decide⟩
theorem step_append_run {P : Program} {ops : Array Oper} {o : Oper} {act : Act} {K : Act → World → Prop} {Q : Exit → Act → World → Prop} {F : Prop} {w : World} (hgd : o.guard = none) (d x : Operand) (dT sT : TypeId) (ho : o.op = .call { callee := .builtin .append, args := #[d, x], argTypes := #[dT, sT] })
    {v X : Value} (hv : act.eval d = v) (hx : act.eval x = X) {r : Value} {w' : World} (hr : (Builtin.append_ #[dT, sT] o.type #[v, X]).run P w = .ok r w') (hK : K (act.put o.dst r) w') : if Region.wanted o (yielded ops act.tmps) = true then Oper.wp P o act w K Q else F := by
  have hw : Region.wanted o (yielded ops act.tmps) = true := by simp [Region.wanted, hgd]
  rw [if_pos hw]
  unfold Oper.wp execOp
  simp only [ho, resolve, invoke, builtin, Sem.run_bind, Sem.run_pure, Result.andThen_ok, List.map_toArray, List.map_cons, List.map_nil, hv, hx, hr]
  exact hK
theorem fill_take (s : ByteArray) : (s.data.toList.take 64 ++ List.replicate 64 0).take 64 = fillOf s := by
  have hs : s.data.toList.length = s.size := by simp
  unfold fillOf
  rw [List.take_append, List.take_of_length_le (by rw [List.length_take]; omega), List.length_take, hs, List.take_replicate]
  congr 2; omega
section
variable {w0 w : World} {S : Nat → Prop} {l tl : List Kd} {g N p : Nat} {vs : List Value} {L : Fm}
theorem hold_end (h : Tog w0 S w (kFr p L :: kOut g N vs :: (inn vs L ++ tl))) (hN : L.length = N) : Calls Try.prog 24 #[.pointer (some ⟨p, 0, none⟩), .slice (some ⟨g, 0, none⟩) N N] w fun e w' => e = .returned (.bool true) ∧ ∃ n, w' = w.drewN n := by
  subst hN; exact holds_any h
theorem used_end {k : Kd} (h : Tog w0 S w (k :: kOut g N vs :: (inn vs L ++ tl))) (ok : FrOk L) (hN : L.length = N) (U : Nat) (hU : L.used = U) : Calls Try.prog 23 #[.slice (some ⟨g, 0, none⟩) N N] w fun e w' => e = .returned (.int .i64 U) ∧ w' = w := by
  subst hN hU; exact used_any h ok
theorem frUsed_end (h : Tog w0 S w (kFr p L :: l)) (U : Nat) (hU : L.used = U) : Calls Try.prog 13 #[.pointer (some ⟨p, 0, none⟩)] w fun e w' => e = .returned (.int .i64 U) ∧ w' = w := by
  subst hU; exact h.xused (i := 0) rfl
theorem Tog.nilPages (h : Tog w0 S w l) : ∀ n, Tog w0 S w (l ++ List.replicate n (kPg (.slice none 0 0) none))
  | 0 => by simpa using h
  | n + 1 => by
    have := (Tog.nilPages h n).nilPage
    rw [List.append_assoc, ← List.replicate_succ'] at this
    exact this
theorem inn_nil (n : Nat) : inn (List.replicate n (.slice none 0 0)) (List.replicate n none) = List.replicate n (kPg (.slice none 0 0) none) := by simp [inn]
end
section
variable {w0 w : World} {S : Nat → Prop} {l tl : List Kd} {g N p : Nat} {vs : List Value} {L : Fm}
theorem Tog.outLen {k : Kd} (h : Tog w0 S w (k :: kOut g N vs :: tl)) : vs.length = N := by
  have := (h.rowAt (j := 1) rfl).1
  omega
theorem opCells {w : World} {g : Nat} {A : OpV} (h : w.heap[g]? = some (.cells A.cells 33 (0, 0))) : w.cell? ⟨g, 0, none⟩ = some (.int .i64 A.d) ∧ w.cell? ⟨g, 1, none⟩ = some (.int .i64 A.f) ∧ w.cell? ⟨g, 2, none⟩ = some (.int .i64 A.a) ∧ w.cell? ⟨g, 3, none⟩ = some (.int .u8 (A.b.toNat : Int)) ∧ w.cell? ⟨g, 4, none⟩ = some (.string A.s) := by
  refine ⟨?_, ?_, ?_, ?_, ?_⟩ <;> (rw [cell_of_row _ _ _ _ _ _ h]; rfl)
end
/-- What a turn leaves. -/
def HX (w : World) (p gp N n : Nat) (i : Value) (wz : World) : Prop := ∃ (j : Nat) (L : Fm) (vs : List Value), j ≤ n ∧ i = .int .i64 (j : Int) ∧ Hid (L.length = N ∧ Tog w (fun _ => False) wz (kFr p L :: kOut gp N vs :: (inn vs L ++ [])))
theorem hx_of {w : World} {p gp N n j : Nat} {L : Fm} {vs : List Value} {tl : List Kd} {wz : World} (T : Tog w (fun _ => False) wz (kFr p L :: kOut gp N vs :: (inn vs L ++ tl))) (hN : L.length = N) (hj : j < n) (m : Nat) : HX w p gp N n (.int .i64 ((j : Int) + 1)) (wz.drewN m) :=
  ⟨j + 1, L, vs, hj, rfl, Lib.hid ⟨hN, by
    have T2 : Tog w (fun _ => False) (wz.drewN m) ((kFr p L :: kOut gp N vs :: (inn vs L ++ [])) ++ tl) := by
      have := T.drewN m
      simpa using this
    exact T2.front⟩⟩
theorem way_st {w w2 : World} {p gp N n j m k : Nat} {L L2 : Fm} {vs : List Value} {tl : List Kd} {q : List UInt8} {b : UInt8} (T2 : Tog w (fun _ => False) w2 (kFr p L2 :: kOut gp N vs :: (inn vs L ++ tl))) (hE : L2 = L.set m (some (q.set k b))) (hvs : vs.length = L.length) (okL : FrOk L) (hLN : L.length = N) (hq : L[m]? = some (some q)) (hk : k < 64) (hlt : j < n) :
    ∃ (gb c' : Nat) (b0 : UInt8), w2.cell? ⟨gp, m, none⟩ = some (.slice (some ⟨gb, 0, none⟩) 64 c') ∧ w2.cell? ⟨gb, k, none⟩ = some (.int .u8 (b0.toNat : Int)) ∧ w2.frozen? ⟨gb, k, none⟩ = false ∧
      Calls Try.prog 24 #[.pointer (some ⟨p, 0, none⟩), .slice (some ⟨gp, 0, none⟩) N N] (w2.drew.setCell ⟨gb, k, none⟩ (.int .u8 (b.toNat : Int))) (fun e w' => e = .returned (.bool true) ∧ ∃ n', w' = (w2.drew.setCell ⟨gb, k, none⟩ (.int .u8 (b.toNat : Int))).drewN n') ∧
      ∀ n', HX w p gp N n (.int .i64 ((j : Int) + 1)) ((w2.setCell ⟨gb, k, none⟩ (.int .u8 (b.toNat : Int))).drewN (1 + n')) := by
  subst hE
  have hql := okL.sz m q hq
  obtain ⟨gb, c', _, y0, y1, y2, T3⟩ := T2.drew.setByte hvs hq (List.getElem?_eq_getElem (show k < q.length by omega)) b
  rw [hql] at y0
  have e9 : w2.drew.setCell ⟨gb, k, none⟩ (.int .u8 (b.toNat : Int)) = (w2.setCell ⟨gb, k, none⟩ (.int .u8 (b.toNat : Int))).drewN 1 := rfl
  exact ⟨gb, c', _, y0, y1, y2, hold_end T3 (by simpa using hLN), fun n' => by have := hx_of (n := n) T3 (by simpa using hLN) hlt n'; rw [e9, World.drewN_drewN] at this; exact this⟩
theorem way_fi {w w2 : World} {p gp N n j m g9 : Nat} {L L2 : Fm} {vs : List Value} {ob : Obj} {q : List UInt8} {s : ByteArray} (T2 : Tog w (fun _ => False) w2 (kFr p L2 :: kOut gp N vs :: (inn vs L ++ [kHeap g9 ob]))) (hE : L2 = L.set m (some (fillOf s))) (hvs : vs.length = L.length) (okL : FrOk L) (hLN : L.length = N) (hq : L[m]? = some (some q)) (hlt : j < n) :
    ∃ (a9 : Option Addr) (c9 cap kk g' c' : Nat) (X1 X2 : World), w2.cell? ⟨gp, m, none⟩ = some (.slice a9 64 c9) ∧ kk ≤ cap ∧ kk = min s.size 64 ∧ kk + 64 ≤ c' ∧
      (convert 9 46 (.string s)).run Try.prog w2.drew = .ok (.slice (some ⟨w2.heap.size, 0, none⟩) s.size cap) X1 ∧
      (Builtin.append_ #[ 46, 3 ] 46 #[.slice (some ⟨w2.heap.size, 0, none⟩) kk cap, .int .i64 64]).run Try.prog X1 = .ok (.slice (some ⟨g', 0, none⟩) (kk + 64) c') X2 ∧
      (∀ i v, w2.cell? ⟨g9, i, none⟩ = some v → X1.cell? ⟨g9, i, none⟩ = some v ∧ X2.cell? ⟨g9, i, none⟩ = some v ∧ (X2.setCell ⟨gp, m, none⟩ (.slice (some ⟨g', 0, none⟩) 64 c')).cell? ⟨g9, i, none⟩ = some v) ∧
      (∃ u, X2.cell? ⟨gp, m, none⟩ = some u) ∧ X2.frozen? ⟨gp, m, none⟩ = false ∧
      Calls Try.prog 24 #[.pointer (some ⟨p, 0, none⟩), .slice (some ⟨gp, 0, none⟩) N N] (X2.setCell ⟨gp, m, none⟩ (.slice (some ⟨g', 0, none⟩) 64 c')) (fun e w' => e = .returned (.bool true) ∧ ∃ n', w' = (X2.setCell ⟨gp, m, none⟩ (.slice (some ⟨g', 0, none⟩) 64 c')).drewN n') ∧
      ∀ n', HX w p gp N n (.int .i64 ((j : Int) + 1)) ((X2.setCell ⟨gp, m, none⟩ (.slice (some ⟨g', 0, none⟩) 64 c')).drewN n') := by
  subst hE
  have hql := okL.sz m q hq
  have hml := (List.getElem?_eq_some_iff.1 hq).1
  subst hLN
  obtain ⟨a9, c9, _, y0, _, _⟩ := T2.pgAt hq
  rw [Option.getD_some, hql] at y0
  obtain ⟨cap, X1, R1, B1⟩ := bb_made w2.drew s
  have B2 := B1.take 64
  have hsl : s.data.toList.length = s.size := by simp
  have hkl : (s.data.toList.take 64).length = min s.size 64 := by rw [List.length_take, hsl]; omega
  obtain ⟨g', c', X2, R2, B3⟩ := bb_zeros B2 (by rw [hkl]; omega) B1.bel.size 46
  have TP := T2.drew.bufPage B3 64 (by simp)
  rw [fill_take] at TP
  obtain ⟨cu, fu, T3⟩ := Tog.putPage TP hvs hml
  have hr1 := B1.room
  have hr3 := B3.room
  rw [List.length_append, hkl, List.length_replicate] at hr3
  rw [hkl] at R2
  refine ⟨a9, c9, cap, min s.size 64, g', c', X1, X2, y0, by omega, rfl, hr3, R1, R2, fun i v hv => ?_, cu, fu, hold_end T3 (by simp), fun n' => hx_of T3 (by simp) hlt n'⟩
  have hlt9 : g9 < w2.drew.heap.size := World.block_lt_of_cell? w2 _ hv
  have hb := Tog.lastAt (l := kFr p (L.set m (some (fillOf s))) :: kOut gp L.length (vs.set m (.slice (some ⟨g', 0, none⟩) 64 c')) :: inn (vs.set m (.slice (some ⟨g', 0, none⟩) 64 c')) (L.set m (some (fillOf s)))) T3
  have hb0 := Tog.lastAt (l := kFr p (L.set m (some (fillOf s))) :: kOut gp L.length vs :: inn vs L) T2
  refine ⟨(B1.bel.cell (p := ⟨g9, i, none⟩) hlt9).trans hv, (B3.bel.cell (p := ⟨g9, i, none⟩) hlt9).trans hv, ?_⟩
  rw [← hv]
  simp only [World.cell?, hb, hb0]
set_option maxHeartbeats 8000000 in
theorem hold_any {a : Option Addr} {c : Nat} {AL : List OpV} (w : World) (h : RowsAt OpV.cells OpV.Ok 5 w.heap.size w a AL) (n : Int) (hn : InI n) :
    Calls Try.prog 4 #[.int .i64 n, .slice a AL.length c] w fun e w' => e = .returned (.bool true) ∧ Below w.heap.size w w' := by
  have SM := Lib.hid (small_any w)
  by_cases hr : 1 ≤ n ∧ n ≤ 20
  · have FEW := Lib.hid (fun (w1 : World) (b : Below w.heap.size w w1) => few_any (w := w1) (c := c) ⟨h.cells.imp id (fun ⟨x, o, h1, h2, h3⟩ => ⟨x, o, h1, h2, fun i A hA j u hj => (b.cell (p := ⟨x, o + i * 5 + j, none⟩) h2).trans (h3 i A hA j u hj)⟩), h.ok, h.len⟩ h.len)
    obtain ⟨r1, r2⟩ := hr
    obtain ⟨N, rfl⟩ : ∃ N : Nat, n = N := ⟨n.toNat, by omega⟩
    have hN20 : N ≤ 20 := by omega
    cases hfew : fewB AL with
    | false =>
      rw [hfew] at FEW
      clear h
      go_enter Try.func4, Try.ntmps4
      go_wp2_with (first
        | (go_at_call 7; refine SM.out.mono ?_; rintro e w1 ⟨rfl, t⟩; have N3 := Lib.hid (FEW.out w1 t); have TB := Lib.hid t; clear t SM FEW)
        | (go_at_call 8; refine N3.out.mono ?_; rintro e w4 ⟨rfl, hw⟩; subst w4; clear N3))
      go_ret
      exact ⟨rfl, TB.out⟩
    | true =>
      rw [hfew] at FEW
      have hl100 : AL.length ≤ 100 := by
        unfold fewB at hfew
        rw [Bool.and_eq_true] at hfew
        exact of_decide_eq_true hfew.2
      have CE := Lib.hid (fun (wr : World) (hw : Below w.heap.size w wr) i A (hA : AL[i]? = some A) => h.one hw hA)
      have OK := Lib.hid h.ok
      have NEW := Lib.hid (fun (w1 : World) (b : Below w.heap.size w w1) => ((Tog.nil w (fun _ => False)).on b).xnew N hn)
      have k1 := fun W => elRows.make N (by unfold maxLen; omega) (by omega) W
      have ST := Lib.hid (show ∀ p w2, Tog w (fun _ => False) w2 [kFr p (Fm.new N)] → Hid ((List.replicate N none : Fm).length = N ∧ Tog w (fun _ => False) (w2.alloc (.cells (madeCells #[Value.slice none 0 0] N) 46)) (kFr p (List.replicate N none) :: kOut w2.heap.size N (List.replicate N (.slice none 0 0)) :: (inn (List.replicate N (.slice none 0 0)) (List.replicate N none) ++ []))) from fun p w2 T => Lib.hid ⟨by simp, by
        have FL : Fm.new N = List.replicate N none := by unfold Fm.new; congr 1; omega
        rw [FL] at T
        have t1 := T.made 46 1 N (madeCells (Value.cells (.slice none 0 0)) (N * 1)) (by rw [size_madeCells]) (by unfold maxLen; omega)
        have hz : ∀ k, k < (Value.cells (.slice none 0 0)).size → (Value.cells (.slice none 0 0))[k]! = .slice none 0 0 := by
          intro k hk
          obtain rfl : k = 0 := by simpa [Value.cells] using hk
          rfl
        rw [made_same _ (.slice none 0 0) _ (by decide) hz, Nat.mul_one] at t1
        have t2 := t1.nilPages N
        rw [inn_nil, List.append_nil]
        exact t2⟩)
      clear h hfew
      go_enter Try.func4, Try.ntmps4
      go_wp2_with (first
        | (go_at_call 7; refine SM.out.mono ?_; rintro e w1 ⟨rfl, t⟩; have N3 := Lib.hid (FEW.out w1 t); have N1 := Lib.hid (NEW.out w1 t); clear t SM FEW NEW)
        | (go_at_call 8; refine N3.out.mono ?_; rintro e w4 ⟨rfl, hw⟩; subst w4; clear N3)
        | (go_at_call 9; refine N1.out.mono ?_; rintro e w2 ⟨p, rfl, t⟩; have T0 := ST.out p w2 t; clear t N1 ST))
      clear k1
      generalize hgp : w2.heap.size = gp at *
      go_loopw [8] (fun i wr => HX w p gp N AL.length i wr) (fun i _ => AL.length - (intOf i).toNat)
      case atStart =>
        exact ⟨0, List.replicate N none, List.replicate N (.slice none 0 0), Nat.zero_le _, rfl, T0⟩
      case round =>
        obtain ⟨j, L, vs, hj, rfl, HT⟩ := hrel
        clear T0
        obtain ⟨hLN, T⟩ := HT.out
        by_cases hlt : j < AL.length
        · obtain ⟨A, hA⟩ : ∃ A, AL[j]? = some A := ⟨_, List.getElem?_eq_getElem hlt⟩
          have okA := OK.out A (List.mem_of_getElem? hA)
          obtain ⟨b, o, rfl, _, hc⟩ := CE.out wr T.top j A hA
          have c0 : wr.cell? ⟨b, o + j * 5, none⟩ = some (.int .i64 A.d) := hc 0 _ rfl
          have c1 : wr.cell? ⟨b, o + j * 5 + 1, none⟩ = some (.int .i64 A.f) := hc 1 _ rfl
          have c2 : wr.cell? ⟨b, o + j * 5 + 2, none⟩ = some (.int .i64 A.a) := hc 2 _ rfl
          have c3 : wr.cell? ⟨b, o + j * 5 + 3, none⟩ = some (.int .u8 (A.b.toNat : Int)) := hc 3 _ rfl
          have c4 : wr.cell? ⟨b, o + j * 5 + 4, none⟩ = some (.string A.s) := hc 4 _ rfl
          have okL := T.okFr (i := 0) rfl
          have hvs : vs.length = L.length := T.outLen.trans hLN.symm
          have g0 : (0 : Int) ≤ (j : Int) := by omega
          have g1 : (j : Int) < (AL.length : Int) := by omega
          have w1' : wrap64 ((j : Int) + 1) = (j : Int) + 1 := by unfold wrap64; omega
          have W1 := Lib.hid w1'
          have MEAS := Lib.hid (show AL.length - (intOf (.int .i64 ((j : Int) + 1))).toNat < AL.length - (intOf (.int .i64 (j : Int))).toNat by simp [intOf]; omega)
          have TB : Tog w (fun _ => False) (wr.alloc (.cells A.cells 33)) (kFr p L :: kOut gp N vs :: (inn vs L ++ [kHeap wr.heap.size (.cells A.cells 33 (0, 0))])) := by
            have := T.block (.cells A.cells 33)
            simpa using this
          have C1 := TB.xdo (i := 0) rfl A okA
          have PK := fun W => pick_any A.d okA.d W
          have XC : ∀ (w2 : World) (L2 : Fm), Tog w (fun _ => False) w2 (kFr p L2 :: kOut gp N vs :: (inn vs L ++ [kHeap wr.heap.size (.cells A.cells 33 (0, 0))])) → w2.heap[wr.heap.size]? = some (.cells A.cells 33 (0, 0)) := fun w2 L2 T => Tog.lastAt (l := kFr p L2 :: kOut gp N vs :: inn vs L) T
          have hlN : (L.length : Int) = (N : Int) := by omega
          clear hc hA OK CE
          rcases way_of L A with ⟨m, hr, hE, hm, hq⟩ | ⟨hr, hE, hU⟩ | ⟨m, q, hr, hf, hq, hE⟩ | ⟨hr, hE⟩ | ⟨m, k, q, hr, hf, ha, hk, hq, hE⟩ | ⟨er, hr, her, hE⟩ | ⟨m, q, hr, hf, hq, hE⟩ | ⟨hr, hE⟩
          · rw [hE] at C1
            have PK : Hid (∀ W, Calls Try.prog 22 #[.int .i64 A.d, .int .i64 4] W fun e w' => e = .returned (.int .i64 (A.d % 4)) ∧ w' = W) := Lib.hid PK
            rw [hr] at PK
            simp only at C1
            have k1 : ∀ W : World, (Instr.makeSlice 46 (.int .i64 64) (.int .i64 64)).run Try.prog W = .ok (.slice (some ⟨W.heap.size, 0, none⟩) 64 64) (W.alloc (.cells (byteCells zpage).toArray 5)) := fun W => madeByte 64 W (by omega)
            have gm0 : (0 : Int) ≤ (m : Int) := by omega
            have gm1 : (m : Int) < (N : Int) := by omega
            have GO := Lib.hid (show ∀ w2, Tog w (fun _ => False) w2 (kFr p (L.set m (some zpage)) :: kOut gp N vs :: (inn vs L ++ [kHeap wr.heap.size (.cells A.cells 33 (0, 0))])) → _ from fun w2 T2 => by
              obtain ⟨x0, x1, x2, x3, x4⟩ := opCells (XC w2 _ T2)
              have u1 := frUsed_end T2 (L.used + 1) (used_set hq zpage)
              have u2 := used_end T2 okL hLN L.used rfl
              obtain ⟨⟨u, cu⟩, fu, T3⟩ := (T2.madePage (q := zpage)).putPage hvs hm
              exact And.intro x0 (And.intro u1 (And.intro u2 (And.intro (⟨u, cu⟩ : ∃ u, _ = some u) (And.intro fu (And.intro (hold_end T3 (by simpa using hLN)) (fun n => hx_of T3 (by simpa using hLN) hlt n)))))))
            have C1 := Lib.hid C1
            clear TB XC hE hr T HT hLN hvs hlt hj w1' okL okA
            obtain ⟨ad, af, aa, ab, sx⟩ := A
            simp only [OpV.cells] at C1 GO PK c0 c1 c2 c3 c4
            generalize L.used = U at *
            have gU : (U : Int) < ((U + 1 : Nat) : Int) := by omega
            generalize U + 1 = U2 at *
            clear hlN
            go_wp2_with (first
              | (go_at_call 11; refine C1.out.mono ?_; rintro e w2 ⟨rfl, t⟩; obtain ⟨x0, u1, u2, ⟨u, cu⟩, fu, hh, nx⟩ := GO.out w2 t; have U1 := Lib.hid u1; have U2h := Lib.hid u2; have HH := Lib.hid hh; have NX := Lib.hid nx; clear u1 u2 hh nx; clear t C1 GO)
              | (go_at_call 22; refine (PK.out _).mono ?_; rintro e w3 ⟨rfl, hw⟩; subst w3)
              | (go_at_call 13; refine U1.out.mono ?_; rintro e w3 ⟨rfl, hw⟩; subst w3)
              | (go_at_call 23; refine U2h.out.mono ?_; rintro e w3 ⟨rfl, hw⟩; subst w3)
              | (go_at_call 24; refine HH.out.mono ?_; rintro e w4 ⟨rfl, nq, hw⟩; subst w4; have FN := Lib.hid (NX.out nq)))
            go_roundw
            case rel => first | exact FN.out | (rw [W1.out]; exact FN.out)
            case measure => first | exact MEAS.out | (rw [W1.out]; exact MEAS.out)
          · rw [hE] at C1
            have PK : Hid (∀ W, Calls Try.prog 22 #[.int .i64 A.d, .int .i64 4] W fun e w' => e = .returned (.int .i64 (A.d % 4)) ∧ w' = W) := Lib.hid PK
            rw [hr] at PK
            simp only at C1
            have GO := Lib.hid (show ∀ w2, Tog w (fun _ => False) w2 (kFr p L :: kOut gp N vs :: (inn vs L ++ [kHeap wr.heap.size (.cells A.cells 33 (0, 0))])) → _ from fun w2 T2 => by
              obtain ⟨x0, x1, x2, x3, x4⟩ := opCells (XC w2 _ T2)
              have u1 := frUsed_end T2 N (hU.trans hLN)
              have u2 := used_end T2 okL hLN N (hU.trans hLN)
              exact And.intro x0 (And.intro u1 (And.intro u2 (And.intro (hold_end T2 hLN) (fun n => hx_of T2 hLN hlt n)))))
            have C1 := Lib.hid C1
            clear TB XC hE hr T HT hLN hvs hlt hj w1' okL okA
            obtain ⟨ad, af, aa, ab, sx⟩ := A
            simp only [OpV.cells] at C1 GO PK c0 c1 c2 c3 c4
            clear hlN hU
            go_wp2_with (first
              | (go_at_call 11; refine C1.out.mono ?_; rintro e w2 ⟨rfl, t⟩; obtain ⟨x0, u1, u2, hh, nx⟩ := GO.out w2 t; have U1 := Lib.hid u1; have U2h := Lib.hid u2; have HH := Lib.hid hh; have NX := Lib.hid nx; clear u1 u2 hh nx; clear t C1 GO)
              | (go_at_call 22; refine (PK.out _).mono ?_; rintro e w3 ⟨rfl, hw⟩; subst w3)
              | (go_at_call 13; refine U1.out.mono ?_; rintro e w3 ⟨rfl, hw⟩; subst w3)
              | (go_at_call 23; refine U2h.out.mono ?_; rintro e w3 ⟨rfl, hw⟩; subst w3)
              | (go_at_call 24; refine HH.out.mono ?_; rintro e w4 ⟨rfl, nq, hw⟩; subst w4; have FN := Lib.hid (NX.out nq)))
            go_roundw
            case rel => first | exact FN.out | (rw [W1.out]; exact FN.out)
            case measure => first | exact MEAS.out | (rw [W1.out]; exact MEAS.out)
          · rw [hE] at C1
            have PK : Hid (∀ W, Calls Try.prog 22 #[.int .i64 A.d, .int .i64 4] W fun e w' => e = .returned (.int .i64 (A.d % 4)) ∧ w' = W) := Lib.hid PK
            rw [hr] at PK
            simp only at C1
            have gm0 : (0 : Int) ≤ (m : Int) := by omega
            have gm1 : (m : Int) < (N : Int) := by have := (List.getElem?_eq_some_iff.1 hq).1; omega
            have GO := Lib.hid (show ∀ w2, Tog w (fun _ => False) w2 (kFr p (L.set m none) :: kOut gp N vs :: (inn vs L ++ [kHeap wr.heap.size (.cells A.cells 33 (0, 0))])) → _ from fun w2 T2 => by
              obtain ⟨x0, x1, x2, x3, x4⟩ := opCells (XC w2 _ T2)
              obtain ⟨⟨u, cu⟩, fu, T3⟩ := (T2.nilPage).putPage hvs (List.getElem?_eq_some_iff.1 hq).1
              rw [hf] at x1
              exact And.intro x0 (And.intro x1 (And.intro (⟨u, cu⟩ : ∃ u, _ = some u) (And.intro fu (And.intro (hold_end T3 (by simpa using hLN)) (fun n => hx_of T3 (by simpa using hLN) hlt n))))))
            have C1 := Lib.hid C1
            clear TB XC hE hr T HT hLN hvs hlt hj w1' okL okA
            obtain ⟨ad, af, aa, ab, sx⟩ := A
            simp only [OpV.cells] at C1 GO PK c0 c1 c2 c3 c4
            clear hlN hq
            go_wp2_with (first
              | (go_at_call 11; refine C1.out.mono ?_; rintro e w2 ⟨rfl, t⟩; obtain ⟨x0, x1, ⟨u, cu⟩, fu, hh, nx⟩ := GO.out w2 t; have HH := Lib.hid hh; have NX := Lib.hid nx; clear hh nx; clear t C1 GO)
              | (go_at_call 22; refine (PK.out _).mono ?_; rintro e w3 ⟨rfl, hw⟩; subst w3)
              | (go_at_call 24; refine HH.out.mono ?_; rintro e w4 ⟨rfl, nq, hw⟩; subst w4; have FN := Lib.hid (NX.out nq)))
            go_roundw
            case rel => first | exact FN.out | (rw [W1.out]; exact FN.out)
            case measure => first | exact MEAS.out | (rw [W1.out]; exact MEAS.out)
          · rw [hE] at C1
            have PK : Hid (∀ W, Calls Try.prog 22 #[.int .i64 A.d, .int .i64 4] W fun e w' => e = .returned (.int .i64 (A.d % 4)) ∧ w' = W) := Lib.hid PK
            rw [hr] at PK
            simp only at C1
            have GO := Lib.hid (show ∀ w2, Tog w (fun _ => False) w2 (kFr p L :: kOut gp N vs :: (inn vs L ++ [kHeap wr.heap.size (.cells A.cells 33 (0, 0))])) → _ from fun w2 T2 => by
              obtain ⟨x0, x1, x2, x3, x4⟩ := opCells (XC w2 _ T2)
              exact And.intro x0 (And.intro (hold_end T2 hLN) (fun n => hx_of T2 hLN hlt n)))
            have C1 := Lib.hid C1
            clear TB XC hE hr T HT hLN hvs hlt hj w1' okL okA
            obtain ⟨ad, af, aa, ab, sx⟩ := A
            simp only [OpV.cells] at C1 GO PK c0 c1 c2 c3 c4
            clear hlN
            go_wp2_with (first
              | (go_at_call 11; refine C1.out.mono ?_; rintro e w2 ⟨rfl, t⟩; obtain ⟨x0, hh, nx⟩ := GO.out w2 t; have HH := Lib.hid hh; have NX := Lib.hid nx; clear hh nx; clear t C1 GO)
              | (go_at_call 22; refine (PK.out _).mono ?_; rintro e w3 ⟨rfl, hw⟩; subst w3)
              | (go_at_call 24; refine HH.out.mono ?_; rintro e w4 ⟨rfl, nq, hw⟩; subst w4; have FN := Lib.hid (NX.out nq)))
            go_roundw
            case rel => first | exact FN.out | (rw [W1.out]; exact FN.out)
            case measure => first | exact MEAS.out | (rw [W1.out]; exact MEAS.out)
          · rw [hE] at C1
            have PK : Hid (∀ W, Calls Try.prog 22 #[.int .i64 A.d, .int .i64 4] W fun e w' => e = .returned (.int .i64 (A.d % 4)) ∧ w' = W) := Lib.hid PK
            rw [hr] at PK
            simp only at C1
            have gm0 : (0 : Int) ≤ (m : Int) := by omega
            have gm1 : (m : Int) < (N : Int) := by have := (List.getElem?_eq_some_iff.1 hq).1; omega
            have gk0 : (0 : Int) ≤ (k : Int) := by omega
            have gk1 : (k : Int) < 64 := by omega
            have GO := Lib.hid (show ∀ w2, Tog w (fun _ => False) w2 (kFr p (L.set m (some (q.set k A.b))) :: kOut gp N vs :: (inn vs L ++ [kHeap wr.heap.size (.cells A.cells 33 (0, 0))])) → _ from fun w2 T2 => by
              obtain ⟨x0, x1, x2, x3, x4⟩ := opCells (XC w2 _ T2)
              have F := way_st T2 rfl hvs okL hLN hq hk hlt
              rw [hf] at x1
              rw [ha] at x2
              exact And.intro x0 (And.intro x1 (And.intro x2 (And.intro x3 F))))
            have C1 := Lib.hid C1
            clear TB XC hE hr T HT hLN hvs hlt hj w1' okL okA
            obtain ⟨ad, af, aa, ab, sx⟩ := A
            simp only [OpV.cells] at C1 GO PK c0 c1 c2 c3 c4
            clear hlN hq
            go_upto_region 32 with (first
              | (go_at_call 11; refine C1.out.mono ?_; rintro e w2 ⟨rfl, t⟩; obtain ⟨x0, x1, x2, x3, gb, c', b0, y0, y1, y2, hh, nx⟩ := GO.out w2 t; have HH := Lib.hid hh; have NX := Lib.hid nx; clear hh nx; clear t C1 GO)
              | (go_at_call 22; refine (PK.out _).mono ?_; rintro e w3 ⟨rfl, hw⟩; subst w3))
            go_region
            go_wp2_with (go_at_call 24; refine HH.out.mono ?_; rintro e w4 ⟨rfl, nq, hw⟩; subst w4; have FN := Lib.hid (NX.out nq))
            go_roundw
            case rel => first | exact FN.out | (rw [W1.out]; exact FN.out)
            case measure => first | exact MEAS.out | (rw [W1.out]; exact MEAS.out)
          · rw [hE] at C1
            have PK : Hid (∀ W, Calls Try.prog 22 #[.int .i64 A.d, .int .i64 4] W fun e w' => e = .returned (.int .i64 (A.d % 4)) ∧ w' = W) := Lib.hid PK
            rw [hr] at PK
            simp only at C1
            have her0 : (er == 0) = false := by rcases her with rfl | rfl <;> rfl
            have her1 : ¬ er = 0 := by rcases her with rfl | rfl <;> decide
            clear her
            have GO := Lib.hid (show ∀ w2, Tog w (fun _ => False) w2 (kFr p L :: kOut gp N vs :: (inn vs L ++ [kHeap wr.heap.size (.cells A.cells 33 (0, 0))])) → _ from fun w2 T2 => by
              obtain ⟨x0, x1, x2, x3, x4⟩ := opCells (XC w2 _ T2)
              exact And.intro x0 (And.intro (hold_end T2 hLN) (fun n => hx_of T2 hLN hlt n)))
            have C1 := Lib.hid C1
            clear TB XC hE hr T HT hLN hvs hlt hj w1' okL okA
            obtain ⟨ad, af, aa, ab, sx⟩ := A
            simp only [OpV.cells] at C1 GO PK c0 c1 c2 c3 c4
            clear hlN
            go_wp2_with (first
              | (go_at_call 11; refine C1.out.mono ?_; rintro e w2 ⟨rfl, t⟩; obtain ⟨x0, hh, nx⟩ := GO.out w2 t; have HH := Lib.hid hh; have NX := Lib.hid nx; clear hh nx; clear t C1 GO)
              | (go_at_call 22; refine (PK.out _).mono ?_; rintro e w3 ⟨rfl, hw⟩; subst w3)
              | (go_at_call 24; refine HH.out.mono ?_; rintro e w4 ⟨rfl, nq, hw⟩; subst w4; have FN := Lib.hid (NX.out nq)))
            go_roundw
            case rel => first | exact FN.out | (rw [W1.out]; exact FN.out)
            case measure => first | exact MEAS.out | (rw [W1.out]; exact MEAS.out)
          · rw [hE] at C1
            have PK : Hid (∀ W, Calls Try.prog 22 #[.int .i64 A.d, .int .i64 4] W fun e w' => e = .returned (.int .i64 (A.d % 4)) ∧ w' = W) := Lib.hid PK
            rw [hr] at PK
            simp only at C1
            have gm0 : (0 : Int) ≤ (m : Int) := by omega
            have gm1 : (m : Int) < (N : Int) := by have := (List.getElem?_eq_some_iff.1 hq).1; omega
            have GO := Lib.hid (show ∀ w2, Tog w (fun _ => False) w2 (kFr p (L.set m (some (fillOf A.s))) :: kOut gp N vs :: (inn vs L ++ [kHeap wr.heap.size (.cells A.cells 33 (0, 0))])) → _ from fun w2 T2 => by
              obtain ⟨x0, x1, x2, x3, x4⟩ := opCells (XC w2 _ T2)
              have F := way_fi T2 rfl hvs okL hLN hq hlt
              rw [hf] at x1
              exact And.intro x0 (And.intro x1 (And.intro x4 F)))
            have C1 := Lib.hid C1
            clear TB XC hE hr T HT hLN hvs hlt hj w1' okL okA
            obtain ⟨ad, af, aa, ab, sx⟩ := A
            simp only [OpV.cells] at C1 GO PK c0 c1 c2 c3 c4
            clear hlN hq
            go_upto_region 17 with (first
              | (go_at_call 11; refine C1.out.mono ?_; rintro e w2 ⟨rfl, t⟩; obtain ⟨x0, x1, x4, a9, c9, cap, kk, g', c', X1, X2, y0, k1, k2, k3, R1, R2, kp, ⟨u, cu⟩, fu, hh, nx⟩ := GO.out w2 t; have HH := Lib.hid hh; have NX := Lib.hid nx; have R2H := Lib.hid R2; clear hh nx R2; obtain ⟨xa1, xb1, xc1⟩ := kp 1 _ x1; obtain ⟨xa4, xb4, xc4⟩ := kp 4 _ x4; clear kp; clear t C1 GO)
              | (go_at_call 22; refine (PK.out _).mono ?_; rintro e w3 ⟨rfl, hw⟩; subst w3))
            have e1 : (if (sx.size : Int) < 64 then (sx.size : Int) else (64 : Int)) = (kk : Int) := by split <;> omega
            have e2 : (if (64 : Int) < (sx.size : Int) then (64 : Int) else (sx.size : Int)) = (kk : Int) := by split <;> omega
            have e3 : min (sx.size : Int) 64 = (kk : Int) := by omega
            have e4 : (0 : Int) ≤ (kk : Int) := by omega
            have e5 : (kk : Int) ≤ (cap : Int) := by omega
            have e6 : (64 : Int) ≤ (c' : Int) := by omega
            have e7 : 64 ≤ c' := by omega
            clear k2 k3
            refine wp_region_held_drew (S := fun w' => w'.cell? ⟨wr.heap.size, 1, none⟩ = some (.int .i64 (m : Int)) ∧ w'.cell? ⟨wr.heap.size, 4, none⟩ = some (.string sx)) (by kernel_rfl) ?_ (fun hHeld => ?_)
            · exact ⟨x1, x4⟩
            refine wpAnyH_take (i := 0) (v := ?_) rfl (by kernel_rfl) (by kernel_rfl) (by kernel_rfl) (fun _ _ _ h => h) (Or.inl ⟨by rfl, ?_⟩) (by assumption) ?_
            rotate_left
            · (intro w hSw; (try dsimp only at hSw); go_simp; try with_reducible rfl)
            (try simp only [List.getElem_toArray, List.getElem_cons_zero, List.getElem_cons_succ, Act.put, List.setIfInBounds_toArray, List.set_cons_zero, List.set_cons_succ])
            refine wpAnyH_take (i := 1) (v := ?_) rfl (by kernel_rfl) (by kernel_rfl) (by kernel_rfl) (fun _ _ _ h => h) (Or.inl ⟨by rfl, ?_⟩) (by assumption) ?_
            rotate_left
            · (intro w hSw; (try dsimp only at hSw); go_simp; try with_reducible rfl)
            (try simp only [List.getElem_toArray, List.getElem_cons_zero, List.getElem_cons_succ, Act.put, List.setIfInBounds_toArray, List.set_cons_zero, List.set_cons_succ])
            refine wpAnyH_take (i := 2) (v := ?_) rfl (by kernel_rfl) (by kernel_rfl) (by kernel_rfl) (fun _ _ _ h => h) (Or.inl ⟨by rfl, ?_⟩) (by assumption) ?_
            rotate_left
            · (intro w hSw; (try dsimp only at hSw); go_simp; try with_reducible rfl)
            (try simp only [List.getElem_toArray, List.getElem_cons_zero, List.getElem_cons_succ, Act.put, List.setIfInBounds_toArray, List.set_cons_zero, List.set_cons_succ])
            refine wpAnyH_take (i := 3) (v := ?_) rfl (by kernel_rfl) (by kernel_rfl) (by kernel_rfl) (fun _ _ _ h => h) (Or.inl ⟨by rfl, ?_⟩) (by assumption) ?_
            rotate_left
            · (intro w hSw; (try dsimp only at hSw); go_simp; try with_reducible rfl)
            (try simp only [List.getElem_toArray, List.getElem_cons_zero, List.getElem_cons_succ, Act.put, List.setIfInBounds_toArray, List.set_cons_zero, List.set_cons_succ])
            refine wpAnyH_take (i := 4) (v := ?_) rfl (by kernel_rfl) (by kernel_rfl) (by kernel_rfl) (fun _ _ _ h => h) (Or.inl ⟨by rfl, ?_⟩) (by assumption) ?_
            rotate_left
            · (intro w hSw; (try dsimp only at hSw); go_simp; try with_reducible rfl)
            (try simp only [List.getElem_toArray, List.getElem_cons_zero, List.getElem_cons_succ, Act.put, List.setIfInBounds_toArray, List.set_cons_zero, List.set_cons_succ])
            refine wpAnyH_take (i := 6) (v := ?_) rfl (by kernel_rfl) (by kernel_rfl) (by kernel_rfl) (fun _ _ _ h => h) (Or.inl ⟨by rfl, ?_⟩) (by assumption) ?_
            rotate_left
            · (intro w hSw; (try dsimp only at hSw); go_simp; try with_reducible rfl)
            (try simp only [List.getElem_toArray, List.getElem_cons_zero, List.getElem_cons_succ, Act.put, List.setIfInBounds_toArray, List.set_cons_zero, List.set_cons_succ])
            refine wpAnyH_take (i := 7) (v := ?_) rfl (by kernel_rfl) (by kernel_rfl) (by kernel_rfl) (fun _ _ _ h => h) (Or.inl ⟨by rfl, ?_⟩) (by assumption) ?_
            rotate_left
            · (intro w hSw; (try dsimp only at hSw); go_simp; try with_reducible rfl)
            (try simp only [List.getElem_toArray, List.getElem_cons_zero, List.getElem_cons_succ, Act.put, List.setIfInBounds_toArray, List.set_cons_zero, List.set_cons_succ])
            refine wpAnyH_take (i := 8) (v := ?_) rfl (by kernel_rfl) (by kernel_rfl) (by kernel_rfl) (fun _ _ _ h => h) (Or.inl ⟨by rfl, ?_⟩) (by assumption) ?_
            rotate_left
            · (intro w hSw; (try dsimp only at hSw); go_simp; try with_reducible rfl)
            (try simp only [List.getElem_toArray, List.getElem_cons_zero, List.getElem_cons_succ, Act.put, List.setIfInBounds_toArray, List.set_cons_zero, List.set_cons_succ])
            refine wpAnyH_take (i := 9) (v := ?_) rfl (by kernel_rfl) (by kernel_rfl) (by kernel_rfl) (fun _ _ _ h => h) (Or.inl ⟨by rfl, ?_⟩) (by assumption) ?_
            rotate_left
            · (intro w hSw; (try dsimp only at hSw); go_simp; try with_reducible rfl)
            (try simp only [List.getElem_toArray, List.getElem_cons_zero, List.getElem_cons_succ, Act.put, List.setIfInBounds_toArray, List.set_cons_zero, List.set_cons_succ])
            refine wpAnyH_ready (rs := [5]) (by kernel_rfl) (by simp) ?_
            refine AllReadyH.cons rfl (fun K hK => ?_) AllReadyH.nil
            go_simp
            refine hK.out _ _ ?_ (fun hHeld => ?_)
            · exact ⟨xa1, xa4⟩
            clear hK K
            (try simp only [List.getElem_toArray, List.getElem_cons_zero, List.getElem_cons_succ, Act.put, List.setIfInBounds_toArray, List.set_cons_zero, List.set_cons_succ])
            refine wpAnyH_take (i := 10) (v := ?_) rfl (by kernel_rfl) (by kernel_rfl) (by kernel_rfl) (fun _ _ _ h => h) (Or.inl ⟨by rfl, ?_⟩) (by assumption) ?_
            rotate_left
            · (intro w hSw; (try dsimp only at hSw); go_simp; try with_reducible rfl)
            (try simp only [List.getElem_toArray, List.getElem_cons_zero, List.getElem_cons_succ, Act.put, List.setIfInBounds_toArray, List.set_cons_zero, List.set_cons_succ])
            refine wpAnyH_ready (rs := [11]) (by kernel_rfl) (by simp) ?_
            refine AllReadyH.cons rfl (fun K hK => ?_) AllReadyH.nil
            refine step_append_run rfl _ _ _ _ rfl rfl rfl R2H.out ?_
            refine hK.out _ _ ?_ (fun hHeld => ?_)
            · exact ⟨xb1, xb4⟩
            clear hK K
            (try simp only [List.getElem_toArray, List.getElem_cons_zero, List.getElem_cons_succ, Act.put, List.setIfInBounds_toArray, List.set_cons_zero, List.set_cons_succ])
            refine wpAnyH_take (i := 12) (v := ?_) rfl (by kernel_rfl) (by kernel_rfl) (by kernel_rfl) (fun _ _ _ h => h) (Or.inl ⟨by rfl, ?_⟩) (by assumption) ?_
            rotate_left
            · (intro w hSw; (try dsimp only at hSw); go_simp; try with_reducible rfl)
            (try simp only [List.getElem_toArray, List.getElem_cons_zero, List.getElem_cons_succ, Act.put, List.setIfInBounds_toArray, List.set_cons_zero, List.set_cons_succ])
            refine wpAnyH_take (i := 13) (v := ?_) rfl (by kernel_rfl) (by kernel_rfl) (by kernel_rfl) (fun _ _ _ h => h) (Or.inl ⟨by rfl, ?_⟩) (by assumption) ?_
            rotate_left
            · (intro w hSw; (try dsimp only at hSw); go_simp; try with_reducible rfl)
            (try simp only [List.getElem_toArray, List.getElem_cons_zero, List.getElem_cons_succ, Act.put, List.setIfInBounds_toArray, List.set_cons_zero, List.set_cons_succ])
            refine wpAnyH_ready (rs := [14]) (by kernel_rfl) (by simp) ?_
            refine AllReadyH.cons rfl (fun K hK => ?_) AllReadyH.nil
            go_simp
            refine hK.out _ _ ?_ (fun hHeld => ?_)
            · exact ⟨xc1, xc4⟩
            clear hK K
            (try simp only [List.getElem_toArray, List.getElem_cons_zero, List.getElem_cons_succ, Act.put, List.setIfInBounds_toArray, List.set_cons_zero, List.set_cons_succ])
            refine wpAnyH_done (by kernel_rfl) ?_ _
            all_goals
              go_wp2_with (go_at_call 24; refine HH.out.mono ?_; rintro e w4 ⟨rfl, nq, hw⟩; subst w4; have FN := Lib.hid (NX.out nq))
              go_roundw
              case rel => first | exact FN.out | (rw [W1.out]; exact FN.out)
              case measure => first | exact MEAS.out | (rw [W1.out]; exact MEAS.out)
          · rw [hE] at C1
            have PK : Hid (∀ W, Calls Try.prog 22 #[.int .i64 A.d, .int .i64 4] W fun e w' => e = .returned (.int .i64 (A.d % 4)) ∧ w' = W) := Lib.hid PK
            rw [hr] at PK
            simp only at C1
            have GO := Lib.hid (show ∀ w2, Tog w (fun _ => False) w2 (kFr p L :: kOut gp N vs :: (inn vs L ++ [kHeap wr.heap.size (.cells A.cells 33 (0, 0))])) → _ from fun w2 T2 => by
              obtain ⟨x0, x1, x2, x3, x4⟩ := opCells (XC w2 _ T2)
              exact And.intro x0 (And.intro (hold_end T2 hLN) (fun n => hx_of T2 hLN hlt n)))
            have C1 := Lib.hid C1
            clear TB XC hE hr T HT hLN hvs hlt hj w1' okL okA
            obtain ⟨ad, af, aa, ab, sx⟩ := A
            simp only [OpV.cells] at C1 GO PK c0 c1 c2 c3 c4
            clear hlN
            go_wp2_with (first
              | (go_at_call 11; refine C1.out.mono ?_; rintro e w2 ⟨rfl, t⟩; obtain ⟨x0, hh, nx⟩ := GO.out w2 t; have HH := Lib.hid hh; have NX := Lib.hid nx; clear hh nx; clear t C1 GO)
              | (go_at_call 22; refine (PK.out _).mono ?_; rintro e w3 ⟨rfl, hw⟩; subst w3)
              | (go_at_call 24; refine HH.out.mono ?_; rintro e w4 ⟨rfl, nq, hw⟩; subst w4; have FN := Lib.hid (NX.out nq)))
            go_roundw
            case rel => first | exact FN.out | (rw [W1.out]; exact FN.out)
            case measure => first | exact MEAS.out | (rw [W1.out]; exact MEAS.out)
        · have g1 : ¬ (j : Int) < (AL.length : Int) := by omega
          have TB := Lib.hid T.top
          clear hlt hj HT T
          go_wp2
          go_ret
          exact ⟨rfl, TB.out⟩
  · clear h
    by_cases hr1 : 1 ≤ n
    · have hr2 : ¬ n ≤ 20 := fun e => hr ⟨hr1, e⟩
      clear hr
      go_enter Try.func4, Try.ntmps4
      go_wp2_with (go_at_call 7; refine SM.out.mono ?_; rintro e w1 ⟨rfl, t⟩; have TB := Lib.hid t; clear t SM)
      go_ret
      exact ⟨rfl, TB.out⟩
    · clear hr
      go_enter Try.func4, Try.ntmps4
      go_wp2_with (go_at_call 7; refine SM.out.mono ?_; rintro e w1 ⟨rfl, t⟩; have TB := Lib.hid t; clear t SM)
      go_ret
      exact ⟨rfl, TB.out⟩
end Go.Proofs.Ytpabkaihppnddaa
