/-
  CellTells: the walk.
-/
import Derived.Test.YtdejajpmebgidaaDoorKv
import Derived.Test.YtdejajpmebgidaaDoorKo
namespace Go.Proofs.YtdejajpmebgidaaDoor
open Go.RowKit Go.Maps WireM DiskM CellM
set_option linter.unusedVariables false
set_option linter.unusedSimpArgs false
set_option maxRecDepth 100000

theorem drop4 {w0 w : World} {a b c d e : Kd} (h : Tog w0 w [a, b, c, d, e]) : Tog w0 w [a, b, c, d] := by
  refine h.sub (fun i => i) (fun i k hk => ?_) (fun i j hi hj e => e)
  rcases i with _ | _ | _ | _ | i
  · exact hk
  · exact hk
  · exact hk
  · exact hk
  · simp at hk
section
variable {w0 w : World} {p r z y g : Nat} {s s' s1 sr : St} {c c' c1 cr : CS} {x : Int} {o : Obj}
theorem tells_set (h : Tog w0 w [kDisk p s, kRef r s, kCell 61 z p 3 c, kCell 66 y r 3 c, kHeap g o]) (hS : Slots w0) (S : ByteArray) (e1 : setS s 3 c S.data.toList = (s', c', x)) :
    Calls Tryd.prog 11 #[.pointer (some ⟨z, 0, none⟩), .string S] w fun e w' => e = .returned (.int .i64 x) ∧ Tog w0 w' [kDisk p s', kRef r s, kCell 61 z p 3 c', kCell 66 y r 3 c, kHeap g o] := by
  have := cset_any (l := [kDisk p St.new, kRef r s, kDisk p St.new, kCell 66 y r 3 c, kHeap g o]) (i := 0) (j := 2) (by decide) (by simp) (by simp) h hS S.data.toList
  rw [e1] at this
  exact this
theorem tells_rset (h : Tog w0 w [kDisk p s', kRef r s, kCell 61 z p 3 c', kCell 66 y r 3 c, kHeap g o]) (S : ByteArray) (e1 : setS s 3 c S.data.toList = (s', c', x)) :
    Calls Tryd.prog 12 #[.pointer (some ⟨y, 0, none⟩), .string S] w fun e w' => e = .returned (.int .i64 x) ∧ Tog w0 w' [kDisk p s', kRef r s', kCell 61 z p 3 c', kCell 66 y r 3 c', kHeap g o] := by
  have := rset_any (l := [kDisk p s', kDisk p St.new, kCell 61 z p 3 c', kDisk p St.new, kHeap g o]) (i := 1) (j := 3) (by decide) (by simp) (by simp) h S.data.toList
  rw [e1] at this
  exact this
theorem tells_again (h : Tog w0 w [kDisk p s, kRef r s, kCell 61 z p 3 c, kCell 66 y r 3 c, kHeap g o]) (hS : Slots w0) {a : Option Addr} {cc : Nat} {k : List Int} (ho : openS (s.crash k).start 3 = (some c1, 0)) (K : NumsAt w0 a cc k) :
    Calls Tryd.prog 17 #[.pointer (some ⟨p, 0, none⟩), .slice a k.length cc] w fun e w' => ∃ z', e = .returned (.tuple #[.pointer (some ⟨z', 0, none⟩), .int .i64 0]) ∧ Tog w0 w' [kDisk p (s.crash k).start, kRef r s, kCell 61 z' p 3 c1, kCell 66 y r 3 c, kHeap g o] := by
  have A := again_any h hS (i := 0) rfl K
  rw [ho] at A
  refine A.mono ?_
  rintro e w' ⟨z', rfl, t⟩
  refine ⟨z', rfl, t.sub (fun i => if i = 2 then 5 else i) (fun i k hk => ?_) (fun i j hi hj e => ?_)⟩
  · rcases i with _ | _ | _ | _ | _ | i
    · exact hk
    · exact hk
    · exact hk
    · exact hk
    · exact hk
    · simp at hk
  · simp at hi hj e
    by_cases h1 : i = 2 <;> by_cases h2 : j = 2 <;> simp_all <;> omega
theorem tells_rcrash (h : Tog w0 w [kDisk p s1, kRef r s, kCell 61 z p 3 c1, kCell 66 y r 3 c, kHeap g o]) {a : Option Addr} {cc : Nat} {k : List Int} (K : NumsAt w0 a cc k) :
    Calls Tryd.prog 18 #[.pointer (some ⟨r, 0, none⟩), .slice a k.length cc] w fun e w' => e = .returned (.tuple #[]) ∧ Tog w0 w' [kDisk p s1, kRef r (s.crash k), kCell 61 z p 3 c1, kCell 66 y r 3 c, kHeap g o] := h.rcrash (i := 1) rfl K
theorem tells_rstart (h : Tog w0 w [kDisk p s1, kRef r s, kCell 61 z p 3 c1, kCell 66 y r 3 c, kHeap g o]) :
    Calls Tryd.prog 19 #[.pointer (some ⟨r, 0, none⟩)] w fun e w' => e = .returned (.tuple #[]) ∧ Tog w0 w' [kDisk p s1, kRef r s.start, kCell 61 z p 3 c1, kCell 66 y r 3 c, kHeap g o] := h.rstart (i := 1) rfl
theorem tells_ropen (h : Tog w0 w [kDisk p s1, kRef r s1, kCell 61 z p 3 c1, kCell 66 y r 3 c, kHeap g o]) (ho : openS s1 3 = (some c1, 0)) :
    Calls Tryd.prog 10 #[.pointer (some ⟨r, 0, none⟩), .int .i64 3] w fun e w' => ∃ y', e = .returned (.tuple #[.pointer (some ⟨y', 0, none⟩), .int .i64 0]) ∧ Tog w0 w' [kDisk p s1, kRef r s1, kCell 61 z p 3 c1, kCell 66 y' r 3 c1, kHeap g o] := by
  have A := ropen_any h (i := 1) rfl 3 (by unfold InI; omega)
  rw [ho] at A
  refine A.mono ?_
  rintro e w' ⟨y', rfl, t⟩
  refine ⟨y', rfl, t.sub (fun i => if i = 3 then 5 else i) (fun i k hk => ?_) (fun i j hi hj e => ?_)⟩
  · rcases i with _ | _ | _ | _ | _ | i
    · exact hk
    · exact hk
    · exact hk
    · exact hk
    · exact hk
    · simp at hk
  · simp at hi hj e
    by_cases h1 : i = 3 <;> by_cases h2 : j = 3 <;> simp_all <;> omega
theorem tells_get (h : Tog w0 w [kDisk p s, kRef r s, kCell 61 z p 3 c, kCell 66 y r 3 c, kHeap g o]) {v : ByteArray} {d : Bool} (hv : bs c.val = v) (hd : decide (c.slot ≠ 0) = d) :
    Calls Tryd.prog 20 #[.pointer (some ⟨z, 0, none⟩)] w fun e w' => e = .returned (.tuple #[.string v, .bool d]) ∧ Tog w0 w' [kDisk p s, kRef r s, kCell 61 z p 3 c, kCell 66 y r 3 c, kHeap g o] := by
  have := cget_any h (j := 2) rfl
  rw [hv, hd] at this
  exact this
theorem tells_rget (h : Tog w0 w [kDisk p s, kRef r s, kCell 61 z p 3 c, kCell 66 y r 3 c, kHeap g o]) {v : ByteArray} {d : Bool} (hv : bs c.val = v) (hd : decide (c.slot ≠ 0) = d) :
    Calls Tryd.prog 21 #[.pointer (some ⟨y, 0, none⟩)] w fun e w' => e = .returned (.tuple #[.string v, .bool d]) ∧ Tog w0 w' [kDisk p s, kRef r s, kCell 61 z p 3 c, kCell 66 y r 3 c, kHeap g o] := by
  have := rcget_any h (j := 3) rfl
  rw [hv, hd] at this
  exact this
end
theorem ctells_few {w : World} (hS : Slots w) {a : Option Addr} {c : Nat} {l : List OpV} (h : OpsAt w.heap.size w a l) (hn : ¬ OFew l) :
    Calls Tryd.prog 3 #[.slice a l.length c] w fun e w' => e = .returned (.bool true) ∧ Below w.heap.size w w' := by
  have SM := Lib.hid (csmall_any w hS)
  have H := Lib.hid h
  have FD := Lib.hid (decide_eq_false hn)
  clear hn h hS
  go_enter Tryd.func3, Tryd.ntmps3
  go_wp2_with (first
    | (go_at_call 5; refine SM.out.mono ?_; rintro e w1 ⟨rfl, b1⟩; have B1 := Lib.hid b1; clear b1 SM)
    | (go_at_call 6; refine (ofew_at H.out B1.out FD.out).mono ?_; rintro e w1 ⟨rfl, rfl⟩))
  all_goals (go_ret; exact ⟨rfl, B1.out⟩)
set_option maxHeartbeats 16000000 in
theorem ctells_main {w : World} (hS : Slots w) {a : Option Addr} {c : Nat} {l : List OpV} (h : OpsAt w.heap.size w a l) (hf : OFew l) :
    Calls Tryd.prog 3 #[.slice a l.length c] w fun e w' => e = .returned (.bool true) ∧ Below w.heap.size w w' := by
  have SM := Lib.hid (csmall_any w hS)
  have H := Lib.hid h
  have HS := Lib.hid hS
  have FD := Lib.hid (decide_eq_true hf)
  have HF := Lib.hid hf
  have hlen : l.length ≤ 30 := hf.2
  have NW := Lib.hid (fun W b => tog_new (w := w) (W := W) b)
  have RN := Lib.hid (fun W p (h : Tog w W [kDisk p St.new]) => tog_rnew h)
  have OA := Lib.hid (fun W p r (hW : Tog w W [kDisk p St.new, kRef r St.new]) => show Calls Tryd.prog 9 #[.pointer (some ⟨p, 0, none⟩), .int .i64 3] W (fun e w' => ∃ z, e = .returned (.tuple #[.pointer (some ⟨z, 0, none⟩), .int .i64 0]) ∧ Tog w w' [kDisk p St.new, kRef r St.new, kCell 61 z p 3 ⟨0, [], false⟩]) from by
    have := open_any hW hS (i := 0) rfl 3 (by unfold InI; omega)
    rw [open_new 3 f3] at this
    exact this)
  have OB := Lib.hid (fun W p r z (hW : Tog w W [kDisk p St.new, kRef r St.new, kCell 61 z p 3 ⟨0, [], false⟩]) => show Calls Tryd.prog 10 #[.pointer (some ⟨r, 0, none⟩), .int .i64 3] W (fun e w' => ∃ y, e = .returned (.tuple #[.pointer (some ⟨y, 0, none⟩), .int .i64 0]) ∧ Tog w w' [kDisk p St.new, kRef r St.new, kCell 61 z p 3 ⟨0, [], false⟩, kCell 66 y r 3 ⟨0, [], false⟩]) from by
    have := ropen_any hW (i := 1) rfl 3 (by unfold InI; omega)
    rw [open_new 3 f3] at this
    exact this)
  clear h hf hS
  go_enter Tryd.func3, Tryd.ntmps3
  go_wp2_with (first
    | (go_at_call 5; refine SM.out.mono ?_; rintro e w1 ⟨rfl, b1⟩; have B1 := Lib.hid b1; clear b1 SM)
    | (go_at_call 6; refine (ofew_at H.out B1.out FD.out).mono ?_; rintro e w1 ⟨rfl, rfl⟩)
    | (go_at_call 7; refine (NW.out _ B1.out).mono ?_; rintro e w2 ⟨p, rfl, t2⟩; have T2 := Lib.hid t2; clear t2 NW)
    | (go_at_call 8; refine (RN.out _ _ T2.out).mono ?_; rintro e w3 ⟨r, rfl, t3⟩; have T3 := Lib.hid t3; clear t3 RN)
    | (go_at_call 9; refine (OA.out _ _ _ T3.out).mono ?_; rintro e w4 ⟨z, rfl, t4⟩; have T4 := Lib.hid t4; clear t4 OA)
    | (go_at_call 10; refine (OB.out _ _ _ _ T4.out).mono ?_; rintro e w5 ⟨y, rfl, t5⟩; have T5 := Lib.hid t5; clear t5 OB))
  go_loopw [7, 9, 11] (fun pv pr i wr => ∃ (j z y : Nat) (s : St) (cs : CS), j ≤ l.length ∧ pv = .pointer (some ⟨z, 0, none⟩) ∧ pr = .pointer (some ⟨y, 0, none⟩) ∧ i = .int .i64 (j : Int) ∧ Hid (Tog w wr [kDisk p s, kRef r s, kCell 61 z p 3 cs, kCell 66 y r 3 cs] ∧ ∃ no may, CellM.Good s 3 cs no may)) (fun _ _ i _ => l.length - (intOf i).toNat)
  case atStart => exact ⟨0, z, y, St.new, ⟨0, [], false⟩, Nat.zero_le _, rfl, rfl, rfl, Lib.hid ⟨T5.out, _, _, good_new.2 f3⟩⟩
  case round =>
    obtain ⟨j, z, y, s, cs, hj, rfl, rfl, rfl, HT⟩ := hrel
    clear T5 T4 T3 T2 B1
    by_cases hlt : j < l.length
    · have g0 : (0 : Int) ≤ (j : Int) := by omega
      have g1 : (j : Int) < (l.length : Int) := by omega
      have w1' : wrap64 ((j : Int) + 1) = (j : Int) + 1 := by unfold wrap64; omega
      have W1 := Lib.hid w1'
      have MEAS := Lib.hid (show l.length - (intOf (.int .i64 ((j : Int) + 1))).toNat < l.length - (intOf (.int .i64 (j : Int))).toNat by simp [intOf]; omega)
      have NX := Lib.hid (show ∀ W g o z' y' s' cs', Tog w W [kDisk p s', kRef r s', kCell 61 z' p 3 cs', kCell 66 y' r 3 cs', kHeap g o] → (∃ no may, CellM.Good s' 3 cs' no may) → ∃ (j2 z2 y2 : Nat) (s2 : St) (cs2 : CS), j2 ≤ l.length ∧ Value.pointer (some ⟨z', 0, none⟩) = .pointer (some ⟨z2, 0, none⟩) ∧ Value.pointer (some ⟨y', 0, none⟩) = .pointer (some ⟨y2, 0, none⟩) ∧ Value.int .i64 ((j : Int) + 1) = .int .i64 (j2 : Int) ∧ Hid (Tog w W [kDisk p s2, kRef r s2, kCell 61 z2 p 3 cs2, kCell 66 y2 r 3 cs2] ∧ ∃ no may, CellM.Good s2 3 cs2 no may) from fun W g o z' y' s' cs' hW hg => ⟨j + 1, z', y', s', cs', hlt, rfl, rfl, rfl, Lib.hid ⟨drop4 hW, hg⟩⟩)
      obtain ⟨A, hA⟩ : ∃ A, l[j]? = some A := ⟨_, List.getElem?_eq_getElem hlt⟩
      rcases H.out.cells with e | ⟨ob, oo, rfl, hb, hc⟩
      · rw [e] at hlt; simp at hlt
      have OK := Lib.hid (And.intro (H.out.ok A (List.mem_of_getElem? hA)) (HF.out.1 A (List.mem_of_getElem? hA)))
      obtain ⟨x0, x1, x2, x3⟩ := hc j A hA
      replace x0 := (HT.out.1.bel.cell (p := ⟨ob, _, none⟩) hb).trans x0
      replace x1 := (HT.out.1.bel.cell (p := ⟨ob, _, none⟩) hb).trans x1
      replace x2 := (HT.out.1.bel.cell (p := ⟨ob, _, none⟩) hb).trans x2
      replace x3 := (HT.out.1.bel.cell (p := ⟨ob, _, none⟩) hb).trans x3
      have KN := Lib.hid (OK.out.1.nums OK.out.2)
      have GD := Lib.hid HT.out.2
      have BL := Lib.hid (fun o => HT.out.1.block o)
      clear hc hA w1' hj hlt hlen
      by_cases d0 : A.d = 0
      · rw [d0] at x0
        obtain ⟨s1, cs1, x, e1⟩ : ∃ s1 cs1 x, setS s 3 cs A.s.data.toList = (s1, cs1, x) := ⟨_, _, _, rfl⟩
        have GG := Lib.hid (show ∃ no may, CellM.Good s1 3 cs1 no may from by
          obtain ⟨no, may, hg⟩ := GD.out
          have P := set_good hg A.s.data.toList
          rw [e1] at P
          exact post_any P)
        have SA := Lib.hid (fun W g o (hW : Tog w W [kDisk p s, kRef r s, kCell 61 z p 3 cs, kCell 66 y r 3 cs, kHeap g o]) => tells_set hW HS.out A.s e1)
        have SB := Lib.hid (fun W g o (hW : Tog w W [kDisk p s1, kRef r s, kCell 61 z p 3 cs1, kCell 66 y r 3 cs, kHeap g o]) => tells_rset hW A.s e1)
        clear e1
        obtain ⟨v, hv⟩ : ∃ v, bs cs1.val = v := ⟨_, rfl⟩
        obtain ⟨d, hd⟩ : ∃ d, decide (cs1.slot ≠ 0) = d := ⟨_, rfl⟩
        have VV := Lib.hid hv
        have DD := Lib.hid hd
        clear hv hd
        go_wp2_with fail
        have sA : (wr.alloc (.cells #[.int .i64 0, .string A.s, .int .i64 A.n, .slice A.ka A.keep.length A.kc] 38)).drew.cell? ⟨wr.heap.size, 1, none⟩ = some (.string A.s) := Lib.cell_of_heap (heap_alloc_new wr _) (j := 1)
        go_region_held3 (fun w' => w'.cell? ⟨wr.heap.size, 1, none⟩ = some (.string A.s)) (first | exact sA | exact sB | exact sC) (first
          | (go_at_call 11; refine (SA.out _ _ _ (by exact tog_drew (BL.out _))).mono ?_; rintro e w4 ⟨rfl, t4⟩; have sB := (show w4.cell? ⟨wr.heap.size, 1, none⟩ = some (.string A.s) from Lib.cell_of_heap (j := 1) (t4.heapAt (j := 4) rfl)); have T4 := Lib.hid t4; clear t4)
          | (go_at_call 12; refine (SB.out _ _ _ T4.out).mono ?_; rintro e w5 ⟨rfl, t5⟩; have sC := (show w5.cell? ⟨wr.heap.size, 1, none⟩ = some (.string A.s) from Lib.cell_of_heap (j := 1) (t5.heapAt (j := 4) rfl)); have T5 := Lib.hid t5; clear t5))
        go_wp2_with (first
          | (go_at_call 20; refine (tells_get T5.out VV.out DD.out).mono ?_; rintro e w8 ⟨rfl, t8⟩; have T8 := Lib.hid t8; clear t8)
          | (go_at_call 21; refine (tells_rget T8.out VV.out DD.out).mono ?_; rintro e w9 ⟨rfl, t9⟩; have T9 := Lib.hid t9; clear t9))
        go_roundw
        case rel => first | exact NX.out _ _ _ _ _ _ _ T9.out GG.out | (rw [W1.out]; exact NX.out _ _ _ _ _ _ _ T9.out GG.out)
        case measure => first | exact MEAS.out | (rw [W1.out]; exact MEAS.out)
      by_cases d1 : A.d = 1
      · rw [d1] at x0
        obtain ⟨v, hv⟩ : ∃ v, bs cs.val = v := ⟨_, rfl⟩
        obtain ⟨d, hd⟩ : ∃ d, decide (cs.slot ≠ 0) = d := ⟨_, rfl⟩
        have VV := Lib.hid hv
        have DD := Lib.hid hd
        clear hv hd
        go_wp2_with (first
          | (go_at_call 13; refine ((BL.out _).lose (i := 0) rfl A.n OK.out.1.n.2).mono ?_; rintro e w4 ⟨rfl, t4⟩; have T4 := Lib.hid (show Tog w w4 [kDisk p (s.lose A.n), kRef r s, kCell 61 z p 3 cs, kCell 66 y r 3 cs, kHeap _ _] from t4); have o2 := Lib.cell_of_heap (j := 2) (t4.heapAt (j := 4) rfl); clear t4)
          | (go_at_call 14; refine (T4.out.rlose (i := 1) rfl A.n OK.out.1.n.2).mono ?_; rintro e w5 ⟨rfl, t5⟩; have T5 := Lib.hid (show Tog w w5 [kDisk p (s.lose A.n), kRef r (s.lose A.n), kCell 61 z p 3 cs, kCell 66 y r 3 cs, kHeap _ _] from t5); clear t5)
          | (go_at_call 20; refine (tells_get T5.out VV.out DD.out).mono ?_; rintro e w8 ⟨rfl, t8⟩; have T8 := Lib.hid t8; clear t8)
          | (go_at_call 21; refine (tells_rget T8.out VV.out DD.out).mono ?_; rintro e w9 ⟨rfl, t9⟩; have T9 := Lib.hid t9; clear t9))
        go_roundw
        case rel => first | exact NX.out _ _ _ _ _ _ _ T9.out ⟨_, _, good_lose GD.out.choose_spec.choose_spec OK.out.1.n.2⟩ | (rw [W1.out]; exact NX.out _ _ _ _ _ _ _ T9.out ⟨_, _, good_lose GD.out.choose_spec.choose_spec OK.out.1.n.2⟩)
        case measure => first | exact MEAS.out | (rw [W1.out]; exact MEAS.out)
      by_cases d2 : A.d = 2
      · rw [d2] at x0
        obtain ⟨v, hv⟩ : ∃ v, bs cs.val = v := ⟨_, rfl⟩
        obtain ⟨d, hd⟩ : ∃ d, decide (cs.slot ≠ 0) = d := ⟨_, rfl⟩
        have VV := Lib.hid hv
        have DD := Lib.hid hd
        clear hv hd
        go_wp2_with (first
          | (go_at_call 15; refine ((BL.out _).arm (i := 0) rfl KN.out A.n OK.out.1.n.2).mono ?_; rintro e w4 ⟨rfl, t4⟩; have T4 := Lib.hid (show Tog w w4 [kDisk p (s.arm A.n A.keep), kRef r s, kCell 61 z p 3 cs, kCell 66 y r 3 cs, kHeap _ _] from t4); have o2 := Lib.cell_of_heap (j := 2) (t4.heapAt (j := 4) rfl); have o3 := Lib.cell_of_heap (j := 3) (t4.heapAt (j := 4) rfl); clear t4)
          | (go_at_call 16; refine (T4.out.rarm (i := 1) rfl KN.out A.n OK.out.1.n.2).mono ?_; rintro e w5 ⟨rfl, t5⟩; have T5 := Lib.hid (show Tog w w5 [kDisk p (s.arm A.n A.keep), kRef r (s.arm A.n A.keep), kCell 61 z p 3 cs, kCell 66 y r 3 cs, kHeap _ _] from t5); clear t5)
          | (go_at_call 20; refine (tells_get T5.out VV.out DD.out).mono ?_; rintro e w8 ⟨rfl, t8⟩; have T8 := Lib.hid t8; clear t8)
          | (go_at_call 21; refine (tells_rget T8.out VV.out DD.out).mono ?_; rintro e w9 ⟨rfl, t9⟩; have T9 := Lib.hid t9; clear t9))
        go_roundw
        case rel => first | exact NX.out _ _ _ _ _ _ _ T9.out ⟨_, _, good_arm GD.out.choose_spec.choose_spec OK.out.1.n.2 _⟩ | (rw [W1.out]; exact NX.out _ _ _ _ _ _ _ T9.out ⟨_, _, good_arm GD.out.choose_spec.choose_spec OK.out.1.n.2 _⟩)
        case measure => first | exact MEAS.out | (rw [W1.out]; exact MEAS.out)
      by_cases d3 : A.d = 3
      · rw [d3] at x0
        obtain ⟨c4, ho4, hd4, hh4⟩ := good_again GD.out.choose_spec.choose_spec A.keep
        have G4 := Lib.hid (show ∃ no may, CellM.Good (s.crash A.keep).start 3 c4 no may from by rcases hh4 with h | h; exact ⟨_, _, h.2.2⟩; exact ⟨_, _, h.2.2⟩)
        have HO := Lib.hid ho4
        clear ho4 hd4 hh4
        obtain ⟨v, hv⟩ : ∃ v, bs c4.val = v := ⟨_, rfl⟩
        obtain ⟨d, hd⟩ : ∃ d, decide (c4.slot ≠ 0) = d := ⟨_, rfl⟩
        have VV := Lib.hid hv
        have DD := Lib.hid hd
        clear hv hd
        go_wp2_with (first
          | (go_at_call 17; refine (tells_again (BL.out _) HS.out HO.out KN.out).mono ?_; rintro e w4 ⟨z4, rfl, t4⟩; have o3 := Lib.cell_of_heap (j := 3) (t4.heapAt (j := 4) rfl); have T4 := Lib.hid t4; clear t4)
          | (go_at_call 18; refine (tells_rcrash T4.out KN.out).mono ?_; rintro e w5 ⟨rfl, t5⟩; have T5 := Lib.hid t5; clear t5)
          | (go_at_call 19; refine (tells_rstart T5.out).mono ?_; rintro e w6 ⟨rfl, t6⟩; have T6 := Lib.hid t6; clear t6)
          | (go_at_call 10; refine (tells_ropen T6.out HO.out).mono ?_; rintro e w7 ⟨y7, rfl, t7⟩; have T7 := Lib.hid t7; clear t7)
          | (go_at_call 20; refine (tells_get T7.out VV.out DD.out).mono ?_; rintro e w8 ⟨rfl, t8⟩; have T8 := Lib.hid t8; clear t8)
          | (go_at_call 21; refine (tells_rget T8.out VV.out DD.out).mono ?_; rintro e w9 ⟨rfl, t9⟩; have T9 := Lib.hid t9; clear t9))
        go_roundw
        case rel => first | exact NX.out _ _ _ _ _ _ _ T9.out G4.out | (rw [W1.out]; exact NX.out _ _ _ _ _ _ _ T9.out G4.out)
        case measure => first | exact MEAS.out | (rw [W1.out]; exact MEAS.out)
      have q0 : (A.d == 0) = false := by simpa using d0
      have q1 : (A.d == 1) = false := by simpa using d1
      have q2 : (A.d == 2) = false := by simpa using d2
      have q3 : (A.d == 3) = false := by simpa using d3
      clear d0 d1 d2 d3
      obtain ⟨v, hv⟩ : ∃ v, bs cs.val = v := ⟨_, rfl⟩
      obtain ⟨d, hd⟩ : ∃ d, decide (cs.slot ≠ 0) = d := ⟨_, rfl⟩
      have VV := Lib.hid hv
      have DD := Lib.hid hd
      clear hv hd
      go_wp2_with (first
        | (go_at_call 20; refine (tells_get (BL.out _) VV.out DD.out).mono ?_; rintro e w8 ⟨rfl, t8⟩; have T8 := Lib.hid t8; clear t8)
        | (go_at_call 21; refine (tells_rget T8.out VV.out DD.out).mono ?_; rintro e w9 ⟨rfl, t9⟩; have T9 := Lib.hid t9; clear t9))
      go_roundw
      case rel => first | exact NX.out _ _ _ _ _ _ _ T9.out GD.out | (rw [W1.out]; exact NX.out _ _ _ _ _ _ _ T9.out GD.out)
      case measure => first | exact MEAS.out | (rw [W1.out]; exact MEAS.out)
    · have g1 : ¬ (j : Int) < (l.length : Int) := by omega
      clear hlt hj hlen HF FD H
      obtain ⟨sx, hsx⟩ : ∃ sx, sx = (s.crash []).start := ⟨_, rfl⟩
      obtain ⟨n, hn⟩ : ∃ n : Nat, n = sx.size 3 := ⟨_, rfl⟩
      obtain ⟨v, hv⟩ : ∃ v, v = bs (sx.read 3 0 n).1 := ⟨_, rfl⟩
      obtain ⟨x, hx⟩ : ∃ x, x = (sx.read 3 0 n).2 := ⟨_, rfl⟩
      have hni : InI (n : Int) := by
        have := (HT.out.1.inv (i := 0) rfl)
        have h2 : Inv sx := by rw [hsx]; exact inv_start (inv_crash this [])
        have := h2.cap 3
        rw [hn]; unfold InI; show _ ∧ ((sx.now 3).length : Int) ≤ _; omega
      have K0 := NumsAt.nil w
      have C1 := Lib.hid (fun W p r z y (hW : Tog w W [kDisk p s, kRef r s, kCell 61 z p 3 cs, kCell 66 y r 3 cs]) => show Calls Tryd.prog 22 #[.pointer (some ⟨p, 0, none⟩), .slice none 0 0] W (fun e w' => e = .returned (.tuple #[]) ∧ Tog w w' [kDisk p (s.crash []), kRef r s, kCell 61 z p 3 cs, kCell 66 y r 3 cs]) from hW.crash (i := 0) rfl K0)
      have C2 := Lib.hid (fun W p r z y (hW : Tog w W [kDisk p (s.crash []), kRef r s, kCell 61 z p 3 cs, kCell 66 y r 3 cs]) => show Calls Tryd.prog 23 #[.pointer (some ⟨p, 0, none⟩)] W (fun e w' => e = .returned (.tuple #[]) ∧ Tog w w' [kDisk p sx, kRef r s, kCell 61 z p 3 cs, kCell 66 y r 3 cs]) from by rw [hsx]; exact hW.start (i := 0) rfl)
      have C3 := Lib.hid (fun W p r z y (hW : Tog w W [kDisk p sx, kRef r s, kCell 61 z p 3 cs, kCell 66 y r 3 cs]) => show Calls Tryd.prog 18 #[.pointer (some ⟨r, 0, none⟩), .slice none 0 0] W (fun e w' => e = .returned (.tuple #[]) ∧ Tog w w' [kDisk p sx, kRef r (s.crash []), kCell 61 z p 3 cs, kCell 66 y r 3 cs]) from hW.rcrash (i := 1) rfl K0)
      have C4 := Lib.hid (fun W p r z y (hW : Tog w W [kDisk p sx, kRef r (s.crash []), kCell 61 z p 3 cs, kCell 66 y r 3 cs]) => show Calls Tryd.prog 19 #[.pointer (some ⟨r, 0, none⟩)] W (fun e w' => e = .returned (.tuple #[]) ∧ Tog w w' [kDisk p sx, kRef r sx, kCell 61 z p 3 cs, kCell 66 y r 3 cs]) from by have := hW.rstart (i := 1) rfl; rw [← hsx] at this; exact this)
      have C5 := Lib.hid (fun W p r z y (hW : Tog w W [kDisk p sx, kRef r sx, kCell 61 z p 3 cs, kCell 66 y r 3 cs]) => show Calls Tryd.prog 24 #[.pointer (some ⟨p, 0, none⟩), .int .i64 3] W (fun e w' => e = .returned (.int .i64 (n : Int)) ∧ W = w') from by rw [hn]; exact hW.size (i := 0) rfl 3 (by unfold InI; omega))
      have C6 := Lib.hid (fun W p r z y (hW : Tog w W [kDisk p sx, kRef r sx, kCell 61 z p 3 cs, kCell 66 y r 3 cs]) => show Calls Tryd.prog 25 #[.pointer (some ⟨p, 0, none⟩), .int .i64 3, .int .i64 0, .int .i64 (n : Int)] W (fun e w' => e = .returned (.tuple #[.string v, .int .i64 x]) ∧ W = w') from by rw [hv, hx]; exact hW.read (i := 0) rfl 3 0 n (by unfold InI; omega) (by unfold InI; omega) hni)
      have C7 := Lib.hid (fun W p r z y (hW : Tog w W [kDisk p sx, kRef r sx, kCell 61 z p 3 cs, kCell 66 y r 3 cs]) => show Calls Tryd.prog 26 #[.pointer (some ⟨r, 0, none⟩), .int .i64 3, .int .i64 0, .int .i64 (n : Int)] W (fun e w' => e = .returned (.tuple #[.string v, .int .i64 x]) ∧ Tog w w' [kDisk p sx, kRef r sx, kCell 61 z p 3 cs, kCell 66 y r 3 cs]) from by rw [hv, hx]; exact hW.rread (i := 1) rfl 3 0 n (by unfold InI; omega) hni)
      have C8 := Lib.hid (fun W p r z y (hW : Tog w W [kDisk p sx, kRef r sx, kCell 61 z p 3 cs, kCell 66 y r 3 cs]) => show Calls Tryd.prog 27 #[.pointer (some ⟨r, 0, none⟩), .int .i64 3] W (fun e w' => e = .returned (.int .i64 (n : Int)) ∧ Tog w w' [kDisk p sx, kRef r sx, kCell 61 z p 3 cs, kCell 66 y r 3 cs]) from by rw [hn]; exact hW.rsize (i := 1) rfl 3)
      clear hsx hn hv hx hni K0
      go_wp2_with (first
        | (go_at_call 22; refine (C1.out _ _ _ _ _ HT.out.1).mono ?_; rintro e w4 ⟨rfl, t4⟩; have T4 := Lib.hid t4; clear t4 C1)
        | (go_at_call 23; refine (C2.out _ _ _ _ _ T4.out).mono ?_; rintro e w5 ⟨rfl, t5⟩; have T5 := Lib.hid t5; clear t5 C2)
        | (go_at_call 18; refine (C3.out _ _ _ _ _ T5.out).mono ?_; rintro e w6 ⟨rfl, t6⟩; have T6 := Lib.hid t6; clear t6 C3)
        | (go_at_call 19; refine (C4.out _ _ _ _ _ T6.out).mono ?_; rintro e w7 ⟨rfl, t7⟩; have T7 := Lib.hid t7; clear t7 C4)
        | (go_at_call 24; refine (C5.out _ _ _ _ _ T7.out).mono ?_; rintro e w8 ⟨rfl, rfl⟩; clear C5)
        | (go_at_call 25; refine (C6.out _ _ _ _ _ T7.out).mono ?_; rintro e w9 ⟨rfl, rfl⟩; clear C6)
        | (go_at_call 26; refine (C7.out _ _ _ _ _ T7.out).mono ?_; rintro e w10 ⟨rfl, t10⟩; have T10 := Lib.hid t10; clear t10 C7)
        | (go_at_call 27; refine (C8.out _ _ _ _ _ T10.out).mono ?_; rintro e w11 ⟨rfl, t11⟩; have T11 := Lib.hid t11; clear t11 C8))
      all_goals
        go_ret
        exact ⟨by first | rfl | simp, T11.out.bel⟩
theorem ctells_any {w : World} (hS : Slots w) {a : Option Addr} {c : Nat} {l : List OpV} (h : OpsAt w.heap.size w a l) :
    Calls Tryd.prog 3 #[.slice a l.length c] w fun e w' => e = .returned (.bool true) ∧ Below w.heap.size w w' := by
  by_cases hf : OFew l
  · exact ctells_main hS h hf
  · exact ctells_few hS h hf
end Go.Proofs.YtdejajpmebgidaaDoor
