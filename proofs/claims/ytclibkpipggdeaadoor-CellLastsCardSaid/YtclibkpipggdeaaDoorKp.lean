/-
  CellLasts: the walk.
-/
import Derived.Test.YtclibkpipggdeaaDoorKo
namespace Go.Proofs.YtclibkpipggdeaaDoor
open Go.RowKit Go.Maps WireM DiskM CellM
set_option linter.unusedVariables false
set_option linter.unusedSimpArgs false
set_option maxRecDepth 100000

/-- Set, beside other things. -/
theorem set_tl {w0 w : World} {p z : Nat} {s s' : St} {c c' : CS} {r : Int} {tl : List Kd} (h : Tog w0 w (kDisk p s :: kCell 67 z p 3 c :: tl)) (hS : Slots w0) (S : ByteArray) (e1 : setS s 3 c S.data.toList = (s', c', r)) :
    Calls Tryd.prog 14 #[.pointer (some ⟨z, 0, none⟩), .string S] w fun e w' => e = .returned (.int .i64 r) ∧ Tog w0 w' (kDisk p s' :: kCell 67 z p 3 c' :: tl) := by
  have := cset_any (l := kDisk p St.new :: kDisk p St.new :: tl) (i := 0) (j := 1) (by decide) (by simp) (by simp) h hS S.data.toList
  rw [e1] at this
  exact this
theorem get_tl {w0 w : World} {p z : Nat} {s : St} {c : CS} {tl : List Kd} (h : Tog w0 w (kDisk p s :: kCell 67 z p 3 c :: tl)) {d : Bool} (hd : decide (c.slot ≠ 0) = d) :
    Calls Tryd.prog 23 #[.pointer (some ⟨z, 0, none⟩)] w fun e w' => e = .returned (.tuple #[.string (bs c.val), .bool d]) ∧ Tog w0 w' (kDisk p s :: kCell 67 z p 3 c :: tl) := by
  have := cget_any h (j := 1) rfl
  rw [hd] at this
  exact this
theorem drop3 {w0 w : World} {a b c d : Kd} (h : Tog w0 w [a, b, c, d]) : Tog w0 w [a, b, c] := by
  refine h.sub (fun i => i) (fun i k hk => ?_) (fun i j hi hj e => e)
  rcases i with _ | _ | _ | i
  · exact hk
  · exact hk
  · exact hk
  · simp at hk
theorem drop2 {w0 w : World} {a b c : Kd} (h : Tog w0 w [a, b, c]) : Tog w0 w [a, b] := by
  refine h.sub (fun i => i) (fun i k hk => ?_) (fun i j hi hj e => e)
  rcases i with _ | _ | i
  · exact hk
  · exact hk
  · simp at hk
theorem again_op {w0 w : World} {p z g : Nat} {s : St} {c c4 : CS} {v : Value} {L : List (List UInt8)} {o : Obj} (h : Tog w0 w [kDisk p s, kCell 67 z p 3 c, kStrs v L, kHeap g o]) (hS : Slots w0) {a : Option Addr} {cc : Nat} {k : List Int} (ho : openS (s.crash k).start 3 = (some c4, 0)) (K : NumsAt w0 a cc k) :
    Calls Tryd.prog 20 #[.pointer (some ⟨p, 0, none⟩), .slice a k.length cc] w fun e w' => ∃ z', e = .returned (.tuple #[.pointer (some ⟨z', 0, none⟩), .int .i64 0]) ∧ Tog w0 w' [kDisk p (s.crash k).start, kCell 67 z' p 3 c4, kStrs v L] := by
  have A := again_any h hS (i := 0) rfl K
  rw [ho] at A
  refine A.mono ?_
  rintro e w' ⟨z', rfl, t⟩
  refine ⟨z', rfl, t.sub (fun i => if i = 1 then 4 else i) (fun i k hk => ?_) (fun i j hi hj e => ?_)⟩
  · rcases i with _ | _ | _ | i
    · exact hk
    · exact hk
    · exact hk
    · simp at hk
  · simp at hi hj e
    by_cases h1 : i = 1 <;> by_cases h2 : j = 1 <;> simp_all <;> omega
theorem lasts_few {w : World} (hS : Slots w) {a a1 : Option Addr} {c c1 : Nat} {l : List OpV} (h : OpsAt w.heap.size w a l) (m1 : Nat) (hn : ¬ (OFew l ∧ m1 ≤ 100)) :
    Calls Tryd.prog 5 #[.slice a l.length c, .slice a1 m1 c1] w fun e w' => e = .returned (.bool true) ∧ Below w.heap.size w w' := by
  have SM := Lib.hid (csmall_any w hS)
  have H := Lib.hid h
  by_cases hf : OFew l
  · have FD := Lib.hid (decide_eq_true hf)
    have hn' : (100 : Int) < (m1 : Int) := by
      have : ¬ m1 ≤ 100 := fun h => hn ⟨hf, h⟩
      omega
    clear hn hf h hS
    go_enter Tryd.func5, Tryd.ntmps5
    go_wp2_with (first
      | (go_at_call 8; refine SM.out.mono ?_; rintro e w1 ⟨rfl, b1⟩; have B1 := Lib.hid b1; clear b1 SM)
      | (go_at_call 9; refine (ofew_at H.out B1.out FD.out).mono ?_; rintro e w1 ⟨rfl, rfl⟩))
    all_goals (go_ret; exact ⟨rfl, B1.out⟩)
  · have FD := Lib.hid (decide_eq_false hf)
    clear hn hf h hS
    go_enter Tryd.func5, Tryd.ntmps5
    go_wp2_with (first
      | (go_at_call 8; refine SM.out.mono ?_; rintro e w1 ⟨rfl, b1⟩; have B1 := Lib.hid b1; clear b1 SM)
      | (go_at_call 9; refine (ofew_at H.out B1.out FD.out).mono ?_; rintro e w1 ⟨rfl, rfl⟩))
    all_goals (go_ret; exact ⟨rfl, B1.out⟩)
set_option maxHeartbeats 16000000 in
theorem lasts_main {w : World} (hS : Slots w) {a a1 : Option Addr} {c c1 : Nat} {l : List OpV} (h : OpsAt w.heap.size w a l) {k1 : List Int} (K1 : NumsAt w a1 c1 k1) (hf : OFew l) (h1 : k1.length ≤ 100) :
    Calls Tryd.prog 5 #[.slice a l.length c, .slice a1 k1.length c1] w fun e w' => e = .returned (.bool true) ∧ Below w.heap.size w w' := by
  have SM := Lib.hid (csmall_any w hS)
  have H := Lib.hid h
  have HS := Lib.hid hS
  have FD := Lib.hid (decide_eq_true hf)
  have HF := Lib.hid hf
  have KK := Lib.hid K1
  have hlen : l.length ≤ 30 := hf.2
  have i3 : ¬ (100 : Int) < (k1.length : Int) := by omega
  have NW := Lib.hid (fun W (b : Below w.heap.size w W) => show Calls Tryd.prog 10 #[] W (fun e w' => ∃ p, e = .returned (.pointer (some ⟨p, 0, none⟩)) ∧ Tog w w' [kDisk p St.new]) from ((Tog.nil w).on b).new)
  have OA := Lib.hid (fun W p (hW : Tog w W [kDisk p St.new]) => show Calls Tryd.prog 12 #[.pointer (some ⟨p, 0, none⟩), .int .i64 3] W (fun e w' => ∃ z, e = .returned (.tuple #[.pointer (some ⟨z, 0, none⟩), .int .i64 0]) ∧ Tog w w' [kDisk p St.new, kCell 67 z p 3 ⟨0, [], false⟩]) from by
    have := open_any hW hS (i := 0) rfl 3 (by unfold InI; omega)
    rw [open_new 3 f3] at this
    exact this)
  clear h hf hS K1 h1
  go_enter Tryd.func5, Tryd.ntmps5
  go_wp2_with (first
    | (go_at_call 8; refine SM.out.mono ?_; rintro e w1 ⟨rfl, b1⟩; have B1 := Lib.hid b1; clear b1 SM)
    | (go_at_call 9; refine (ofew_at H.out B1.out FD.out).mono ?_; rintro e w1 ⟨rfl, rfl⟩)
    | (go_at_call 10; refine (NW.out _ B1.out).mono ?_; rintro e w2 ⟨p, rfl, t2⟩; have T2 := Lib.hid t2; clear t2 NW)
    | (go_at_call 12; refine (OA.out _ _ T2.out).mono ?_; rintro e w3 ⟨z, rfl, t3⟩; have T3 := Lib.hid t3; clear t3 OA))
  go_loopw [8, 10, 11, 12] (fun pv v nb i wr => ∃ (j z : Nat) (s : St) (cs : CS) (vv : Value) (b : Bool) (may : List (List UInt8)), j ≤ l.length + 1 ∧ pv = .pointer (some ⟨z, 0, none⟩) ∧ v = vv ∧ nb = .bool b ∧ i = .int .i64 (j : Int) ∧ Hid (Tog w wr [kDisk p s, kCell 67 z p 3 cs, kStrs vv may] ∧ CellM.Good s 3 cs (b = true) may ∧ may.length ≤ j)) (fun _ _ _ i _ => l.length + 1 - (intOf i).toNat)
  case atStart => exact ⟨0, z, St.new, ⟨0, [], false⟩, _, true, [], Nat.zero_le _, rfl, rfl, rfl, rfl, Lib.hid ⟨T3.out.nilRow, (good_new.2 f3).mono (fun _ => rfl) (fun v hv => hv), Nat.zero_le _⟩⟩
  case round =>
    obtain ⟨j, z, s, cs, vv, b, may, hj, rfl, hvv, rfl, rfl, HT⟩ := hrel
    replace hvv := hvv.symm
    subst hvv
    clear T3 T2 B1
    by_cases hle : j ≤ l.length
    · have HJ := Lib.hid (show j ≤ 31 from by omega)
      have g1 : (j : Int) ≤ (l.length : Int) := by omega
      have g0 : (0 : Int) ≤ (j : Int) := by omega
      have w1' : wrap64 ((j : Int) + 1) = (j : Int) + 1 := by unfold wrap64; omega
      have W1 := Lib.hid w1'
      have MEAS := Lib.hid (show l.length + 1 - (intOf (.int .i64 ((j : Int) + 1))).toNat < l.length + 1 - (intOf (.int .i64 (j : Int))).toNat by simp [intOf]; omega)
      have NX := Lib.hid (show ∀ W z' s' cs' v' (b' : Bool) may', Tog w W [kDisk p s', kCell 67 z' p 3 cs', kStrs v' may'] → CellM.Good s' 3 cs' (b' = true) may' → may'.length ≤ j + 1 → ∃ (j' z2 : Nat) (s2 : St) (cs2 : CS) (v2 : Value) (b2 : Bool) (may2 : List (List UInt8)), j' ≤ l.length + 1 ∧ Value.pointer (some ⟨z', 0, none⟩) = .pointer (some ⟨z2, 0, none⟩) ∧ v' = v2 ∧ Value.bool b' = .bool b2 ∧ Value.int .i64 ((j : Int) + 1) = .int .i64 (j' : Int) ∧ Hid (Tog w W [kDisk p s2, kCell 67 z2 p 3 cs2, kStrs v2 may2] ∧ CellM.Good s2 3 cs2 (b2 = true) may2 ∧ may2.length ≤ j') from fun W z' s' cs' v' b' may' hW hg hm => ⟨j + 1, z', s', cs', v', b', may', by omega, rfl, rfl, rfl, rfl, Lib.hid ⟨hW, hg, hm⟩⟩)
      by_cases hlt : j < l.length
      · obtain ⟨A, hA⟩ : ∃ A, l[j]? = some A := ⟨_, List.getElem?_eq_getElem hlt⟩
        rcases H.out.cells with e | ⟨ob, oo, rfl, hb, hc⟩
        · rw [e] at hlt; simp at hlt
        have g2 : (j : Int) < (l.length : Int) := by omega
        have OK := Lib.hid (And.intro (H.out.ok A (List.mem_of_getElem? hA)) (HF.out.1 A (List.mem_of_getElem? hA)))
        obtain ⟨x0, x1, x2, x3⟩ := hc j A hA
        replace x0 := (HT.out.1.bel.cell (p := ⟨ob, _, none⟩) hb).trans x0
        replace x1 := (HT.out.1.bel.cell (p := ⟨ob, _, none⟩) hb).trans x1
        replace x2 := (HT.out.1.bel.cell (p := ⟨ob, _, none⟩) hb).trans x2
        replace x3 := (HT.out.1.bel.cell (p := ⟨ob, _, none⟩) hb).trans x3
        have y0 : (wr.alloc (.cells #[.int .i64 3, .string ⟨#[]⟩, .int .i64 0, .slice a1 k1.length c1] 38)).cell? ⟨ob, oo + j * 4, none⟩ = some (.int .i64 A.d) := Lib.cell?_alloc_some _ x0
        have y1 : (wr.alloc (.cells #[.int .i64 3, .string ⟨#[]⟩, .int .i64 0, .slice a1 k1.length c1] 38)).cell? ⟨ob, oo + j * 4 + 1, none⟩ = some (.string A.s) := Lib.cell?_alloc_some _ x1
        have y2 : (wr.alloc (.cells #[.int .i64 3, .string ⟨#[]⟩, .int .i64 0, .slice a1 k1.length c1] 38)).cell? ⟨ob, oo + j * 4 + 2, none⟩ = some (.int .i64 A.n) := Lib.cell?_alloc_some _ x2
        have y3 : (wr.alloc (.cells #[.int .i64 3, .string ⟨#[]⟩, .int .i64 0, .slice a1 k1.length c1] 38)).cell? ⟨ob, oo + j * 4 + 3, none⟩ = some (.slice A.ka A.keep.length A.kc) := Lib.cell?_alloc_some _ x3
        clear x0 x1 x2 x3
        have hne : ob ≠ wr.heap.size := fun e => by have := HT.out.1.bel.size; omega
        have hne2 : wr.heap.size ≠ ob := fun e => hne e.symm
        have KN := Lib.hid (OK.out.1.nums OK.out.2)
        clear hc hA w1' hj hle hlt hlen
        by_cases d0 : A.d = 0
        · rw [d0] at y0
          obtain ⟨s1, cs1, r, e1⟩ : ∃ s1 cs1 r, setS s 3 cs A.s.data.toList = (s1, cs1, r) := ⟨_, _, _, rfl⟩
          have P := set_good HT.out.2.1 A.s.data.toList
          rw [e1] at P
          have SA := Lib.hid (fun W o (hW : Tog w W [kDisk p s, kCell 67 z p 3 cs, kStrs vv may, kHeap wr.heap.size o]) => set_tl hW HS.out A.s e1)
          clear e1
          by_cases hr : r = 0
          · subst hr
            have GG := Lib.hid (show CellM.Good s1 3 cs1 ((false : Bool) = true) ([] ++ [A.s.data.toList]) from (P.1 rfl).2.2.2.mono (fun h => h.elim) (fun v hv => hv))
            clear P
            go_wp2_with (first
              | (go_at_call 14; refine (SA.out _ _ (HT.out.1.block _)).mono ?_; rintro e w4 ⟨rfl, t4⟩; have o1 := Lib.cell_of_heap (j := 1) (t4.heapAt (j := 3) rfl); have T4 := Lib.hid (drop2 (drop3 t4)).nilRow; clear t4 SA)
              | (at_builtin; refine append_str rfl _ _ rfl A.s T4.out (i := 2) rfl rfl rfl (by decide) _ rfl ?_; intro v' w5 t5; have T5 := Lib.hid t5; clear t5))
            go_roundw
            case rel => first | exact NX.out _ _ _ _ _ _ _ T5.out GG.out (Nat.succ_le_succ (Nat.zero_le _)) | (rw [W1.out]; exact NX.out _ _ _ _ _ _ _ T5.out GG.out (Nat.succ_le_succ (Nat.zero_le _)))
            case measure => first | exact MEAS.out | (rw [W1.out]; exact MEAS.out)
          · have n1 : (r == 0) = false := by simpa using hr
            have GG := Lib.hid (P.2 hr)
            have ML := Lib.hid (show (may ++ [A.s.data.toList]).length ≤ j + 1 from by have := HT.out.2.2; rw [List.length_append]; simp; omega)
            have M6 := Lib.hid (show may.length ≤ 1000000 from by have := HT.out.2.2; have := HJ.out; omega)
            clear P hr
            go_wp2_with (first
              | (go_at_call 14; refine (SA.out _ _ (HT.out.1.block _)).mono ?_; rintro e w4 ⟨rfl, t4⟩; have o1 := Lib.cell_of_heap (j := 1) (t4.heapAt (j := 3) rfl); have T4 := Lib.hid (drop3 t4); clear t4 SA)
              | (at_builtin; refine append_str rfl _ _ rfl A.s T4.out (i := 2) rfl rfl rfl M6.out _ rfl ?_; intro v' w5 t5; have T5 := Lib.hid t5; clear t5))
            go_roundw
            case rel => first | exact NX.out _ _ _ _ _ _ _ T5.out GG.out ML.out | (rw [W1.out]; exact NX.out _ _ _ _ _ _ _ T5.out GG.out ML.out)
            case measure => first | exact MEAS.out | (rw [W1.out]; exact MEAS.out)
        by_cases d1 : A.d = 1
        · rw [d1] at y0
          go_wp2_with (first
            | (go_at_call 16; refine ((HT.out.1.block _).lose (i := 0) rfl A.n OK.out.1.n.2).mono ?_; rintro e w4 ⟨rfl, t4⟩; have T4 := Lib.hid (drop3 (show Tog w w4 [kDisk p (s.lose A.n), kCell 67 z p 3 cs, kStrs vv may, kHeap _ _] from t4)); clear t4))
          go_roundw
          case rel => first | exact NX.out _ _ _ _ _ _ _ T4.out (good_lose HT.out.2.1 OK.out.1.n.2) (Nat.le_succ_of_le HT.out.2.2) | (rw [W1.out]; exact NX.out _ _ _ _ _ _ _ T4.out (good_lose HT.out.2.1 OK.out.1.n.2) (Nat.le_succ_of_le HT.out.2.2))
          case measure => first | exact MEAS.out | (rw [W1.out]; exact MEAS.out)
        by_cases d2 : A.d = 2
        · rw [d2] at y0
          go_wp2_with (first
            | (go_at_call 18; refine ((HT.out.1.block _).arm (i := 0) rfl KN.out A.n OK.out.1.n.2).mono ?_; rintro e w4 ⟨rfl, t4⟩; have T4 := Lib.hid (drop3 (show Tog w w4 [kDisk p (s.arm A.n A.keep), kCell 67 z p 3 cs, kStrs vv may, kHeap _ _] from t4)); clear t4))
          go_roundw
          case rel => first | exact NX.out _ _ _ _ _ _ _ T4.out (good_arm HT.out.2.1 OK.out.1.n.2 _) (Nat.le_succ_of_le HT.out.2.2) | (rw [W1.out]; exact NX.out _ _ _ _ _ _ _ T4.out (good_arm HT.out.2.1 OK.out.1.n.2 _) (Nat.le_succ_of_le HT.out.2.2))
          case measure => first | exact MEAS.out | (rw [W1.out]; exact MEAS.out)
        by_cases d3 : A.d = 3
        · rw [d3] at y0
          obtain ⟨c4, ho4, hd4, hh4⟩ := good_again HT.out.2.1 A.keep
          have AG := Lib.hid (fun W g o (hW : Tog w W [kDisk p s, kCell 67 z p 3 cs, kStrs vv may, kHeap g o]) => again_op hW HS.out ho4 KN.out)
          clear ho4 hd4
          rcases hh4 with ⟨q1, q2, q3⟩ | ⟨q1, q2, q3⟩
          · obtain rfl : b = true := q2
            have G4 := Lib.hid (And.intro q3 q1)
            clear q1 q3
            go_wp2_with (first
              | (go_at_call 20; refine (AG.out _ _ _ (HT.out.1.block _)).mono ?_; rintro e w4 ⟨z4, rfl, t4⟩; have T4 := Lib.hid t4; clear t4 AG)
              | (go_at_call 23; refine (get_tl T4.out (decide_eq_false (fun h => h G4.out.2))).mono ?_; rintro e w5 ⟨rfl, t5⟩; have T5 := Lib.hid t5; clear t5))
            go_roundw
            case rel => first | exact NX.out _ _ _ _ _ _ _ (drop2 T5.out).nilRow (G4.out.1.mono (fun _ => rfl) (fun v hv => hv)) (Nat.zero_le _) | (rw [W1.out]; exact NX.out _ _ _ _ _ _ _ (drop2 T5.out).nilRow (G4.out.1.mono (fun _ => rfl) (fun v hv => hv)) (Nat.zero_le _))
            case measure => first | exact MEAS.out | (rw [W1.out]; exact MEAS.out)
          · have G4 := Lib.hid (And.intro q3 (And.intro q1 q2))
            have hv4 : (bs c4.val).data.toList = c4.val := rfl
            obtain ⟨S4, hS4⟩ : ∃ S4, S4 = bs c4.val := ⟨_, rfl⟩
            have HM := Lib.hid (show S4.data.toList ∈ may from by rw [hS4]; exact q2)
            have GE := Lib.hid (fun W z4 (hW : Tog w W [kDisk p (s.crash A.keep).start, kCell 67 z4 p 3 c4, kStrs vv may]) => show Calls Tryd.prog 23 #[.pointer (some ⟨z4, 0, none⟩)] W (fun e w' => e = .returned (.tuple #[.string S4, .bool true]) ∧ Tog w w' [kDisk p (s.crash A.keep).start, kCell 67 z4 p 3 c4, kStrs vv may]) from by
              have := get_tl hW (decide_eq_true G4.out.2.1)
              rw [← hS4] at this
              exact this)
            have GG := Lib.hid (show CellM.Good (s.crash A.keep).start 3 c4 ((false : Bool) = true) [S4.data.toList] from by rw [hS4]; exact q3.mono (fun h => h.elim) (fun v hv => hv))
            clear q1 q2 q3 hv4 hS4
            go_wp2_with (first
              | (go_at_call 20; refine (AG.out _ _ _ (HT.out.1.block _)).mono ?_; rintro e w4 ⟨z4, rfl, t4⟩; have T4 := Lib.hid t4; clear t4 AG)
              | (go_at_call 23; refine (GE.out _ _ T4.out).mono ?_; rintro e w5 ⟨rfl, t5⟩; have T5 := Lib.hid t5; clear t5)
              | (go_at_call 33; refine (has_any (T5.out.rowAt (j := 2) rfl) (by have := HT.out.2.2; have := HJ.out; omega) S4 HM.out).mono ?_; rintro e w6 ⟨rfl, rfl⟩))
            go_roundw
            case rel => first | exact NX.out _ _ _ _ _ _ _ ((drop2 T5.out).oneRow S4) GG.out (Nat.succ_le_succ (Nat.zero_le _)) | (rw [W1.out]; exact NX.out _ _ _ _ _ _ _ ((drop2 T5.out).oneRow S4) GG.out (Nat.succ_le_succ (Nat.zero_le _)))
            case measure => first | exact MEAS.out | (rw [W1.out]; exact MEAS.out)
        · have q0 : (A.d == 0) = false := by simpa using d0
          have q1 : (A.d == 1) = false := by simpa using d1
          have q2 : (A.d == 2) = false := by simpa using d2
          have q3 : (A.d == 3) = false := by simpa using d3
          go_wp2
          go_roundw
          case rel => first | exact NX.out _ _ _ _ _ _ _ (drop3 (HT.out.1.block _)) HT.out.2.1 (Nat.le_succ_of_le HT.out.2.2) | (rw [W1.out]; exact NX.out _ _ _ _ _ _ _ (drop3 (HT.out.1.block _)) HT.out.2.1 (Nat.le_succ_of_le HT.out.2.2))
          case measure => first | exact MEAS.out | (rw [W1.out]; exact MEAS.out)
      · have g2 : ¬ (j : Int) < (l.length : Int) := by omega
        have KN := KK
        clear w1' hj hle hlt hlen
        obtain ⟨c4, ho4, hd4, hh4⟩ := good_again HT.out.2.1 k1
        have AG := Lib.hid (fun W g o (hW : Tog w W [kDisk p s, kCell 67 z p 3 cs, kStrs vv may, kHeap g o]) => again_op hW HS.out ho4 KN.out)
        clear ho4 hd4
        rcases hh4 with ⟨q1, q2, q3⟩ | ⟨q1, q2, q3⟩
        · obtain rfl : b = true := q2
          have G4 := Lib.hid (And.intro q3 q1)
          clear q1 q3
          go_wp2_with (first
            | (go_at_call 20; refine (AG.out _ _ _ (HT.out.1.block _)).mono ?_; rintro e w4 ⟨z4, rfl, t4⟩; have T4 := Lib.hid t4; clear t4 AG)
            | (go_at_call 23; refine (get_tl T4.out (decide_eq_false (fun h => h G4.out.2))).mono ?_; rintro e w5 ⟨rfl, t5⟩; have T5 := Lib.hid t5; clear t5))
          go_roundw
          case rel => first | exact NX.out _ _ _ _ _ _ _ (drop2 T5.out).nilRow (G4.out.1.mono (fun _ => rfl) (fun v hv => hv)) (Nat.zero_le _) | (rw [W1.out]; exact NX.out _ _ _ _ _ _ _ (drop2 T5.out).nilRow (G4.out.1.mono (fun _ => rfl) (fun v hv => hv)) (Nat.zero_le _))
          case measure => first | exact MEAS.out | (rw [W1.out]; exact MEAS.out)
        · have G4 := Lib.hid (And.intro q3 (And.intro q1 q2))
          have hv4 : (bs c4.val).data.toList = c4.val := rfl
          obtain ⟨S4, hS4⟩ : ∃ S4, S4 = bs c4.val := ⟨_, rfl⟩
          have HM := Lib.hid (show S4.data.toList ∈ may from by rw [hS4]; exact q2)
          have GE := Lib.hid (fun W z4 (hW : Tog w W [kDisk p (s.crash k1).start, kCell 67 z4 p 3 c4, kStrs vv may]) => show Calls Tryd.prog 23 #[.pointer (some ⟨z4, 0, none⟩)] W (fun e w' => e = .returned (.tuple #[.string S4, .bool true]) ∧ Tog w w' [kDisk p (s.crash k1).start, kCell 67 z4 p 3 c4, kStrs vv may]) from by
            have := get_tl hW (decide_eq_true G4.out.2.1)
            rw [← hS4] at this
            exact this)
          have GG := Lib.hid (show CellM.Good (s.crash k1).start 3 c4 ((false : Bool) = true) [S4.data.toList] from by rw [hS4]; exact q3.mono (fun h => h.elim) (fun v hv => hv))
          clear q1 q2 q3 hv4 hS4
          go_wp2_with (first
            | (go_at_call 20; refine (AG.out _ _ _ (HT.out.1.block _)).mono ?_; rintro e w4 ⟨z4, rfl, t4⟩; have T4 := Lib.hid t4; clear t4 AG)
            | (go_at_call 23; refine (GE.out _ _ T4.out).mono ?_; rintro e w5 ⟨rfl, t5⟩; have T5 := Lib.hid t5; clear t5)
            | (go_at_call 33; refine (has_any (T5.out.rowAt (j := 2) rfl) (by have := HT.out.2.2; have := HJ.out; omega) S4 HM.out).mono ?_; rintro e w6 ⟨rfl, rfl⟩))
          go_roundw
          case rel => first | exact NX.out _ _ _ _ _ _ _ ((drop2 T5.out).oneRow S4) GG.out (Nat.succ_le_succ (Nat.zero_le _)) | (rw [W1.out]; exact NX.out _ _ _ _ _ _ _ ((drop2 T5.out).oneRow S4) GG.out (Nat.succ_le_succ (Nat.zero_le _)))
          case measure => first | exact MEAS.out | (rw [W1.out]; exact MEAS.out)
    · have g1 : ¬ (j : Int) ≤ (l.length : Int) := by omega
      clear hle hj hlen
      go_wp2
      go_ret
      exact ⟨rfl, HT.out.1.bel⟩
theorem lasts_any {w : World} (hS : Slots w) {a a1 : Option Addr} {c c1 : Nat} {l : List OpV} (h : OpsAt w.heap.size w a l) {k1 : List Int} (src1 : SrcAt w (.slice a1 k1.length c1) k1.length (intCells k1)) (low1 : k1 ≠ [] → ∀ b, (Value.slice a1 k1.length c1).ownBlock = some b → b < w.heap.size) :
    Calls Tryd.prog 5 #[.slice a l.length c, .slice a1 k1.length c1] w fun e w' => e = .returned (.bool true) ∧ Below w.heap.size w w' := by
  by_cases hg : OFew l ∧ k1.length ≤ 100
  · exact lasts_main hS h ⟨src1, low1, by have := hg.2; omega⟩ hg.1 hg.2
  · exact lasts_few hS h k1.length hg
end Go.Proofs.YtclibkpipggdeaaDoor
