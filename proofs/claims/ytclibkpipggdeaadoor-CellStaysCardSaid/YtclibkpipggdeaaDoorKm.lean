/-
  CellStays: the walk.
-/
import Derived.Test.YtclibkpipggdeaaDoorKl
namespace Go.Proofs.YtclibkpipggdeaaDoor
open Go.RowKit Go.Maps WireM DiskM CellM
set_option linter.unusedVariables false
set_option linter.unusedSimpArgs false
set_option maxRecDepth 100000

theorem stays_few {w : World} (hS : Slots w) {a a1 a2 : Option Addr} {c c1 c2 : Nat} {l : List OpV} (h : OpsAt w.heap.size w a l) (S : ByteArray) (m1 m2 : Nat) (hn : ¬ (OFew l ∧ S.size ≤ 400 ∧ m1 ≤ 100 ∧ m2 ≤ 100)) :
    Calls Tryd.prog 6 #[.slice a l.length c, .string S, .slice a1 m1 c1, .slice a2 m2 c2] w fun e w' => e = .returned (.bool true) ∧ Below w.heap.size w w' := by
  have SM := Lib.hid (csmall_any w hS)
  have H := Lib.hid h
  by_cases hf : OFew l
  · have FD := Lib.hid (decide_eq_true hf)
    have hn' : ¬ ((S.size : Int) ≤ 400 ∧ (m1 : Int) ≤ 100 ∧ (m2 : Int) ≤ 100) := fun h => hn ⟨hf, by omega, by omega, by omega⟩
    clear hn hf h hS
    go_enter Tryd.func6, Tryd.ntmps6
    go_wp2_with (first
      | (go_at_call 8; refine SM.out.mono ?_; rintro e w1 ⟨rfl, b1⟩; have B1 := Lib.hid b1; clear b1 SM)
      | (go_at_call 9; refine (ofew_at H.out B1.out FD.out).mono ?_; rintro e w1 ⟨rfl, rfl⟩)
      | (exfalso; omega))
    all_goals first
      | (go_ret; exact ⟨rfl, B1.out⟩)
      | (exfalso; omega)
  · have FD := Lib.hid (decide_eq_false hf)
    clear hn hf h hS
    go_enter Tryd.func6, Tryd.ntmps6
    go_wp2_with (first
      | (go_at_call 8; refine SM.out.mono ?_; rintro e w1 ⟨rfl, b1⟩; have B1 := Lib.hid b1; clear b1 SM)
      | (go_at_call 9; refine (ofew_at H.out B1.out FD.out).mono ?_; rintro e w1 ⟨rfl, rfl⟩))
    all_goals (go_ret; exact ⟨rfl, B1.out⟩)
set_option maxHeartbeats 16000000 in
theorem stays_main {w : World} (hS : Slots w) {a a1 a2 : Option Addr} {c c1 c2 : Nat} {l : List OpV} (h : OpsAt w.heap.size w a l) (S : ByteArray) {k1 k2 : List Int} (K1 : NumsAt w a1 c1 k1) (K2 : NumsAt w a2 c2 k2) (hf : OFew l) (hs : S.size ≤ 400) (h1 : k1.length ≤ 100) (h2 : k2.length ≤ 100) :
    Calls Tryd.prog 6 #[.slice a l.length c, .string S, .slice a1 k1.length c1, .slice a2 k2.length c2] w fun e w' => e = .returned (.bool true) ∧ Below w.heap.size w w' := by
  have SM := Lib.hid (csmall_any w hS)
  have H := Lib.hid h
  have HS := Lib.hid hS
  have FD := Lib.hid (decide_eq_true hf)
  have HF := Lib.hid hf
  have KK := Lib.hid (And.intro K1 K2)
  have hlen : l.length ≤ 30 := hf.2
  have i2 : ¬ (400 : Int) < (S.size : Int) := by omega
  have i3 : ¬ (100 : Int) < (k1.length : Int) := by omega
  have i4 : ¬ (100 : Int) < (k2.length : Int) := by omega
  have NW := Lib.hid (fun W (b : Below w.heap.size w W) => show Calls Tryd.prog 10 #[] W (fun e w' => ∃ p, e = .returned (.pointer (some ⟨p, 0, none⟩)) ∧ Tog w w' [kDisk p St.new]) from ((Tog.nil w).on b).new)
  have OA := Lib.hid (fun W p (hW : Tog w W [kDisk p St.new]) => show Calls Tryd.prog 12 #[.pointer (some ⟨p, 0, none⟩), .int .i64 3] W (fun e w' => ∃ z, e = .returned (.tuple #[.pointer (some ⟨z, 0, none⟩), .int .i64 0]) ∧ Tog w w' [kDisk p St.new, kCell 67 z p 3 ⟨0, [], false⟩]) from by
    have := open_any hW hS (i := 0) rfl 3 (by unfold InI; omega)
    rw [open_new 3 f3] at this
    exact this)
  clear h hf hS K1 K2 hs h1 h2
  go_enter Tryd.func6, Tryd.ntmps6
  go_wp2_with (first
    | (go_at_call 8; refine SM.out.mono ?_; rintro e w1 ⟨rfl, b1⟩; have B1 := Lib.hid b1; clear b1 SM)
    | (go_at_call 9; refine (ofew_at H.out B1.out FD.out).mono ?_; rintro e w1 ⟨rfl, rfl⟩)
    | (go_at_call 10; refine (NW.out _ B1.out).mono ?_; rintro e w2 ⟨p, rfl, t2⟩; have T2 := Lib.hid t2; clear t2 NW)
    | (go_at_call 12; refine (OA.out _ _ T2.out).mono ?_; rintro e w3 ⟨z, rfl, t3⟩; have T3 := Lib.hid t3; clear t3 OA))
  go_loopw [12, 14] (fun pv i wr => ∃ (j z : Nat) (s : St) (cs : CS) (no : Prop) (may : List (List UInt8)), j ≤ l.length ∧ pv = .pointer (some ⟨z, 0, none⟩) ∧ i = .int .i64 (j : Int) ∧ Hid (Tog w wr [kDisk p s, kCell 67 z p 3 cs] ∧ CellM.Good s 3 cs no may)) (fun _ i _ => l.length - (intOf i).toNat)
  case atStart => exact ⟨0, z, St.new, ⟨0, [], false⟩, True, [], Nat.zero_le _, rfl, rfl, Lib.hid ⟨T3.out, good_new.2 f3⟩⟩
  case round =>
    obtain ⟨j, z, s, cs, no, may, hj, rfl, rfl, HT⟩ := hrel
    clear T3 T2 B1
    by_cases hlt : j < l.length
    · obtain ⟨A, hA⟩ : ∃ A, l[j]? = some A := ⟨_, List.getElem?_eq_getElem hlt⟩
      rcases H.out.cells with e | ⟨b, o, rfl, hb, hc⟩
      · rw [e] at hlt; simp at hlt
      obtain ⟨x0, x1, x2, x3⟩ := hc j A hA
      replace x0 := (HT.out.1.bel.cell (p := ⟨b, _, none⟩) hb).trans x0
      replace x1 := (HT.out.1.bel.cell (p := ⟨b, _, none⟩) hb).trans x1
      replace x2 := (HT.out.1.bel.cell (p := ⟨b, _, none⟩) hb).trans x2
      replace x3 := (HT.out.1.bel.cell (p := ⟨b, _, none⟩) hb).trans x3
      have OK := Lib.hid (And.intro (H.out.ok A (List.mem_of_getElem? hA)) (HF.out.1 A (List.mem_of_getElem? hA)))
      have g0 : (0 : Int) ≤ (j : Int) := by omega
      have g1 : (j : Int) < (l.length : Int) := by omega
      have w1' : wrap64 ((j : Int) + 1) = (j : Int) + 1 := by unfold wrap64; omega
      have W1 := Lib.hid w1'
      have MEAS := Lib.hid (show l.length - (intOf (.int .i64 ((j : Int) + 1))).toNat < l.length - (intOf (.int .i64 (j : Int))).toNat by simp [intOf]; omega)
      have NX := Lib.hid (show ∀ W z' s' cs', Tog w W [kDisk p s', kCell 67 z' p 3 cs'] → (∃ no' may', CellM.Good s' 3 cs' no' may') → ∃ (j' z2 : Nat) (s2 : St) (cs2 : CS) (no2 : Prop) (may2 : List (List UInt8)), j' ≤ l.length ∧ Value.pointer (some ⟨z', 0, none⟩) = .pointer (some ⟨z2, 0, none⟩) ∧ Value.int .i64 ((j : Int) + 1) = .int .i64 (j' : Int) ∧ Hid (Tog w W [kDisk p s2, kCell 67 z2 p 3 cs2] ∧ CellM.Good s2 3 cs2 no2 may2) from fun W z' s' cs' hW ⟨no', may', hg⟩ => ⟨j + 1, z', s', cs', no', may', hlt, rfl, rfl, Lib.hid ⟨hW, hg⟩⟩)
      clear hc hA w1' hj hlt hlen
      by_cases d0 : A.d = 0
      · rw [d0] at x0
        go_wp2_with (first
          | (go_at_call 14; refine (set_gd HT.out.1 HS.out HT.out.2 A.s).mono ?_; rintro e w4 ⟨s1, cs1, r, rfl, t4, g4⟩; have T4 := Lib.hid (And.intro t4 (post_any g4)); clear t4 g4))
        go_roundw
        case rel => first | exact NX.out _ _ _ _ T4.out.1 T4.out.2 | (rw [W1.out]; exact NX.out _ _ _ _ T4.out.1 T4.out.2)
        case measure => first | exact MEAS.out | (rw [W1.out]; exact MEAS.out)
      by_cases d1 : A.d = 1
      · rw [d1] at x0
        go_wp2_with (first
          | (go_at_call 16; refine (HT.out.1.lose (i := 0) rfl A.n OK.out.1.n.2).mono ?_; rintro e w4 ⟨rfl, t4⟩; have T4 := Lib.hid (And.intro (show Tog w w4 [kDisk p (s.lose A.n), kCell 67 z p 3 cs] from t4) (good_lose HT.out.2 OK.out.1.n.2)); clear t4))
        go_roundw
        case rel => first | exact NX.out _ _ _ _ T4.out.1 ⟨_, _, T4.out.2⟩ | (rw [W1.out]; exact NX.out _ _ _ _ T4.out.1 ⟨_, _, T4.out.2⟩)
        case measure => first | exact MEAS.out | (rw [W1.out]; exact MEAS.out)
      by_cases d3 : A.d = 3
      · rw [d3] at x0
        go_wp2_with (first
          | (go_at_call 20; refine (again_gd HT.out.1 HS.out HT.out.2 (OK.out.1.nums OK.out.2)).mono ?_; rintro e w4 ⟨z4, s4, cs4, rfl, t4, g4⟩; have T4 := Lib.hid (And.intro t4 (show ∃ no' may', CellM.Good s4 3 cs4 no' may' from by rcases g4 with g | g; exact ⟨_, _, g.2.2⟩; exact ⟨_, _, g.2.2⟩)); clear t4 g4))
        go_roundw
        case rel => first | exact NX.out _ _ _ _ T4.out.1 T4.out.2 | (rw [W1.out]; exact NX.out _ _ _ _ T4.out.1 T4.out.2)
        case measure => first | exact MEAS.out | (rw [W1.out]; exact MEAS.out)
      · have q0 : (A.d == 0) = false := by simpa using d0
        have q1 : (A.d == 1) = false := by simpa using d1
        have q3 : (A.d == 3) = false := by simpa using d3
        go_wp2
        go_roundw
        case rel => first | exact NX.out _ _ _ _ HT.out.1 ⟨_, _, HT.out.2⟩ | (rw [W1.out]; exact NX.out _ _ _ _ HT.out.1 ⟨_, _, HT.out.2⟩)
        case measure => first | exact MEAS.out | (rw [W1.out]; exact MEAS.out)
    · have g1 : ¬ (j : Int) < (l.length : Int) := by omega
      obtain ⟨s1, cs1, r, e1⟩ : ∃ s1 cs1 r, setS s 3 cs S.data.toList = (s1, cs1, r) := ⟨_, _, _, rfl⟩
      have P := set_good HT.out.2 S.data.toList
      rw [e1] at P
      have SA := Lib.hid (set_at HT.out.1 HS.out S e1)
      clear hlt hj hlen e1
      by_cases hr : r = 0
      · subst hr
        obtain ⟨_, p2, p3, p4⟩ := P.1 rfl
        have GD := Lib.hid (And.intro p4 (And.intro p2 p3))
        obtain ⟨n, hn⟩ : ∃ n : Nat, (65537 : Int) = (n : Int) := ⟨65537, rfl⟩
        have SL := Lib.hid (fun W (hW : Tog w W [kDisk p s1, kCell 67 z p 3 cs1]) => set_at (r := 6) (s' := s1) (c' := cs1) hW HS.out (bs (List.replicate n 0)) (by
          have : ¬ (List.replicate n (0 : UInt8)).length ≤ 65536 := by rw [List.length_replicate]; omega
          unfold setS
          rw [if_pos (show 65536 < (bs (List.replicate n 0)).data.toList.length from by
            show 65536 < (List.replicate n (0 : UInt8)).length
            rw [List.length_replicate]; omega)]))
        have hn2 : n ≤ 1000000000 := by omega
        have HN := Lib.hid (And.intro hn hn2)
        clear P p2 p3 p4 hn hn2
        go_wp2_with (first
          | (go_at_call 14; refine SA.out.mono ?_; rintro e w4 ⟨rfl, t4⟩; have T4 := Lib.hid t4; clear t4 SA)
          | (at_make; refine wpList_zeros _ rfl _ _ rfl n 65537 rfl rfl HN.out.1 HN.out.2 ?_; intro g w5 R5 b5; have T5 := Lib.hid (T4.out.on b5); clear b5)
          | (go_at_call 14; refine (SL.out _ T5.out).mono ?_; rintro e w6 ⟨rfl, t6⟩; have T6 := Lib.hid t6; clear t6 SL))
        rename World => wb
        clear HN HT H HF FD
        go_loopw [12, 16] (fun pv i wr => ∃ (j z : Nat) (s : St) (cs : CS), j ≤ 2 ∧ pv = .pointer (some ⟨z, 0, none⟩) ∧ i = .int .i64 (j : Int) ∧ Hid (Tog w wr [kDisk p s, kCell 67 z p 3 cs] ∧ CellM.Good s 3 cs False [S.data.toList] ∧ cs.slot ≠ 0 ∧ cs.val = S.data.toList)) (fun _ i _ => 2 - (intOf i).toNat)
        case atStart => exact ⟨0, z, s1, cs1, by omega, rfl, rfl, Lib.hid ⟨T6.out, GD.out⟩⟩
        case round =>
          obtain ⟨j, z3, s3, cs3, hj, rfl, rfl, HT2⟩ := hrel
          clear T4 T5 T6 GD
          have GT := Lib.hid (fun W (hW : Tog w W [kDisk p s3, kCell 67 z3 p 3 cs3]) => get_gd hW (S := S) (d := true) (by rw [HT2.out.2.2.2]; rfl) (decide_eq_true HT2.out.2.2.1))
          by_cases hlt : j < 2
          · have g1 : (j : Int) < 2 := by omega
            have w1' : wrap64 ((j : Int) + 1) = (j : Int) + 1 := by unfold wrap64; omega
            have W1 := Lib.hid w1'
            have MEAS := Lib.hid (show 2 - (intOf (.int .i64 ((j : Int) + 1))).toNat < 2 - (intOf (.int .i64 (j : Int))).toNat by simp [intOf]; omega)
            have NX := Lib.hid (show ∀ W z' s' cs', Tog w W [kDisk p s', kCell 67 z' p 3 cs'] → ((cs'.slot = 0 ∧ False ∧ CellM.Good s' 3 cs' False []) ∨ (cs'.slot ≠ 0 ∧ cs'.val ∈ [S.data.toList] ∧ CellM.Good s' 3 cs' False [cs'.val])) → ∃ (j' z2 : Nat) (s2 : St) (cs2 : CS), j' ≤ 2 ∧ Value.pointer (some ⟨z', 0, none⟩) = .pointer (some ⟨z2, 0, none⟩) ∧ Value.int .i64 ((j : Int) + 1) = .int .i64 (j' : Int) ∧ Hid (Tog w W [kDisk p s2, kCell 67 z2 p 3 cs2] ∧ CellM.Good s2 3 cs2 False [S.data.toList] ∧ cs2.slot ≠ 0 ∧ cs2.val = S.data.toList) from fun W z' s' cs' hW hg => by
              rcases hg with hg | ⟨q1, q2, q3⟩
              · exact hg.2.1.elim
              · have q4 : cs'.val = S.data.toList := by simpa using q2
                rw [q4] at q3
                exact ⟨j + 1, z', s', cs', hlt, rfl, rfl, Lib.hid ⟨hW, q3, q1, q4⟩⟩)
            by_cases e1 : j = 1
            · have q1 : ((j : Int) == 1) = true := by rw [beq_iff_eq]; omega
              clear w1' hj hlt e1
              go_wp2_with (first
                | (go_at_call 23; refine (GT.out _ HT2.out.1).mono ?_; rintro e w7 ⟨rfl, t7⟩; have T7 := Lib.hid t7; clear t7 GT)
                | (go_at_call 20; refine (again_gd T7.out HS.out HT2.out.2.1 KK.out.2).mono ?_; rintro e w8 ⟨z8, s8, cs8, rfl, t8, g8⟩; have T8 := Lib.hid (And.intro t8 g8); clear t8 g8))
              go_roundw
              case rel => first | exact NX.out _ _ _ _ T8.out.1 T8.out.2 | (rw [W1.out]; exact NX.out _ _ _ _ T8.out.1 T8.out.2)
              case measure => first | exact MEAS.out | (rw [W1.out]; exact MEAS.out)
            · have q1 : ((j : Int) == 1) = false := by rw [beq_eq_false_iff_ne]; omega
              clear w1' hj hlt e1
              go_wp2_with (first
                | (go_at_call 23; refine (GT.out _ HT2.out.1).mono ?_; rintro e w7 ⟨rfl, t7⟩; have T7 := Lib.hid t7; clear t7 GT)
                | (go_at_call 20; refine (again_gd T7.out HS.out HT2.out.2.1 KK.out.1).mono ?_; rintro e w8 ⟨z8, s8, cs8, rfl, t8, g8⟩; have T8 := Lib.hid (And.intro t8 g8); clear t8 g8))
              go_roundw
              case rel => first | exact NX.out _ _ _ _ T8.out.1 T8.out.2 | (rw [W1.out]; exact NX.out _ _ _ _ T8.out.1 T8.out.2)
              case measure => first | exact MEAS.out | (rw [W1.out]; exact MEAS.out)
          · have g1 : ¬ (j : Int) < 2 := by omega
            clear hlt hj
            go_wp2_with (first
              | (go_at_call 23; refine (GT.out _ HT2.out.1).mono ?_; rintro e w7 ⟨rfl, t7⟩; have T7 := Lib.hid t7; clear t7 GT))
            go_ret
            exact ⟨by first | rfl | simp, T7.out.bel⟩
      · have n1 : (r != 0) = true := by simpa using hr
        clear P hr
        go_wp2_with (first
          | (go_at_call 14; refine SA.out.mono ?_; rintro e w4 ⟨rfl, t4⟩; have T4 := Lib.hid t4; clear t4 SA))
        go_ret
        exact ⟨rfl, T4.out.bel⟩
theorem stays_any {w : World} (hS : Slots w) {a a1 a2 : Option Addr} {c c1 c2 : Nat} {l : List OpV} (h : OpsAt w.heap.size w a l) (S : ByteArray) {k1 k2 : List Int} (src1 : SrcAt w (.slice a1 k1.length c1) k1.length (intCells k1)) (low1 : k1 ≠ [] → ∀ b, (Value.slice a1 k1.length c1).ownBlock = some b → b < w.heap.size) (src2 : SrcAt w (.slice a2 k2.length c2) k2.length (intCells k2)) (low2 : k2 ≠ [] → ∀ b, (Value.slice a2 k2.length c2).ownBlock = some b → b < w.heap.size) :
    Calls Tryd.prog 6 #[.slice a l.length c, .string S, .slice a1 k1.length c1, .slice a2 k2.length c2] w fun e w' => e = .returned (.bool true) ∧ Below w.heap.size w w' := by
  by_cases hg : OFew l ∧ S.size ≤ 400 ∧ k1.length ≤ 100 ∧ k2.length ≤ 100
  · obtain ⟨g1, g2, g3, g4⟩ := hg
    exact stays_main hS h S ⟨src1, low1, by omega⟩ ⟨src2, low2, by omega⟩ g1 g2 g3 g4
  · exact stays_few hS h S k1.length k2.length hg
end Go.Proofs.YtclibkpipggdeaaDoor
