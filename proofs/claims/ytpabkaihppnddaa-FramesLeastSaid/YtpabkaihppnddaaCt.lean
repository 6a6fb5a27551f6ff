/-
  FramesLeast: the walk.
-/
import Derived.Test.YtpabkaihppnddaaCs
namespace Go.Proofs.Ytpabkaihppnddaa
open Go.RowKit
set_option linter.unusedVariables false
set_option linter.unusedSimpArgs false
set_option maxRecDepth 100000
def scS : ByteArray := ⟨#[115, 111, 109, 101, 32, 99, 111, 110, 116, 101, 110, 116, 115]⟩
theorem marks_first {N : Nat} {L : Fm} (h : First N N L) : bitCells (marks L) = List.replicate N (.bool false) := by
  apply List.ext_getElem?
  intro k
  rw [List.getElem?_replicate]
  by_cases hk : k < N
  · obtain ⟨q, hq⟩ := (h.2 k hk).1 hk
    rw [if_pos hk, bits_at (marks_at hq)]; rfl
  · rw [if_neg hk]
    apply List.getElem?_eq_none
    simp [bitCells, marks, h.1]; omega
def kMk (g N : Nat) (F : List Bool) : Kd := kRow 4 1 (.slice (some ⟨g, 0, none⟩) N N) N (bitCells F)
section
variable {w0 w : World} {S : Nat → Prop} {l : List Kd}
theorem least1 {N i p : Nat} {L : Fm} (T : Tog w0 S w [kFr p L]) (h : First N i L) (hi : i < N) (hN : N ≤ 60) : Calls Try.prog 25 #[.pointer (some ⟨p, 0, none⟩)] w fun e w' => e = .returned (.tuple #[.int .i64 (i : Int), .bool true]) ∧ Calls Try.prog 26 #[.pointer (some ⟨p, 0, none⟩), .int .i64 (i : Int), .string ⟨#[115, 111, 109, 101, 32, 99, 111, 110, 116, 101, 110, 116, 115]⟩] w' fun e w'' => e = .returned (.int .i64 0) ∧ ∃ L', First N (i + 1) L' ∧ Tog w0 S w'' [kFr p L'] := by
  obtain ⟨e1, e2, e3⟩ := first_step h hi scS
  have C := T.xalloc (i := 0) rfl
  rw [e1] at C
  refine C.mono ?_
  rintro e w' ⟨rfl, T2⟩
  refine ⟨rfl, ?_⟩
  have T2' : Tog w0 S w' [kFr p (L.set i (some zpage))] := T2
  have D := T2'.xfill (i := 0) rfl (i : Int) scS (by unfold InI; omega)
  rw [e2] at D
  refine D.mono ?_
  rintro e w'' ⟨rfl, T3⟩
  exact ⟨rfl, _, e3, T3⟩
end
set_option maxHeartbeats 4000000 in
theorem least_any {a : Option Addr} {c : Nat} {AL : List Int} (w : World) (h : RowsAt intCells1 InI 1 w.heap.size w a AL) (n : Int) (hn : InI n) :
    Calls Try.prog 5 #[.int .i64 n, .slice a AL.length c] w fun e w' => e = .returned (.bool true) ∧ Below w.heap.size w w' := by
  have SM := Lib.hid (small_any w)
  have hlm := h.len
  have hlm2 : AL.length ≤ 9223372036854775807 := by unfold maxLen at hlm; omega
  by_cases hr : (0 ≤ n ∧ n ≤ 60) ∧ AL.length ≤ 60
  · obtain ⟨⟨r1, r2⟩, hl60⟩ := hr
    obtain ⟨N, rfl⟩ : ∃ N : Nat, n = N := ⟨n.toNat, by omega⟩
    have hN60 : N ≤ 60 := by omega
    have gl : ¬ (60 : Int) < (AL.length : Int) := by omega
    have CE := Lib.hid (fun (wr : World) (hw : Below w.heap.size w wr) i A (hA : AL[i]? = some A) => h.one hw hA)
    have OK := Lib.hid h.ok
    have NEW := Lib.hid (fun (w1 : World) (b : Below w.heap.size w w1) => ((Tog.nil w (fun _ => False)).on b).xnew N hn)
    have k1 : ∀ W : World, (Instr.makeSlice 53 (.int .i64 (N : Int)) (.int .i64 (N : Int))).run Try.prog W = .ok (.slice (some ⟨W.heap.size, 0, none⟩) N N) (W.alloc (.cells (madeCells #[.bool false] N) 4)) := fun W => by
      have := elBool.make N (by unfold maxLen; omega) (by omega) W
      rw [Nat.mul_one] at this
      exact this
    clear h hlm hlm2
    go_enter Try.func5, Try.ntmps5
    go_wp2_with (first
      | (go_at_call 7; refine SM.out.mono ?_; rintro e w1 ⟨rfl, t⟩; have N1 := Lib.hid (NEW.out w1 t); clear t SM NEW)
      | (go_at_call 9; refine N1.out.mono ?_; rintro e w2 ⟨p, rfl, t⟩; have T0 := Lib.hid (show Tog w (fun _ => False) w2 [kFr p (Fm.new N)] from t); clear t N1))
    go_loopw [7] (fun i wr => ∃ (j : Nat) (L : Fm), j ≤ N ∧ i = .int .i64 (j : Int) ∧ Hid (First N j L ∧ Tog w (fun _ => False) wr [kFr p L])) (fun i _ => N - (intOf i).toNat)
    case atStart => exact ⟨0, _, Nat.zero_le _, rfl, Lib.hid ⟨first_new N hN60, T0.out⟩⟩
    case round =>
      obtain ⟨j, L, hj, rfl, HT⟩ := hrel
      clear T0
      obtain ⟨hF, T⟩ := HT.out
      by_cases hlt : j < N
      · have g1 : (j : Int) < (N : Int) := by omega
        have w1' : wrap64 ((j : Int) + 1) = (j : Int) + 1 := by unfold wrap64; omega
        have W1 := Lib.hid w1'
        have MEAS := Lib.hid (show N - (intOf (.int .i64 ((j : Int) + 1))).toNat < N - (intOf (.int .i64 (j : Int))).toNat by simp [intOf]; omega)
        have C1 := Lib.hid (least1 T hF hlt hN60)
        have NX := Lib.hid (show ∀ wz (L' : Fm), First N (j + 1) L' → Tog w (fun _ => False) wz [kFr p L'] → ∃ (j' : Nat) (L : Fm), j' ≤ N ∧ Value.int .i64 ((j : Int) + 1) = .int .i64 (j' : Int) ∧ Hid (First N j' L ∧ Tog w (fun _ => False) wz [kFr p L]) from fun wz L' h1 h2 => ⟨j + 1, L', hlt, rfl, Lib.hid ⟨h1, h2⟩⟩)
        clear hF T HT hlt hj w1' CE OK k1
        go_wp2_with (first
          | (go_at_call 25; refine C1.out.mono ?_; rintro e w3 ⟨rfl, D⟩; have C2 := Lib.hid D; clear D C1)
          | (go_at_call 26; refine C2.out.mono ?_; rintro e w4 ⟨rfl, L', hF', T'⟩; have FN := Lib.hid (NX.out w4 L' hF' T'); clear hF' T' C2 NX))
        go_roundw
        case rel => first | exact FN.out | (rw [W1.out]; exact FN.out)
        case measure => first | exact MEAS.out | (rw [W1.out]; exact MEAS.out)
      · obtain rfl : j = N := by omega
        have g1 : ¬ (j : Int) < (j : Int) := by omega
        have TM : Tog w (fun _ => False) (wr.alloc (.cells (madeCells #[.bool false] j) 4)) [kFr p L, kMk wr.heap.size j (marks L)] := by
          have t1 := T.made 4 1 j (madeCells #[.bool false] j) (by rw [size_madeCells]; omega) (by unfold maxLen; omega)
          rw [made_same _ (.bool false) _ (by decide) (fun k hk => by obtain rfl : k = 0 := by simpa using hk
                                                                      rfl)] at t1
          unfold kMk
          rw [marks_first hF]
          exact t1
        have T1 := Lib.hid (And.intro hF.1 TM)
        obtain ⟨gb, hgb⟩ : ∃ gb, gb = wr.heap.size := ⟨_, rfl⟩
        rw [← hgb] at T1
        have HGB := Lib.hid hgb
        clear hF T HT hlt hj TM hgb
        go_wp2_with fail
        rw [← HGB.out]
        go_loopw [11] (fun i wz => ∃ (k : Nat) (L : Fm), k ≤ AL.length ∧ i = .int .i64 (k : Int) ∧ Hid (L.length = j ∧ Tog w (fun _ => False) wz [kFr p L, kMk gb j (marks L)])) (fun i _ => AL.length - (intOf i).toNat)
        case atStart => exact ⟨0, L, Nat.zero_le _, rfl, T1⟩
        case round =>
          clear T1 L
          obtain ⟨k, L, hk, rfl, HT⟩ := hrel
          rename World => wz
          obtain ⟨hLN, T⟩ := HT.out
          by_cases hlt : k < AL.length
          · obtain ⟨A, hA⟩ : ∃ A, AL[k]? = some A := ⟨_, List.getElem?_eq_getElem hlt⟩
            have hI := OK.out A (List.mem_of_getElem? hA)
            obtain ⟨b, o, rfl, _, hc⟩ := CE.out wz T.top k A hA
            have c0 : wz.cell? ⟨b, o + k, none⟩ = some (.int .i64 A) := by
              have := hc 0 (.int .i64 A) rfl
              rw [Nat.mul_one, Nat.add_zero] at this
              exact this
            have g1 : (k : Int) < (AL.length : Int) := by omega
            have g0 : (0 : Int) ≤ (k : Int) := by omega
            have w1' : wrap64 ((k : Int) + 1) = (k : Int) + 1 := by unfold wrap64; omega
            have W1 := Lib.hid w1'
            have MEAS := Lib.hid (show AL.length - (intOf (.int .i64 ((k : Int) + 1))).toNat < AL.length - (intOf (.int .i64 (k : Int))).toNat by simp [intOf]; omega)
            have NX := Lib.hid (show ∀ wq (L' : Fm), L'.length = j → Tog w (fun _ => False) wq [kFr p L', kMk gb j (marks L')] → ∃ (k' : Nat) (L : Fm), k' ≤ AL.length ∧ Value.int .i64 ((k : Int) + 1) = .int .i64 (k' : Int) ∧ Hid (L.length = j ∧ Tog w (fun _ => False) wq [kFr p L, kMk gb j (marks L)]) from fun wq L' h1 h2 => ⟨k + 1, L', hlt, rfl, Lib.hid ⟨h1, h2⟩⟩)
            have C1 := T.xfree (i := 0) rfl A hI
            rcases way2_of hLN A with ⟨m, q, rfl, hm, hq, hE⟩ | ⟨m, rfl, hm, hq, hE⟩ | ⟨hno, hE⟩
            · rw [hE] at C1
              have C1 := Lib.hid C1
              have GO := Lib.hid (show ∀ w3, Tog w (fun _ => False) w3 [kFr p (L.set m none), kMk gb j (marks L)] → _ from fun w3 T3 => And.intro (T3.rowCell (i := 1) rfl (bits_at (marks_at hq))) (And.intro (T3.rowFz (i := 1) rfl m) (NX.out _ (L.set m none) (by simpa using hLN) (by have := T3.setOne (i := 1) rfl m (.bool true); rw [marks_set] at this; exact this))))
              have gm0 : (0 : Int) ≤ (m : Int) := by omega
              have gm1 : (m : Int) < (j : Int) := by omega
              have wj : wrap64 ((j : Int) - 1) = (j : Int) - 1 := by unfold wrap64; omega
              have gj : ¬ ((j : Int) - 1 < 0) := by omega
              have gj2 : ¬ ((j : Int) - 1 < (m : Int)) := by omega
              have gj3 : (m : Int) ≤ (j : Int) - 1 := by omega
              have gj4 : (if (m : Int) < 0 then (0 : Int) else (m : Int)) = (m : Int) := if_neg (by omega)
              have gj5 : (if (j : Int) - 1 < 0 then (0 : Int) else (j : Int) - 1) = (j : Int) - 1 := if_neg (by omega)
              have gj6 : max (m : Int) 0 = (m : Int) := by omega
              have gj7 : max ((j : Int) - 1) 0 = (j : Int) - 1 := by omega
              have gj8 : min (m : Int) ((j : Int) - 1) = (m : Int) := by omega
              have gj9 : (if (j : Int) - 1 < (m : Int) then (j : Int) - 1 else (m : Int)) = (m : Int) := if_neg (by omega)
              have gj10 : (if (m : Int) < (j : Int) - 1 then (m : Int) else (j : Int) - 1) = (m : Int) := by split <;> omega
              clear hA hI hc hlt hk w1' NX T HT hE hq hLN CE OK
              go_wp2_with (go_at_call 27; refine C1.out.mono ?_; rintro e w3 ⟨rfl, t⟩; obtain ⟨y0, y1, nx⟩ := GO.out w3 t; simp only [Option.isSome_some, Bool.not_true] at y0; have FN := Lib.hid nx; clear t nx C1 GO)
              go_roundw
              case rel => first | exact FN.out | (rw [W1.out]; exact FN.out)
              case measure => first | exact MEAS.out | (rw [W1.out]; exact MEAS.out)
            · rw [hE] at C1
              have C1 := Lib.hid C1
              have GO := Lib.hid (show ∀ w3, Tog w (fun _ => False) w3 [kFr p L, kMk gb j (marks L)] → _ from fun w3 T3 => And.intro (T3.rowCell (i := 1) rfl (bits_at (marks_at hq))) (And.intro (T3.rowFz (i := 1) rfl m) (NX.out _ L hLN (by have := T3.setOne (i := 1) rfl m (.bool true); rw [marks_set, marks_same hq] at this; exact this))))
              have gm0 : (0 : Int) ≤ (m : Int) := by omega
              have gm1 : (m : Int) < (j : Int) := by omega
              clear hA hI hc hlt hk w1' NX T HT hE hq hLN CE OK
              go_wp2_with (go_at_call 27; refine C1.out.mono ?_; rintro e w3 ⟨rfl, t⟩; obtain ⟨y0, y1, nx⟩ := GO.out w3 t; simp only [Option.isSome_none, Bool.not_false] at y0; have FN := Lib.hid nx; clear t nx C1 GO)
              go_roundw
              case rel => first | exact FN.out | (rw [W1.out]; exact FN.out)
              case measure => first | exact MEAS.out | (rw [W1.out]; exact MEAS.out)
            · rw [hE] at C1
              have C1 := Lib.hid C1
              have GO := Lib.hid (show ∀ w3, Tog w (fun _ => False) w3 [kFr p L, kMk gb j (marks L)] → _ from fun w3 T3 => NX.out _ L hLN T3)
              clear hA hI hc hlt hk w1' NX T HT hE hLN CE OK
              by_cases ha : 0 ≤ A
              · have ha2 : ¬ A < (j : Int) := fun e => hno ⟨ha, e⟩
                clear hno
                go_wp2_with (go_at_call 27; refine C1.out.mono ?_; rintro e w3 ⟨rfl, t⟩; have FN := Lib.hid (GO.out w3 t); clear t C1 GO)
                go_roundw
                case rel => first | exact FN.out | (rw [W1.out]; exact FN.out)
                case measure => first | exact MEAS.out | (rw [W1.out]; exact MEAS.out)
              · clear hno
                go_wp2_with (go_at_call 27; refine C1.out.mono ?_; rintro e w3 ⟨rfl, t⟩; have FN := Lib.hid (GO.out w3 t); clear t C1 GO)
                go_roundw
                case rel => first | exact FN.out | (rw [W1.out]; exact FN.out)
                case measure => first | exact MEAS.out | (rw [W1.out]; exact MEAS.out)
          · have g1 : ¬ (k : Int) < (AL.length : Int) := by omega
            have T1 := Lib.hid (show Below3 j (marks L) 0 L ∧ Tog w (fun _ => False) wz [kFr p L, kMk gb j (marks L)] from ⟨below3_start hLN, T⟩)
            generalize marks L = F at *
            clear hk hlt HT T hLN CE OK
            go_wp2_with fail
            go_loopw [15] (fun i wq => ∃ (x : Nat) (L : Fm), x ≤ j ∧ i = .int .i64 (x : Int) ∧ Hid (Below3 j F x L ∧ Tog w (fun _ => False) wq [kFr p L, kMk gb j F])) (fun i _ => j - (intOf i).toNat)
            case atStart => exact ⟨0, L, Nat.zero_le _, rfl, T1⟩
            case round =>
              clear T1 L
              obtain ⟨x, L, hx, rfl, HT⟩ := hrel
              rename World => wq
              obtain ⟨hB, T⟩ := HT.out
              by_cases hlt : x < j
              · obtain ⟨bF, hbF⟩ : ∃ bF, F[x]? = some bF := ⟨_, List.getElem?_eq_getElem (by have := hB.2.1; omega)⟩
                have cF := T.rowCell (i := 1) rfl (bits_at hbF)
                have g1 : (x : Int) < (j : Int) := by omega
                have g0 : (0 : Int) ≤ (x : Int) := by omega
                have w1' : wrap64 ((x : Int) + 1) = (x : Int) + 1 := by unfold wrap64; omega
                have W1 := Lib.hid w1'
                have MEAS := Lib.hid (show j - (intOf (.int .i64 ((x : Int) + 1))).toNat < j - (intOf (.int .i64 (x : Int))).toNat by simp [intOf]; omega)
                have NX := Lib.hid (show ∀ wy (L' : Fm), Below3 j F (x + 1) L' → Tog w (fun _ => False) wy [kFr p L', kMk gb j F] → ∃ (x' : Nat) (L : Fm), x' ≤ j ∧ Value.int .i64 ((x : Int) + 1) = .int .i64 (x' : Int) ∧ Hid (Below3 j F x' L ∧ Tog w (fun _ => False) wy [kFr p L, kMk gb j F]) from fun wy L' h1 h2 => ⟨x + 1, L', hlt, rfl, Lib.hid ⟨h1, h2⟩⟩)
                cases bF with
                | false =>
                  have FN := Lib.hid (NX.out wq L (below3_skip hB hbF) T)
                  clear hB T HT hlt hbF w1' NX hx
                  go_wp2
                  go_roundw
                  case rel => first | exact FN.out | (rw [W1.out]; exact FN.out)
                  case measure => first | exact MEAS.out | (rw [W1.out]; exact MEAS.out)
                | true =>
                  obtain ⟨hE, hB2⟩ := below3_alloc hB hlt hbF
                  have C1 := T.xalloc (i := 0) rfl
                  rw [hE] at C1
                  have C1 := Lib.hid C1
                  have hI : InI (x : Int) := by unfold InI; omega
                  have pe : Fm.page (L.set x (some zpage)) (x : Int) = bs zpage := by
                    unfold Fm.page
                    rw [Fm.pg_at, List.getElem?_set_self (by have := hB.1; omega)]; rfl
                  have GO := Lib.hid (show ∀ w3, Tog w (fun _ => False) w3 [kFr p (L.set x (some zpage)), kMk gb j F] → _ from fun w3 T3 => And.intro (T3.drew.xpage (i := 0) rfl (x : Int) hI) (And.intro ((T3.alloc (.cells (byteCells (List.replicate 64 0)).toArray 5)).drew.xpage (i := 0) rfl (x : Int) hI) (And.intro (show (convert 46 9 (.slice (some ⟨w3.heap.size, 0, none⟩) 64 64)).run Try.prog (w3.alloc (.cells (byteCells (List.replicate 64 0)).toArray 5)).drew = .ok (.string (bs zpage)) (w3.alloc (.cells (byteCells (List.replicate 64 0)).toArray 5)).drew from freshString w3 (List.replicate 64 0)) (NX.out _ _ hB2 (T3.alloc (.cells (byteCells (List.replicate 64 0)).toArray 5)).drew))))
                  rw [pe] at GO
                  have k1 : ∀ W : World, (Instr.makeSlice 46 (.int .i64 64) (.int .i64 64)).run Try.prog W = .ok (.slice (some ⟨W.heap.size, 0, none⟩) 64 64) (W.alloc (.cells (byteCells (List.replicate 64 0)).toArray 5)) := fun W => madeByte 64 W (by omega)
                  have ne1 : ((bs zpage).toList != (bs zpage).toList) = false := by simp
                  generalize (byteCells (List.replicate 64 0)).toArray = Z at *
                  generalize bs zpage = zs at *
                  clear hB hB2 T HT hlt hbF w1' NX hx hE hI pe
                  go_upto_region 31 with (go_at_call 25; refine C1.out.mono ?_; rintro e w3 ⟨rfl, t⟩; obtain ⟨p1, p2, cv, nx⟩ := GO.out w3 t; have PA := Lib.hid p1; have PB := Lib.hid p2; have FN := Lib.hid nx; clear t p1 p2 nx C1 GO)
                  refine wp_region_held_drew (S := fun _ => True) (by kernel_rfl) trivial (fun hHeld => ?_)
                  refine wpAnyH_take (i := 0) (v := ?_) rfl (by kernel_rfl) (by kernel_rfl) (by kernel_rfl) (fun _ _ _ h => h) (Or.inl ⟨by rfl, ?_⟩) (by assumption) ?_
                  rotate_left
                  · (intro w hSw; (try dsimp only at hSw); go_simp; try with_reducible rfl)
                  (try simp only [List.getElem_toArray, List.getElem_cons_zero, List.getElem_cons_succ, Act.put, List.setIfInBounds_toArray, List.set_cons_zero, List.set_cons_succ])
                  refine wpAnyH_take (i := 1) (v := ?_) rfl (by kernel_rfl) (by kernel_rfl) (by kernel_rfl) (fun _ _ _ h => h) (Or.inl ⟨by rfl, ?_⟩) (by assumption) ?_
                  rotate_left
                  · (intro w hSw; (try dsimp only at hSw); go_simp; try with_reducible rfl)
                  (try simp only [List.getElem_toArray, List.getElem_cons_zero, List.getElem_cons_succ, Act.put, List.setIfInBounds_toArray, List.set_cons_zero, List.set_cons_succ])
                  refine wpAnyH_take (i := 2) (v := ?_) rfl (by kernel_rfl) (by kernel_rfl) (by kernel_rfl) (fun _ _ _ h => h) (Or.inl ⟨by rfl, ?_⟩) (by assumption) ?_
                  rotate_left
                  · (intro w hSw; (try dsimp only at hSw); go_simp; try with_reducible rfl)
                  (try simp only [List.getElem_toArray, List.getElem_cons_zero, List.getElem_cons_succ, Act.put, List.setIfInBounds_toArray, List.set_cons_zero, List.set_cons_succ])
                  refine wpAnyH_take (i := 3) (v := ?_) rfl (by kernel_rfl) (by kernel_rfl) (by kernel_rfl) (fun _ _ _ h => h) (Or.inl ⟨by rfl, ?_⟩) (by assumption) ?_
                  rotate_left
                  · (intro w hSw; (try dsimp only at hSw); go_simp; try with_reducible rfl)
                  (try simp only [List.getElem_toArray, List.getElem_cons_zero, List.getElem_cons_succ, Act.put, List.setIfInBounds_toArray, List.set_cons_zero, List.set_cons_succ])
                  refine wpAnyH_take (i := 4) (v := ?_) rfl (by kernel_rfl) (by kernel_rfl) (by kernel_rfl) (fun _ _ _ h => h) (Or.inl ⟨by rfl, ?_⟩) (by assumption) ?_
                  rotate_left
                  · (intro w hSw; (try dsimp only at hSw); go_simp; try with_reducible rfl)
                  (try simp only [List.getElem_toArray, List.getElem_cons_zero, List.getElem_cons_succ, Act.put, List.setIfInBounds_toArray, List.set_cons_zero, List.set_cons_succ])
                  refine wpAnyH_take (i := 5) (v := ?_) rfl (by kernel_rfl) (by kernel_rfl) (by kernel_rfl) (fun _ _ _ h => h) (Or.inl ⟨by rfl, ?_⟩) (by assumption) ?_
                  rotate_left
                  · (intro w hSw; (try dsimp only at hSw); go_simp; try with_reducible rfl)
                  (try simp only [List.getElem_toArray, List.getElem_cons_zero, List.getElem_cons_succ, Act.put, List.setIfInBounds_toArray, List.set_cons_zero, List.set_cons_succ])
                  refine wpAnyH_take (i := 6) (v := ?_) rfl (by kernel_rfl) (by kernel_rfl) (by kernel_rfl) (fun _ _ _ h => h) (Or.inl ⟨by rfl, ?_⟩) (by assumption) ?_
                  rotate_left
                  · (intro w hSw; (try dsimp only at hSw); go_simp; try with_reducible rfl)
                  (try simp only [List.getElem_toArray, List.getElem_cons_zero, List.getElem_cons_succ, Act.put, List.setIfInBounds_toArray, List.set_cons_zero, List.set_cons_succ])
                  refine wpAnyH_take (i := 7) (v := ?_) rfl (by kernel_rfl) (by kernel_rfl) (by kernel_rfl) (fun _ _ _ h => h) (Or.inl ⟨by rfl, ?_⟩) (by assumption) ?_
                  rotate_left
                  · (intro w hSw; (try dsimp only at hSw); go_simp; try with_reducible rfl)
                  (try simp only [List.getElem_toArray, List.getElem_cons_zero, List.getElem_cons_succ, Act.put, List.setIfInBounds_toArray, List.set_cons_zero, List.set_cons_succ])
                  refine wpAnyH_take (i := 8) (v := ?_) rfl (by kernel_rfl) (by kernel_rfl) (by kernel_rfl) (fun _ _ _ h => h) (Or.inl ⟨by rfl, ?_⟩) (by assumption) ?_
                  rotate_left
                  · (intro w hSw; (try dsimp only at hSw); go_simp; try with_reducible rfl)
                  (try simp only [List.getElem_toArray, List.getElem_cons_zero, List.getElem_cons_succ, Act.put, List.setIfInBounds_toArray, List.set_cons_zero, List.set_cons_succ])
                  refine wpAnyH_take (i := 9) (v := ?_) rfl (by kernel_rfl) (by kernel_rfl) (by kernel_rfl) (fun _ _ _ h => h) (Or.inl ⟨by rfl, ?_⟩) (by assumption) ?_
                  rotate_left
                  · (intro w hSw; (try dsimp only at hSw); go_simp; try with_reducible rfl)
                  (try simp only [List.getElem_toArray, List.getElem_cons_zero, List.getElem_cons_succ, Act.put, List.setIfInBounds_toArray, List.set_cons_zero, List.set_cons_succ])
                  refine wpAnyH_ready (rs := [10, 11]) (by kernel_rfl) (by simp) ?_
                  refine AllReadyH.cons rfl (fun K hK => ?_) (AllReadyH.cons rfl (fun K hK => ?_) AllReadyH.nil)
                  · go_simp
                    refine PA.out.mono ?_
                    rintro e w4 ⟨rfl, hw⟩
                    subst w4
                    refine hK.out _ _ trivial (fun hHeld => ?_)
                    clear hK K
                    (try simp only [List.getElem_toArray, List.getElem_cons_zero, List.getElem_cons_succ, Act.put, List.setIfInBounds_toArray, List.set_cons_zero, List.set_cons_succ])
                    refine wpAnyH_ready (rs := [11]) (by kernel_rfl) (by simp) ?_
                    refine AllReadyH.cons rfl (fun K hK => ?_) AllReadyH.nil
                    go_simp
                    refine hK.out _ _ trivial (fun hHeld => ?_)
                    clear hK K
                    (try simp only [List.getElem_toArray, List.getElem_cons_zero, List.getElem_cons_succ, Act.put, List.setIfInBounds_toArray, List.set_cons_zero, List.set_cons_succ])
                    refine wpAnyH_ready (rs := [12]) (by kernel_rfl) (by simp) ?_
                    refine AllReadyH.cons rfl (fun K hK => ?_) AllReadyH.nil
                    go_simp
                    refine hK.out _ _ trivial (fun hHeld => ?_)
                    clear hK K
                    (try simp only [List.getElem_toArray, List.getElem_cons_zero, List.getElem_cons_succ, Act.put, List.setIfInBounds_toArray, List.set_cons_zero, List.set_cons_succ])
                    refine wpAnyH_take (i := 13) (v := ?_) rfl (by kernel_rfl) (by kernel_rfl) (by kernel_rfl) (fun _ _ _ h => h) (Or.inl ⟨by rfl, ?_⟩) (by assumption) ?_
                    rotate_left
                    · (intro w hSw; (try dsimp only at hSw); go_simp; try with_reducible rfl)
                    (try simp only [List.getElem_toArray, List.getElem_cons_zero, List.getElem_cons_succ, Act.put, List.setIfInBounds_toArray, List.set_cons_zero, List.set_cons_succ])
                    refine wpAnyH_take (i := 14) (v := ?_) rfl (by kernel_rfl) (by kernel_rfl) (by kernel_rfl) (fun _ _ _ h => h) (Or.inl ⟨by rfl, ?_⟩) (by assumption) ?_
                    rotate_left
                    · (intro w hSw; (try dsimp only at hSw); go_simp; try with_reducible rfl)
                    (try simp only [List.getElem_toArray, List.getElem_cons_zero, List.getElem_cons_succ, Act.put, List.setIfInBounds_toArray, List.set_cons_zero, List.set_cons_succ])
                    refine wpAnyH_done (by kernel_rfl) ?_ _
                    go_wp2
                    go_roundw
                    case rel => first | exact FN.out | (rw [W1.out]; exact FN.out)
                    case measure => first | exact MEAS.out | (rw [W1.out]; exact MEAS.out)
                  · go_simp
                    refine hK.out _ _ trivial (fun hHeld => ?_)
                    clear hK K
                    (try simp only [List.getElem_toArray, List.getElem_cons_zero, List.getElem_cons_succ, Act.put, List.setIfInBounds_toArray, List.set_cons_zero, List.set_cons_succ])
                    refine wpAnyH_ready (rs := [10, 12]) (by kernel_rfl) (by simp) ?_
                    refine AllReadyH.cons rfl (fun K hK => ?_) (AllReadyH.cons rfl (fun K hK => ?_) AllReadyH.nil)
                    · go_simp
                      refine PB.out.mono ?_
                      rintro e w4 ⟨rfl, hw⟩
                      subst w4
                      refine hK.out _ _ trivial (fun hHeld => ?_)
                      clear hK K
                      (try simp only [List.getElem_toArray, List.getElem_cons_zero, List.getElem_cons_succ, Act.put, List.setIfInBounds_toArray, List.set_cons_zero, List.set_cons_succ])
                      refine wpAnyH_ready (rs := [12]) (by kernel_rfl) (by simp) ?_
                      refine AllReadyH.cons rfl (fun K hK => ?_) AllReadyH.nil
                      go_simp
                      refine hK.out _ _ trivial (fun hHeld => ?_)
                      clear hK K
                      (try simp only [List.getElem_toArray, List.getElem_cons_zero, List.getElem_cons_succ, Act.put, List.setIfInBounds_toArray, List.set_cons_zero, List.set_cons_succ])
                      refine wpAnyH_take (i := 13) (v := ?_) rfl (by kernel_rfl) (by kernel_rfl) (by kernel_rfl) (fun _ _ _ h => h) (Or.inl ⟨by rfl, ?_⟩) (by assumption) ?_
                      rotate_left
                      · (intro w hSw; (try dsimp only at hSw); go_simp; try with_reducible rfl)
                      (try simp only [List.getElem_toArray, List.getElem_cons_zero, List.getElem_cons_succ, Act.put, List.setIfInBounds_toArray, List.set_cons_zero, List.set_cons_succ])
                      refine wpAnyH_take (i := 14) (v := ?_) rfl (by kernel_rfl) (by kernel_rfl) (by kernel_rfl) (fun _ _ _ h => h) (Or.inl ⟨by rfl, ?_⟩) (by assumption) ?_
                      rotate_left
                      · (intro w hSw; (try dsimp only at hSw); go_simp; try with_reducible rfl)
                      (try simp only [List.getElem_toArray, List.getElem_cons_zero, List.getElem_cons_succ, Act.put, List.setIfInBounds_toArray, List.set_cons_zero, List.set_cons_succ])
                      refine wpAnyH_done (by kernel_rfl) ?_ _
                      go_wp2
                      go_roundw
                      case rel => first | exact FN.out | (rw [W1.out]; exact FN.out)
                      case measure => first | exact MEAS.out | (rw [W1.out]; exact MEAS.out)
                    · go_simp
                      refine hK.out _ _ trivial (fun hHeld => ?_)
                      clear hK K
                      (try simp only [List.getElem_toArray, List.getElem_cons_zero, List.getElem_cons_succ, Act.put, List.setIfInBounds_toArray, List.set_cons_zero, List.set_cons_succ])
                      refine wpAnyH_ready (rs := [10]) (by kernel_rfl) (by simp) ?_
                      refine AllReadyH.cons rfl (fun K hK => ?_) AllReadyH.nil
                      go_simp
                      refine PB.out.mono ?_
                      rintro e w4 ⟨rfl, hw⟩
                      subst w4
                      refine hK.out _ _ trivial (fun hHeld => ?_)
                      clear hK K
                      (try simp only [List.getElem_toArray, List.getElem_cons_zero, List.getElem_cons_succ, Act.put, List.setIfInBounds_toArray, List.set_cons_zero, List.set_cons_succ])
                      refine wpAnyH_take (i := 13) (v := ?_) rfl (by kernel_rfl) (by kernel_rfl) (by kernel_rfl) (fun _ _ _ h => h) (Or.inl ⟨by rfl, ?_⟩) (by assumption) ?_
                      rotate_left
                      · (intro w hSw; (try dsimp only at hSw); go_simp; try with_reducible rfl)
                      (try simp only [List.getElem_toArray, List.getElem_cons_zero, List.getElem_cons_succ, Act.put, List.setIfInBounds_toArray, List.set_cons_zero, List.set_cons_succ])
                      refine wpAnyH_take (i := 14) (v := ?_) rfl (by kernel_rfl) (by kernel_rfl) (by kernel_rfl) (fun _ _ _ h => h) (Or.inl ⟨by rfl, ?_⟩) (by assumption) ?_
                      rotate_left
                      · (intro w hSw; (try dsimp only at hSw); go_simp; try with_reducible rfl)
                      (try simp only [List.getElem_toArray, List.getElem_cons_zero, List.getElem_cons_succ, Act.put, List.setIfInBounds_toArray, List.set_cons_zero, List.set_cons_succ])
                      refine wpAnyH_done (by kernel_rfl) ?_ _
                      go_wp2
                      go_roundw
                      case rel => first | exact FN.out | (rw [W1.out]; exact FN.out)
                      case measure => first | exact MEAS.out | (rw [W1.out]; exact MEAS.out)
              · obtain rfl : x = j := by omega
                have g1 : ¬ (x : Int) < (x : Int) := by omega
                obtain ⟨hE, hU⟩ := below3_end hB
                have C1 := T.xalloc (i := 0) rfl
                rw [hE] at C1
                have C1 := Lib.hid C1
                have GO := Lib.hid (show ∀ w3, Tog w (fun _ => False) w3 [kFr p L, kMk gb x F] → _ from fun w3 T3 => And.intro (T3.xused (i := 0) rfl) T3.top)
                rw [hU] at GO
                clear hB T HT hlt hx hE hU
                go_wp2_with (first
                  | (go_at_call 25; refine C1.out.mono ?_; rintro e w3 ⟨rfl, t⟩; obtain ⟨u1, tb⟩ := GO.out w3 t; have U1 := Lib.hid u1; have TB := Lib.hid tb; clear t u1 tb C1 GO)
                  | (go_at_call 13; refine U1.out.mono ?_; rintro e w4 ⟨rfl, hw⟩; subst w4))
                go_ret
                exact ⟨rfl, TB.out⟩
  · have hr3 : n < 0 ∨ 60 < n ∨ 60 < (AL.length : Int) := by
      by_cases c1 : n < 0
      · exact .inl c1
      · by_cases c2 : 60 < n
        · exact .inr (.inl c2)
        · exact .inr (.inr (by have : ¬ AL.length ≤ 60 := fun e => hr ⟨⟨by omega, by omega⟩, e⟩; omega))
    clear h hr hlm
    by_cases c1 : n < 0
    · clear hr3
      go_enter Try.func5, Try.ntmps5
      go_wp2_with (go_at_call 7; refine SM.out.mono ?_; rintro e w1 ⟨rfl, t⟩; have TB := Lib.hid t; clear t SM)
      go_ret
      exact ⟨rfl, TB.out⟩
    · by_cases c2 : 60 < n
      · clear hr3
        go_enter Try.func5, Try.ntmps5
        go_wp2_with (go_at_call 7; refine SM.out.mono ?_; rintro e w1 ⟨rfl, t⟩; have TB := Lib.hid t; clear t SM)
        go_ret
        exact ⟨rfl, TB.out⟩
      · have c3 : (60 : Int) < (AL.length : Int) := by omega
        clear hr3
        go_enter Try.func5, Try.ntmps5
        go_wp2_with (go_at_call 7; refine SM.out.mono ?_; rintro e w1 ⟨rfl, t⟩; have TB := Lib.hid t; clear t SM)
        go_ret
        exact ⟨rfl, TB.out⟩
end Go.Proofs.Ytpabkaihppnddaa
