/-
  DiskTells: the walk.
-/
import Derived.Test.YtclibkpipggdeaaHp
import Derived.Deep.RegionHeld3
namespace Go.Proofs.Ytclibkpipggdeaa
open Go.RowKit Go.Maps WireM DiskM
set_option linter.unusedVariables false
set_option linter.unusedSimpArgs false
set_option maxRecDepth 100000

theorem tdrew {w0 w : World} {l : List Kd} (h : Tog w0 w l) : Tog w0 w.drew l := h.on ⟨rfl, rfl, rfl, Nat.le_refl _, fun _ _ => rfl⟩
theorem tells_few {w : World} {a : Option Addr} {c : Nat} {l : List ActV} (h : ActsAt w.heap.size w a l) (f m n : Int) (hf : ¬ Few l) :
    Calls Try.prog 3 #[.slice a l.length c, .int .i64 f, .int .i64 m, .int .i64 n] w fun e w' => e = .returned (.bool true) ∧ Below w.heap.size w w' := by
  have H := Lib.hid h
  have D0 := Lib.hid (Below.refl w.heap.size w)
  have FD := Lib.hid (decide_eq_false hf)
  clear h hf
  go_enter Try.func3, Try.ntmps3
  go_wp2_with (first
    | (go_at_call 4; refine (small_at D0.out).mono ?_; rintro e w1 ⟨rfl, b1⟩; have D1 := Lib.hid b1; clear b1 D0)
    | (go_at_call 5; refine (few_at H.out D1.out FD.out).mono ?_; rintro e w1 ⟨rfl, rfl⟩))
  all_goals (go_ret; exact ⟨rfl, D1.out⟩)
set_option maxHeartbeats 16000000 in
theorem tells_main {w : World} {a : Option Addr} {c : Nat} {l : List ActV} (h : ActsAt w.heap.size w a l) (f m n : Int) (hf : Few l) (hfI : InI f) (hm : InI m) (hn : InI n) :
    Calls Try.prog 3 #[.slice a l.length c, .int .i64 f, .int .i64 m, .int .i64 n] w fun e w' => e = .returned (.bool true) ∧ Below w.heap.size w w' := by
  have H := Lib.hid h
  have D0 := Lib.hid (Below.refl w.heap.size w)
  have FD := Lib.hid (decide_eq_true hf)
  have HF := Lib.hid hf
  have hlen : l.length ≤ 40 := hf.2
  have II := Lib.hid (And.intro hfI (And.intro hm hn))
  clear h hf hfI hm hn
  go_enter Try.func3, Try.ntmps3
  go_wp2_with (first
    | (go_at_call 4; refine (small_at D0.out).mono ?_; rintro e w1 ⟨rfl, b1⟩; have D1 := Lib.hid b1; clear b1 D0)
    | (go_at_call 5; refine (few_at H.out D1.out FD.out).mono ?_; rintro e w1 ⟨rfl, rfl⟩)
    | (go_at_call 6; refine (((Tog.nil w).on D1.out).new).mono ?_; rintro e w2 ⟨p, rfl, t2⟩; have T2 := Lib.hid (show Tog w w2 [kDisk p St.new] from t2); clear t2)
    | (go_at_call 7; refine (T2.out.rnew).mono ?_; rintro e w3 ⟨r, rfl, t3⟩; have T3 := Lib.hid (show Tog w w3 [kDisk p St.new, kRef r St.new] from t3); clear t3))
  go_loopw [10, 12] (fun pv i wr => ∃ (j p : Nat), j ≤ l.length ∧ pv = .pointer (some ⟨p, 0, none⟩) ∧ i = .int .i64 (j : Int) ∧ Hid (Tog w wr [kDisk p (runActs St.new (l.take j)), kRef r (runActs St.new (l.take j))])) (fun _ i _ => l.length - (intOf i).toNat)
  case atStart => exact ⟨0, p, Nat.zero_le _, rfl, rfl, T3⟩
  case round =>
    obtain ⟨j, p, hj, rfl, rfl, HT⟩ := hrel
    clear T3 T2 D1
    by_cases hlt : j < l.length
    · obtain ⟨A, hA⟩ : ∃ A, l[j]? = some A := ⟨_, List.getElem?_eq_getElem hlt⟩
      obtain ⟨A0, hA0⟩ : ∃ A0, l[0]? = some A0 := ⟨_, List.getElem?_eq_getElem (by omega)⟩
      rcases H.out.cells with e | ⟨b, o, rfl, hb, hc⟩
      · rw [e] at hlt; simp at hlt
      have KC := Lib.hid (fun W (hW : Below w.heap.size w W) => show W.cell? ⟨b, o + j * 5, none⟩ = some (.int .i64 A.d) ∧ W.cell? ⟨b, o + j * 5 + 1, none⟩ = some (.int .i64 A.f) ∧ W.cell? ⟨b, o + j * 5 + 2, none⟩ = some (.int .i64 A.n) ∧ W.cell? ⟨b, o + j * 5 + 3, none⟩ = some (.string A.s) ∧ W.cell? ⟨b, o + j * 5 + 4, none⟩ = some (.slice A.ka A.keep.length A.kc) from by
        obtain ⟨c0, c1, c2, c3, c4⟩ := hc j A hA
        exact ⟨(hW.cell (p := ⟨b, _, none⟩) hb).trans c0, (hW.cell (p := ⟨b, _, none⟩) hb).trans c1, (hW.cell (p := ⟨b, _, none⟩) hb).trans c2, (hW.cell (p := ⟨b, _, none⟩) hb).trans c3, (hW.cell (p := ⟨b, _, none⟩) hb).trans c4⟩)
      have KZ := Lib.hid (fun W (hW : Below w.heap.size w W) => show W.cell? ⟨b, o, none⟩ = some (.int .i64 A0.d) ∧ W.cell? ⟨b, o + 1, none⟩ = some (.int .i64 A0.f) ∧ W.cell? ⟨b, o + 2, none⟩ = some (.int .i64 A0.n) ∧ W.cell? ⟨b, o + 3, none⟩ = some (.string A0.s) ∧ W.cell? ⟨b, o + 4, none⟩ = some (.slice A0.ka A0.keep.length A0.kc) from by
        obtain ⟨c0, c1, c2, c3, c4⟩ := hc 0 A0 hA0
        simp only [Nat.zero_mul, Nat.add_zero] at c0 c1 c2 c3 c4
        exact ⟨(hW.cell (p := ⟨b, _, none⟩) hb).trans c0, (hW.cell (p := ⟨b, _, none⟩) hb).trans c1, (hW.cell (p := ⟨b, _, none⟩) hb).trans c2, (hW.cell (p := ⟨b, _, none⟩) hb).trans c3, (hW.cell (p := ⟨b, _, none⟩) hb).trans c4⟩)
      have OK := Lib.hid (And.intro (H.out.ok A (List.mem_of_getElem? hA)) (HF.out.1 A (List.mem_of_getElem? hA)))
      have OZ := Lib.hid (And.intro (H.out.ok A0 (List.mem_of_getElem? hA0)) (HF.out.1 A0 (List.mem_of_getElem? hA0)))
      have hst := runActs_snoc St.new l hA
      generalize runActs St.new (l.take j) = s at *
      have DO := Lib.hid (fun W p i L (hW : Tog w W L) (hi : L[i]? = some (kDisk p s)) => hW.do hi A OK.out.1 OK.out.2)
      have TE := Lib.hid (fun W L (hW : Tog w W L) i (hi : L[i]? = some (kRef r s)) => hW.tell hi A OK.out.1 OK.out.2)
      generalize hs1 : (actS s A).1 = s1 at *
      generalize (actS s A).2 = z at *
      unfold ActV.cells at DO TE
      have DZ := Lib.hid (fun W p i L s (hW : Tog w W L) (hi : L[i]? = some (kDisk p s)) => hW.do hi A0 OZ.out.1 OZ.out.2)
      unfold ActV.cells at DZ
      have g0 : (0 : Int) ≤ (j : Int) := by omega
      have g1 : (j : Int) < (l.length : Int) := by omega
      have gl0 : (0 : Int) < (l.length : Int) := by omega
      have w1' : wrap64 ((j : Int) + 1) = (j : Int) + 1 := by unfold wrap64; omega
      have W1 := Lib.hid w1'
      have MEAS := Lib.hid (show l.length - (intOf (.int .i64 ((j : Int) + 1))).toNat < l.length - (intOf (.int .i64 (j : Int))).toNat by simp [intOf]; omega)
      have NX := Lib.hid (show ∀ W p', Tog w W [kDisk p' s1, kRef r s1] → ∃ (j' p2 : Nat), j' ≤ l.length ∧ Value.pointer (some ⟨p', 0, none⟩) = .pointer (some ⟨p2, 0, none⟩) ∧ Value.int .i64 ((j : Int) + 1) = .int .i64 (j' : Int) ∧ Hid (Tog w W [kDisk p2 (runActs St.new (l.take j')), kRef r (runActs St.new (l.take j'))]) from fun W p' hW => ⟨j + 1, p', hlt, rfl, rfl, Lib.hid (by rw [hst]; exact hW)⟩)
      have sA : wr.drew.cell? ⟨b, o + j * 5, none⟩ = some (.int .i64 A.d) ∧ wr.drew.cell? ⟨b, o + j * 5 + 1, none⟩ = some (.int .i64 A.f) ∧ wr.drew.cell? ⟨b, o + j * 5 + 2, none⟩ = some (.int .i64 A.n) ∧ wr.drew.cell? ⟨b, o + j * 5 + 3, none⟩ = some (.string A.s) ∧ wr.drew.cell? ⟨b, o + j * 5 + 4, none⟩ = some (.slice A.ka A.keep.length A.kc) := KC.out _ (tdrew HT.out).bel
      have dq : Int.tdiv (l.length : Int) 2 = ((l.length / 2 : Nat) : Int) := by rw [Int.tdiv_eq_ediv_of_nonneg (by omega)]; omega
      have wq : wrap64 (((l.length / 2 : Nat)) : Int) = ((l.length / 2 : Nat) : Int) := by unfold wrap64; omega
      have hmid : ((j : Int) == ((l.length / 2 : Nat) : Int)) = decide (j = l.length / 2) := by
        by_cases e : j = l.length / 2
        · rw [decide_eq_true e, beq_iff_eq]; omega
        · rw [decide_eq_false e, beq_eq_false_iff_ne]; omega
      generalize l.length / 2 = M at *
      clear hc hA hA0 hst hs1 w1' hj hlt
      go_wp2
      go_region_held3 (fun w' => w'.cell? ⟨b, o + j * 5, none⟩ = some (.int .i64 A.d) ∧ w'.cell? ⟨b, o + j * 5 + 1, none⟩ = some (.int .i64 A.f) ∧ w'.cell? ⟨b, o + j * 5 + 2, none⟩ = some (.int .i64 A.n) ∧ w'.cell? ⟨b, o + j * 5 + 3, none⟩ = some (.string A.s) ∧ w'.cell? ⟨b, o + j * 5 + 4, none⟩ = some (.slice A.ka A.keep.length A.kc)) (first | exact sA | exact sB | exact sC | exact sD) (first
        | (go_at_call 8; refine (DO.out _ p 0 _ (by exact tdrew HT.out) rfl).mono ?_; rintro e w4 ⟨rfl, t4⟩; have sB := KC.out w4 t4.bel; have T4 := Lib.hid (show Tog w w4 [kDisk p s1, kRef r s] from t4); clear t4 DO)
        | (go_at_call 9; refine (TE.out _ _ T4.out 1 rfl).mono ?_; rintro e w5 ⟨rfl, t5⟩; have sC := KC.out w5 t5.bel; have T5 := Lib.hid (show Tog w w5 [kDisk p s1, kRef r s1] from t5); clear t5 TE)
        | (go_at_call 10; refine (T5.out.isDown (i := 0) rfl).mono ?_; rintro e w6 ⟨rfl, rfl⟩)
        | (go_at_call 11; refine (T5.out.rdown (i := 1) rfl).mono ?_; rintro e w6 ⟨rfl, rfl⟩)
        | (go_at_call 12; refine (T5.out.size (i := 0) rfl f II.out.1).mono ?_; rintro e w6 ⟨rfl, rfl⟩)
        | (go_at_call 13; refine (T5.out.rsize (i := 1) rfl f).mono ?_; rintro e w6 ⟨rfl, t6⟩; have sD := KC.out w6 t6.bel; have T6 := Lib.hid t6; clear t6))
      have sZ := KZ.out w6 T6.out.bel
      obtain ⟨x0, x1, x2, x3, x4⟩ := sZ
      clear sA sB sC sD KC HT T4 T5
      cases hdm : decide (j = M) with
      | true =>
        rw [hdm] at hmid
        go_wp2_with (first
          | (go_at_call 14; refine (T6.out.copy (i := 0) rfl).mono ?_; rintro e w7 ⟨p2, rfl, t7⟩; obtain ⟨y0, y1, y2, y3, y4⟩ := KZ.out w7 t7.bel; have T7 := Lib.hid (show Tog w w7 [kDisk p s1, kRef r s1, kDisk p2 s1] from t7); clear t7)
          | (go_at_call 8; refine (DZ.out _ p 0 _ s1 T7.out rfl).mono ?_; rintro e w8 ⟨rfl, t8⟩; have T8 := Lib.hid (show Tog w w8 [kDisk p (actS s1 A0).1, kRef r s1, kDisk p2 s1] from t8); clear t8 DZ)
          | (go_at_call 15; refine (T8.out.sync (i := 0) rfl f).mono ?_; rintro e w9 ⟨rfl, t9⟩; have T9 := Lib.hid (show Tog w w9 [kDisk p2 s1, kRef r s1] from t9.sub (fun i => if i = 0 then 2 else i) (fun i k hk => by
              rcases i with _ | _ | i
              · exact hk
              · exact hk
              · simp at hk) (fun i j hi hj e => by
              simp at hi hj e
              have : i = 0 ∨ i = 1 := by omega
              have : j = 0 ∨ j = 1 := by omega
              rcases ‹i = 0 ∨ i = 1› with rfl | rfl <;> rcases ‹j = 0 ∨ j = 1› with rfl | rfl <;> simp_all)); clear t9))
        go_roundw
        case rel => first | exact NX.out _ _ T9.out | (rw [W1.out]; exact NX.out _ _ T9.out)
        case measure => first | exact MEAS.out | (rw [W1.out]; exact MEAS.out)
      | false =>
        rw [hdm] at hmid
        go_wp2
        go_roundw
        case rel => first | exact NX.out _ _ T6.out | (rw [W1.out]; exact NX.out _ _ T6.out)
        case measure => first | exact MEAS.out | (rw [W1.out]; exact MEAS.out)
    · have g1 : ¬ (j : Int) < (l.length : Int) := by omega
      clear hlt hj
      generalize runActs St.new (l.take j) = s at *
      go_wp2_with (first
        | (go_at_call 16; refine (HT.out.read (i := 0) rfl f m n II.out.1 II.out.2.1 II.out.2.2).mono ?_; rintro e w7 ⟨rfl, rfl⟩)
        | (go_at_call 17; refine (HT.out.rread (i := 1) rfl f m n II.out.2.1 II.out.2.2).mono ?_; rintro e w8 ⟨rfl, t8⟩; have T8 := Lib.hid t8; clear t8))
      go_ret
      exact ⟨by simp, T8.out.bel⟩
theorem tells_any {w : World} {a : Option Addr} {c : Nat} {l : List ActV} (h : ActsAt w.heap.size w a l) (f m n : Int) (hfI : InI f) (hm : InI m) (hn : InI n) :
    Calls Try.prog 3 #[.slice a l.length c, .int .i64 f, .int .i64 m, .int .i64 n] w fun e w' => e = .returned (.bool true) ∧ Below w.heap.size w w' := by
  by_cases hf : Few l
  · exact tells_main h f m n hf hfI hm hn
  · exact tells_few h f m n hf
end Go.Proofs.Ytclibkpipggdeaa
