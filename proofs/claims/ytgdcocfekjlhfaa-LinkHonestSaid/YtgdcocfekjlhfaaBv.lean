/-
  LinkHonest.
-/
import Derived.Test.YtgdcocfekjlhfaaBu
namespace Go.Proofs.Ytgdcocfekjlhfaa
open Go.RowKit
set_option linter.unusedVariables false
set_option linter.unusedSimpArgs false
set_option maxRecDepth 100000
theorem gtr_no (a b : Int) (h : ¬ b < a) (W : World) : (binOp .gtr 3 (.int .i64 a) (.int .i64 b)).run Try.prog W = .ok (.bool false) W := by simp [go_sem, Try.underlying3, h]; try omega
/-- What the loop holds. -/
def HonT (w : World) (p : Nat) (L : List OpV) (k : Nat) (a1 a2 : Option Addr) (n1 c1 n2 c2 : Nat) (b : Bool) (wr : World) : Prop :=
  ∃ (s : LS) (G Sn : List Pk), HI k s G Sn ∧ s.cut = b ∧ n1 = Sn.length ∧ n2 = G.length ∧ Tog w (fun _ => False) wr [kLink 53 p s, kPks (.slice a1 n1 c1) Sn, kPks (.slice a2 n2 c2) G]
set_option maxHeartbeats 16000000 in
theorem honest_in {a : Option Addr} {c : Nat} {L : List OpV} (w : World) (h : RowsAt OpV.cells OpV.Ok 3 w.heap.size w a L) (hL : L.length ≤ 200) (hfew : fewB L 200 = true) :
    Calls Try.prog 4 #[.slice a L.length c] w fun e w' => e = .returned (.bool true) ∧ Below w.heap.size w w' := by
  have SM := Lib.hid (small_any w)
  have NEW := Lib.hid (fun (w1 : World) (b : Below w.heap.size w w1) => ((Tog.nil w (fun _ => False)).on b).xnew)
  have FEW := Lib.hid (fun (w1 : World) (b : Below w.heap.size w w1) => few_any (w := w1) (c := c) ⟨h.cells.imp id (fun ⟨x, o, h1, h2, h3⟩ => ⟨x, o, h1, h2, fun i A hA j u hj => (b.cell (p := ⟨x, o + i * 3 + j, none⟩) h2).trans (h3 i A hA j u hj)⟩), h.ok, h.len⟩ 200 h.len)
  rw [hfew] at FEW
  have H := Lib.hid h
  clear h hfew
  go_enter Try.func4, Try.ntmps4
  go_wp2_with (first
    | (go_at_call 7; refine SM.out.mono ?_; rintro e w1 ⟨rfl, t⟩; have N1 := Lib.hid (NEW.out w1 t); clear t SM)
    | (go_at_call 8; refine N1.out.mono ?_; rintro e w2 ⟨p, rfl, t⟩; have N3 := Lib.hid (FEW.out w2 t.top); have T0 := Lib.hid (show HonT w p L 0 none none 0 0 0 0 false w2 from ⟨LS.new, [], [], HI.new, rfl, rfl, rfl, (t.nilRow _ _).nilRow _ _⟩); clear t N1 FEW)
    | (go_at_call 10; refine N3.out.mono ?_; rintro e w4 ⟨rfl, rfl⟩; clear N3))
  go_loopw [8, 5, 6, 7] (fun i v1 v2 o wr => ∃ (k : Nat) (a1 a2 : Option Addr) (n1 c1 n2 c2 : Nat) (b : Bool), k ≤ L.length ∧ i = .int .i64 (k : Int) ∧ v1 = .slice a1 n1 c1 ∧ v2 = .slice a2 n2 c2 ∧ o = .bool b ∧ Hid (HonT w p L k a1 a2 n1 c1 n2 c2 b wr)) (fun i _ _ _ _ => L.length - (intOf i).toNat)
  case atStart => exact ⟨0, none, none, 0, 0, 0, 0, false, Nat.zero_le _, rfl, rfl, rfl, rfl, T0⟩
  case round =>
    obtain ⟨k, a1, a2, n1, c1, n2, c2, bc, hk, rfl, rfl, rfl, rfl, HT⟩ := hrel
    clear T0
    by_cases hlt : k < L.length
    · obtain ⟨s, G, Sn, hi, hcb, hn1, hn2, T⟩ := HT.out
      subst hn1 hn2
      obtain ⟨A, hA⟩ : ∃ A, L[k]? = some A := ⟨_, List.getElem?_eq_getElem hlt⟩
      have ok := H.out.ok A (List.mem_of_getElem? hA)
      obtain ⟨ab, ao, rfl, hab, hc⟩ := H.out.one T.top hA
      have ARG := Lib.hid (show ∀ wz l, Tog w (fun _ => False) wz l → wz.cell? ⟨ab, ao + k * 3, none⟩ = some (.int .i64 A.d) ∧ wz.cell? ⟨ab, ao + k * 3 + 1, none⟩ = some (.int .i64 A.n) ∧ wz.cell? ⟨ab, ao + k * 3 + 2, none⟩ = some (.string A.s) from fun wz l T => by
        obtain ⟨b', o', he, _, h'⟩ := H.out.one T.top hA
        obtain ⟨rfl, rfl⟩ : ab = b' ∧ ao = o' := by simpa using he
        exact ⟨h' 0 _ rfl, h' 1 _ rfl, h' 2 _ rfl⟩)
      have g0 : (0 : Int) ≤ (k : Int) := by omega
      have g1 : (k : Int) < (L.length : Int) := by omega
      have w1 : wrap64 ((k : Int) + 1) = (k : Int) + 1 := by unfold wrap64; omega
      have W1 := Lib.hid w1
      have MEAS := Lib.hid (show L.length - (intOf (.int .i64 ((k : Int) + 1))).toNat < L.length - (intOf (.int .i64 (k : Int))).toNat by simp [intOf]; omega)
      have NX := Lib.hid (show ∀ wz x1 x2 m1 y1 m2 y2 b, HonT w p L (k + 1) x1 x2 m1 y1 m2 y2 b wz → ∃ (k' : Nat) (a1 a2 : Option Addr) (n1 c1 n2 c2 : Nat) (bb : Bool), k' ≤ L.length ∧ Value.int .i64 ((k : Int) + 1) = .int .i64 (k' : Int) ∧ Value.slice x1 m1 y1 = .slice a1 n1 c1 ∧ Value.slice x2 m2 y2 = .slice a2 n2 c2 ∧ Value.bool b = .bool bb ∧ Hid (HonT w p L k' a1 a2 n1 c1 n2 c2 bb wz) from fun wz x1 x2 m1 y1 m2 y2 b T => ⟨k + 1, x1, x2, m1, y1, m2, y2, b, hlt, rfl, rfl, rfl, rfl, Lib.hid T⟩)
      have XL := Lib.hid (T.xlist (i := 0) rfl)
      have DO := Lib.hid (show ∀ wz a7 c7 s' q er, s.op A = (s', q, er) → Tog w (fun _ => False) wz ([kLink 53 p s, kPks (.slice a1 Sn.length c1) Sn, kPks (.slice a2 G.length c2) G] ++ [kPks (.slice a7 s.L.length c7) s.L]) → Calls Try.prog 13 #[.pointer (some ⟨p, 0, none⟩), .agg #[.int .i64 A.d, .int .i64 A.n, .string A.s]] wz (fun e w' => e = .returned (.tuple #[.agg #[.int .i64 q.1, .string q.2], .int .i64 er]) ∧ Tog w (fun _ => False) (w'.alloc (.cells #[.int .i64 q.1, .string q.2] 30)) [kLink 53 p s', kPks (.slice a1 Sn.length c1) Sn, kPks (.slice a2 G.length c2) G, kPks (.slice a7 s.L.length c7) s.L, kHeap w'.heap.size (.cells #[.int .i64 q.1, .string q.2] 30 (0, 0))]) from fun wz a7 c7 s' q er hop T => by
        have := T.xdo (i := 0) rfl A ok
        rw [hop] at this
        exact this.mono (fun e w' ⟨a, b⟩ => ⟨a, b.block _⟩))
      have hb := and7 A.d
      have hlg := hi.lg
      have hls := hi.ls
      have HB1 := Lib.hid (show Sn.length ≤ 100000 by omega)
      have HB2 := Lib.hid (show G.length ≤ 100000 by omega)
      have ZI : ∀ x, Value.int .i64 x = .int .i64 x := fun _ => rfl
      clear ZI
      rcases way A hi (T.linkLe (i := 0) rfl) with ⟨m, q1, q2, s', hr, hn, hq, hcs, hcs', hop, hwi⟩ | ⟨m, q1, q2, s', hr, hn, hq, hcs, hcs', hop, hwi⟩ | ⟨r, f2, s', hr, hr', hf, hf2, hcs, hcs', hop, hwi⟩ | ⟨s', hr, hcs', hLs, hop, hwi⟩ | ⟨s', hr, hcs', hop, hwi⟩ | ⟨s', er, hr, b, hbs, hcs', hLs, hop, hwi⟩ | ⟨er, r, hr, hr', he, b, hbs, hLs, hop, hwi⟩
      · -- delivered
        obtain rfl : bc = false := by rw [← hcb, hcs]
        rw [hr] at hb
        have HOP := Lib.hid (show s.op A = (s', ((q1, q2) : Pk), 0) from hop)
        have FIN := Lib.hid (show ∀ wz a4 c4 a7 c7 g, Tog w (fun _ => False) wz [kLink 53 p s', kPks (.slice a1 Sn.length c1) Sn, kPks (.slice a4 (G.length + 1) c4) (G ++ [(q1, q2)]), kPks (.slice a7 s.L.length c7) s.L, kHeap g (.cells #[.int .i64 q1, .string q2] 30 (0, 0))] → _ from fun wz a4 c4 a7 c7 g T => NX.out wz a1 a4 Sn.length c1 (G.length + 1) c4 false ⟨s', _, Sn, hwi, hcs', rfl, by simp, T.pick [0, 1, 2] (by decide) rfl⟩)
        clear hlt hk w1 T HT hA hc hi hop hlg hls hcb ok hab hwi hr hq hn hcs hcs'
        go_wp2_with (first
          | (go_at_call 18; refine XL.out.mono ?_; rintro e w7 ⟨a7, c7, rfl, t⟩; obtain ⟨e0, e1, e2⟩ := ARG.out _ _ t; have D1 := Lib.hid (DO.out _ _ _ _ _ _ HOP.out t); clear t XL)
          | (go_at_call 13; refine D1.out.mono ?_; rintro e w8 ⟨rfl, t⟩; obtain ⟨e3, e4, e5⟩ := ARG.out _ _ t; have x0 := t.cellAt (j := 4) rfl 0 rfl; have x1 := t.cellAt (j := 4) rfl 1 rfl; have D2 := Lib.hid t; clear t D1)
          | (at_builtin; refine D2.out.list_pk rfl _ _ rfl 2 rfl ((q1, q2) : Pk) rfl rfl (by simp) HB2.out ?_; intro a4 c4 w5 T5 hs5; have R := Lib.hid (FIN.out _ _ _ _ _ _ T5); clear T5 hs5 D2))
        go_roundw
        case rel => first | exact R.out | (rw [W1.out]; exact R.out)
        case measure => first | exact MEAS.out | (rw [W1.out]; exact MEAS.out)
      · -- doubled
        obtain rfl : bc = false := by rw [← hcb, hcs]
        rw [hr] at hb
        have HOP := Lib.hid (show s.op A = (s', ((0, ⟨#[]⟩) : Pk), 0) from hop)
        have HQ := Lib.hid hq
        have HN := Lib.hid hn
        have hms := (List.getElem?_eq_some_iff.1 hq).1
        have g3 : (m : Int) < (s.L.length : Int) := by omega
        have g4 : (0 : Int) ≤ (m : Int) := by omega
        have FIN := Lib.hid (show ∀ wz a4 c4 a7 c7 g, Tog w (fun _ => False) wz [kLink 53 p s', kPks (.slice a4 (Sn.length + 1) c4) (Sn ++ [(q1, q2)]), kPks (.slice a2 G.length c2) G, kPks (.slice a7 s.L.length c7) s.L, kHeap g (.cells #[.int .i64 0, .string ⟨#[]⟩] 30 (0, 0))] → _ from fun wz a4 c4 a7 c7 g T => NX.out wz a4 a2 (Sn.length + 1) c4 G.length c2 false ⟨s', G, _, hwi, hcs', by simp, rfl, T.pick [0, 1, 2] (by decide) rfl⟩)
        clear hlt hk w1 T HT hA hc hi hop hlg hls hcb ok hab hwi hr hq hn hcs hcs' hms
        go_wp2_with (first
          | (go_at_call 18; refine XL.out.mono ?_; rintro e w7 ⟨a7, c7, rfl, t⟩; obtain ⟨g7, c9, hv7, _, _⟩ := t.pkAt (i := 3) rfl HQ.out; have hv8 := (Value.slice.inj hv7).1; subst hv8; obtain ⟨e0, e1, e2⟩ := ARG.out _ _ t; have D1 := Lib.hid (DO.out _ _ _ _ _ _ HOP.out t); clear t XL)
          | (go_at_call 13; refine D1.out.mono ?_; rintro e w8 ⟨rfl, t⟩; obtain ⟨e3, e4, e5⟩ := ARG.out _ _ t; have x0 := t.cellAt (j := 4) rfl 0 rfl; have x1 := t.cellAt (j := 4) rfl 1 rfl; obtain ⟨g8, c8, hv9, b0, b1⟩ := t.pkAt (i := 3) rfl HQ.out; have hv8 := (Addr.mk.inj (Option.some.inj (Value.slice.inj hv9).1)).1; subst hv8; clear hv9; rw [HN.out] at e4; have D2 := Lib.hid t; clear t D1)
          | (at_builtin; refine D2.out.list_pk rfl _ _ rfl 1 rfl ((q1, q2) : Pk) rfl rfl (by simp) HB1.out ?_; intro a4 c4 w5 T5 hs5; have R := Lib.hid (FIN.out _ _ _ _ _ _ T5); clear T5 hs5 D2))
        go_roundw
        case rel => first | exact R.out | (rw [W1.out]; exact R.out)
        case measure => first | exact MEAS.out | (rw [W1.out]; exact MEAS.out)
      · -- sent
        obtain rfl : bc = false := by rw [← hcb, hcs]
        rw [hr] at hb
        have HOP := Lib.hid (show s.op A = (s', ((0, ⟨#[]⟩) : Pk), 0) from hop)
        have WF : wrap64 (1 - A.n) = f2 := by rw [hf]; unfold wrap64; omega
        have WF2 : IntKind.i64.wrap (1 - A.n) = f2 := by rw [hf, IntKind.wrap_i64]; omega
        have FIN := Lib.hid (show ∀ wz a4 c4 a7 c7 g, Tog w (fun _ => False) wz [kLink 53 p s', kPks (.slice a4 (Sn.length + 1) c4) (Sn ++ [(f2, A.s)]), kPks (.slice a2 G.length c2) G, kPks (.slice a7 s.L.length c7) s.L, kHeap g (.cells #[.int .i64 0, .string ⟨#[]⟩] 30 (0, 0))] → _ from fun wz a4 c4 a7 c7 g T => NX.out wz a4 a2 (Sn.length + 1) c4 G.length c2 false ⟨s', G, _, hwi, hcs', by simp, rfl, T.pick [0, 1, 2] (by decide) rfl⟩)
        clear hlt hk w1 T HT hA hc hi hop hlg hls hcb ok hab hwi hr hf hf2 hcs hcs'
        rcases hr' with rfl | rfl | rfl
        · go_wp2_with (first
            | (go_at_call 18; refine XL.out.mono ?_; rintro e w7 ⟨a7, c7, rfl, t⟩; obtain ⟨e0, e1, e2⟩ := ARG.out _ _ t; have D1 := Lib.hid (DO.out _ _ _ _ _ _ HOP.out t); clear t XL)
            | (go_at_call 13; refine D1.out.mono ?_; rintro e w8 ⟨rfl, t⟩; obtain ⟨e3, e4, e5⟩ := ARG.out _ _ t; have x0 := t.cellAt (j := 4) rfl 0 rfl; have x1 := t.cellAt (j := 4) rfl 1 rfl; have D2 := Lib.hid t; clear t D1))
          go_region_law (refine D2.out.drew.step_pk (by rfl) _ _ (by rfl) 1 rfl ((f2, A.s) : Pk) (by rfl) (by rfl) (by simp) HB1.out ?_; intro a4 c4 w5 T5 hs5; have R := Lib.hid (FIN.out _ _ _ _ _ _ T5); clear T5 hs5 D2)
          all_goals
            go_wp2
            go_roundw
            case rel => first | exact R.out | (rw [W1.out]; exact R.out)
            case measure => first | exact MEAS.out | (rw [W1.out]; exact MEAS.out)
        · go_wp2_with (first
            | (go_at_call 18; refine XL.out.mono ?_; rintro e w7 ⟨a7, c7, rfl, t⟩; obtain ⟨e0, e1, e2⟩ := ARG.out _ _ t; have D1 := Lib.hid (DO.out _ _ _ _ _ _ HOP.out t); clear t XL)
            | (go_at_call 13; refine D1.out.mono ?_; rintro e w8 ⟨rfl, t⟩; obtain ⟨e3, e4, e5⟩ := ARG.out _ _ t; have x0 := t.cellAt (j := 4) rfl 0 rfl; have x1 := t.cellAt (j := 4) rfl 1 rfl; have D2 := Lib.hid t; clear t D1))
          go_region_law (refine D2.out.drew.step_pk (by rfl) _ _ (by rfl) 1 rfl ((f2, A.s) : Pk) (by rfl) (by rfl) (by simp) HB1.out ?_; intro a4 c4 w5 T5 hs5; have R := Lib.hid (FIN.out _ _ _ _ _ _ T5); clear T5 hs5 D2)
          all_goals
            go_wp2
            go_roundw
            case rel => first | exact R.out | (rw [W1.out]; exact R.out)
            case measure => first | exact MEAS.out | (rw [W1.out]; exact MEAS.out)
        · go_wp2_with (first
            | (go_at_call 18; refine XL.out.mono ?_; rintro e w7 ⟨a7, c7, rfl, t⟩; obtain ⟨e0, e1, e2⟩ := ARG.out _ _ t; have D1 := Lib.hid (DO.out _ _ _ _ _ _ HOP.out t); clear t XL)
            | (go_at_call 13; refine D1.out.mono ?_; rintro e w8 ⟨rfl, t⟩; obtain ⟨e3, e4, e5⟩ := ARG.out _ _ t; have x0 := t.cellAt (j := 4) rfl 0 rfl; have x1 := t.cellAt (j := 4) rfl 1 rfl; have D2 := Lib.hid t; clear t D1))
          go_region_law (refine D2.out.drew.step_pk (by rfl) _ _ (by rfl) 1 rfl ((f2, A.s) : Pk) (by rfl) (by rfl) (by simp) HB1.out ?_; intro a4 c4 w5 T5 hs5; have R := Lib.hid (FIN.out _ _ _ _ _ _ T5); clear T5 hs5 D2)
          all_goals
            go_wp2
            go_roundw
            case rel => first | exact R.out | (rw [W1.out]; exact R.out)
            case measure => first | exact MEAS.out | (rw [W1.out]; exact MEAS.out)
      · -- cut
        rw [hr] at hb
        have HOP := Lib.hid (show s.op A = (s', ((0, ⟨#[]⟩) : Pk), 0) from hop)
        have HL := Lib.hid (show (s'.L.length : Int) = 0 by rw [hLs]; rfl)
        have FIN := Lib.hid (show ∀ wz a7 c7 g, Tog w (fun _ => False) wz [kLink 53 p s', kPks (.slice a1 Sn.length c1) Sn, kPks (.slice a2 G.length c2) G, kPks (.slice a7 s.L.length c7) s.L, kHeap g (.cells #[.int .i64 0, .string ⟨#[]⟩] 30 (0, 0))] → _ from fun wz a7 c7 g T => NX.out wz a1 a2 Sn.length c1 G.length c2 true ⟨s', G, Sn, hwi, hcs', rfl, rfl, T.pick [0, 1, 2] (by decide) rfl⟩)
        clear hlt hk w1 T HT hA hc hi hop hlg hls hcb ok hab hwi hr hcs' hLs
        go_wp2_with (first
          | (go_at_call 18; refine XL.out.mono ?_; rintro e w7 ⟨a7, c7, rfl, t⟩; obtain ⟨e0, e1, e2⟩ := ARG.out _ _ t; have D1 := Lib.hid (DO.out _ _ _ _ _ _ HOP.out t); clear t XL)
          | (go_at_call 13; refine D1.out.mono ?_; rintro e w8 ⟨rfl, t⟩; obtain ⟨e3, e4, e5⟩ := ARG.out _ _ t; have x0 := t.cellAt (j := 4) rfl 0 rfl; have x1 := t.cellAt (j := 4) rfl 1 rfl; have CN := Lib.hid (show Calls Try.prog 15 #[.pointer (some ⟨p, 0, none⟩)] _ (fun e w' => e = .returned (.int .i64 0) ∧ _ = w') from by have := t.xcount (i := 0) rfl; rw [HL.out] at this; exact this); have R := Lib.hid (FIN.out _ _ _ _ t); clear t D1)
          | (go_at_call 15; refine CN.out.mono ?_; rintro e w9 ⟨rfl, rfl⟩; clear CN))
        go_roundw
        case rel => first | exact R.out | (rw [W1.out]; exact R.out)
        case measure => first | exact MEAS.out | (rw [W1.out]; exact MEAS.out)
      · -- joined
        rw [hr] at hb
        have HOP := Lib.hid (show s.op A = (s', ((0, ⟨#[]⟩) : Pk), 0) from hop)
        have FIN := Lib.hid (show ∀ wz a7 c7 g, Tog w (fun _ => False) wz [kLink 53 p s', kPks (.slice a1 Sn.length c1) Sn, kPks (.slice a2 G.length c2) G, kPks (.slice a7 s.L.length c7) s.L, kHeap g (.cells #[.int .i64 0, .string ⟨#[]⟩] 30 (0, 0))] → _ from fun wz a7 c7 g T => NX.out wz a1 a2 Sn.length c1 G.length c2 false ⟨s', G, Sn, hwi, hcs', rfl, rfl, T.pick [0, 1, 2] (by decide) rfl⟩)
        clear hlt hk w1 T HT hA hc hi hop hlg hls hcb ok hab hwi hr hcs'
        go_wp2_with (first
          | (go_at_call 18; refine XL.out.mono ?_; rintro e w7 ⟨a7, c7, rfl, t⟩; obtain ⟨e0, e1, e2⟩ := ARG.out _ _ t; have D1 := Lib.hid (DO.out _ _ _ _ _ _ HOP.out t); clear t XL)
          | (go_at_call 13; refine D1.out.mono ?_; rintro e w8 ⟨rfl, t⟩; obtain ⟨e3, e4, e5⟩ := ARG.out _ _ t; have x0 := t.cellAt (j := 4) rfl 0 rfl; have x1 := t.cellAt (j := 4) rfl 1 rfl; have R := Lib.hid (FIN.out _ _ _ _ t); clear t D1))
        go_roundw
        case rel => first | exact R.out | (rw [W1.out]; exact R.out)
        case measure => first | exact MEAS.out | (rw [W1.out]; exact MEAS.out)
      · -- dropped
        obtain rfl : bc = b := by rw [← hcb, hbs]
        rw [hr] at hb
        have HOP := Lib.hid (show s.op A = (s', ((0, ⟨#[]⟩) : Pk), er) from hop)
        have FIN := Lib.hid (show ∀ wz a7 c7 g, Tog w (fun _ => False) wz [kLink 53 p s', kPks (.slice a1 Sn.length c1) Sn, kPks (.slice a2 G.length c2) G, kPks (.slice a7 s.L.length c7) s.L, kHeap g (.cells #[.int .i64 0, .string ⟨#[]⟩] 30 (0, 0))] → _ from fun wz a7 c7 g T => NX.out wz a1 a2 Sn.length c1 G.length c2 bc ⟨s', G, Sn, hwi, hcs', rfl, rfl, T.pick [0, 1, 2] (by decide) rfl⟩)
        cases bc with
        | true =>
          have HL := Lib.hid (show (s'.L.length : Int) = 0 by rw [hLs rfl]; rfl)
          clear hlt hk w1 T HT hA hc hi hop hlg hls hcb ok hab hwi hr hcs' hLs hbs
          go_wp2_with (first
            | (go_at_call 18; refine XL.out.mono ?_; rintro e w7 ⟨a7, c7, rfl, t⟩; obtain ⟨e0, e1, e2⟩ := ARG.out _ _ t; have D1 := Lib.hid (DO.out _ _ _ _ _ _ HOP.out t); clear t XL)
            | (go_at_call 13; refine D1.out.mono ?_; rintro e w8 ⟨rfl, t⟩; obtain ⟨e3, e4, e5⟩ := ARG.out _ _ t; have x0 := t.cellAt (j := 4) rfl 0 rfl; have x1 := t.cellAt (j := 4) rfl 1 rfl; have CN := Lib.hid (show Calls Try.prog 15 #[.pointer (some ⟨p, 0, none⟩)] _ (fun e w' => e = .returned (.int .i64 0) ∧ _ = w') from by have := t.xcount (i := 0) rfl; rw [HL.out] at this; exact this); have R := Lib.hid (FIN.out _ _ _ _ t); clear t D1)
            | (go_at_call 15; refine CN.out.mono ?_; rintro e w9 ⟨rfl, rfl⟩; clear CN))
          go_roundw
          case rel => first | exact R.out | (rw [W1.out]; exact R.out)
          case measure => first | exact MEAS.out | (rw [W1.out]; exact MEAS.out)
        | false =>
          clear hlt hk w1 T HT hA hc hi hop hlg hls hcb ok hab hwi hr hcs' hLs hbs
          go_wp2_with (first
            | (go_at_call 18; refine XL.out.mono ?_; rintro e w7 ⟨a7, c7, rfl, t⟩; obtain ⟨e0, e1, e2⟩ := ARG.out _ _ t; have D1 := Lib.hid (DO.out _ _ _ _ _ _ HOP.out t); clear t XL)
            | (go_at_call 13; refine D1.out.mono ?_; rintro e w8 ⟨rfl, t⟩; obtain ⟨e3, e4, e5⟩ := ARG.out _ _ t; have x0 := t.cellAt (j := 4) rfl 0 rfl; have x1 := t.cellAt (j := 4) rfl 1 rfl; have R := Lib.hid (FIN.out _ _ _ _ t); clear t D1))
          go_roundw
          case rel => first | exact R.out | (rw [W1.out]; exact R.out)
          case measure => first | exact MEAS.out | (rw [W1.out]; exact MEAS.out)
      · -- nothing
        obtain rfl : bc = b := by rw [← hcb, hbs]
        rw [hr] at hb
        have HOP := Lib.hid (show s.op A = (s, ((0, ⟨#[]⟩) : Pk), er) from hop)
        have er0 : (er == 0) = false := beq_eq_false_iff_ne.2 he
        have er1 : (er != 0) = true := by simp [bne, er0]
        have FIN := Lib.hid (show ∀ wz a7 c7 g, Tog w (fun _ => False) wz [kLink 53 p s, kPks (.slice a1 Sn.length c1) Sn, kPks (.slice a2 G.length c2) G, kPks (.slice a7 s.L.length c7) s.L, kHeap g (.cells #[.int .i64 0, .string ⟨#[]⟩] 30 (0, 0))] → _ from fun wz a7 c7 g T => NX.out wz a1 a2 Sn.length c1 G.length c2 bc ⟨s, G, Sn, hwi, hbs, rfl, rfl, T.pick [0, 1, 2] (by decide) rfl⟩)
        cases bc with
        | true =>
          have HL := Lib.hid (show (s.L.length : Int) = 0 by rw [hLs rfl]; rfl)
          clear hlt hk w1 T HT hA hc hi hop hlg hls hcb ok hab hwi hr hLs hbs he
          rcases hr' with rfl | rfl | rfl | rfl | rfl
          · go_wp2_with (first
              | (go_at_call 18; refine XL.out.mono ?_; rintro e w7 ⟨a7, c7, rfl, t⟩; obtain ⟨e0, e1, e2⟩ := ARG.out _ _ t; have D1 := Lib.hid (DO.out _ _ _ _ _ _ HOP.out t); clear t XL)
              | (go_at_call 13; refine D1.out.mono ?_; rintro e w8 ⟨rfl, t⟩; obtain ⟨e3, e4, e5⟩ := ARG.out _ _ t; have x0 := t.cellAt (j := 4) rfl 0 rfl; have x1 := t.cellAt (j := 4) rfl 1 rfl; have CN := Lib.hid (show Calls Try.prog 15 #[.pointer (some ⟨p, 0, none⟩)] _ (fun e w' => e = .returned (.int .i64 0) ∧ _ = w') from by have := t.xcount (i := 0) rfl; rw [HL.out] at this; exact this); have R := Lib.hid (FIN.out _ _ _ _ t); clear t D1)
              | (go_at_call 15; refine CN.out.mono ?_; rintro e w9 ⟨rfl, rfl⟩; clear CN))
            go_roundw
            case rel => first | exact R.out | (rw [W1.out]; exact R.out)
            case measure => first | exact MEAS.out | (rw [W1.out]; exact MEAS.out)
          · go_wp2_with (first
              | (go_at_call 18; refine XL.out.mono ?_; rintro e w7 ⟨a7, c7, rfl, t⟩; obtain ⟨e0, e1, e2⟩ := ARG.out _ _ t; have D1 := Lib.hid (DO.out _ _ _ _ _ _ HOP.out t); clear t XL)
              | (go_at_call 13; refine D1.out.mono ?_; rintro e w8 ⟨rfl, t⟩; obtain ⟨e3, e4, e5⟩ := ARG.out _ _ t; have x0 := t.cellAt (j := 4) rfl 0 rfl; have x1 := t.cellAt (j := 4) rfl 1 rfl; have CN := Lib.hid (show Calls Try.prog 15 #[.pointer (some ⟨p, 0, none⟩)] _ (fun e w' => e = .returned (.int .i64 0) ∧ _ = w') from by have := t.xcount (i := 0) rfl; rw [HL.out] at this; exact this); have R := Lib.hid (FIN.out _ _ _ _ t); clear t D1)
              | (go_at_call 15; refine CN.out.mono ?_; rintro e w9 ⟨rfl, rfl⟩; clear CN))
            go_roundw
            case rel => first | exact R.out | (rw [W1.out]; exact R.out)
            case measure => first | exact MEAS.out | (rw [W1.out]; exact MEAS.out)
          · go_wp2_with (first
              | (go_at_call 18; refine XL.out.mono ?_; rintro e w7 ⟨a7, c7, rfl, t⟩; obtain ⟨e0, e1, e2⟩ := ARG.out _ _ t; have D1 := Lib.hid (DO.out _ _ _ _ _ _ HOP.out t); clear t XL)
              | (go_at_call 13; refine D1.out.mono ?_; rintro e w8 ⟨rfl, t⟩; obtain ⟨e3, e4, e5⟩ := ARG.out _ _ t; have x0 := t.cellAt (j := 4) rfl 0 rfl; have x1 := t.cellAt (j := 4) rfl 1 rfl; have CN := Lib.hid (show Calls Try.prog 15 #[.pointer (some ⟨p, 0, none⟩)] _ (fun e w' => e = .returned (.int .i64 0) ∧ _ = w') from by have := t.xcount (i := 0) rfl; rw [HL.out] at this; exact this); have R := Lib.hid (FIN.out _ _ _ _ t); clear t D1)
              | (go_at_call 15; refine CN.out.mono ?_; rintro e w9 ⟨rfl, rfl⟩; clear CN))
            go_roundw
            case rel => first | exact R.out | (rw [W1.out]; exact R.out)
            case measure => first | exact MEAS.out | (rw [W1.out]; exact MEAS.out)
          · go_wp2_with (first
              | (go_at_call 18; refine XL.out.mono ?_; rintro e w7 ⟨a7, c7, rfl, t⟩; obtain ⟨e0, e1, e2⟩ := ARG.out _ _ t; have D1 := Lib.hid (DO.out _ _ _ _ _ _ HOP.out t); clear t XL)
              | (go_at_call 13; refine D1.out.mono ?_; rintro e w8 ⟨rfl, t⟩; obtain ⟨e3, e4, e5⟩ := ARG.out _ _ t; have x0 := t.cellAt (j := 4) rfl 0 rfl; have x1 := t.cellAt (j := 4) rfl 1 rfl; have CN := Lib.hid (show Calls Try.prog 15 #[.pointer (some ⟨p, 0, none⟩)] _ (fun e w' => e = .returned (.int .i64 0) ∧ _ = w') from by have := t.xcount (i := 0) rfl; rw [HL.out] at this; exact this); have R := Lib.hid (FIN.out _ _ _ _ t); clear t D1)
              | (go_at_call 15; refine CN.out.mono ?_; rintro e w9 ⟨rfl, rfl⟩; clear CN))
            go_roundw
            case rel => first | exact R.out | (rw [W1.out]; exact R.out)
            case measure => first | exact MEAS.out | (rw [W1.out]; exact MEAS.out)
          · go_wp2_with (first
              | (go_at_call 18; refine XL.out.mono ?_; rintro e w7 ⟨a7, c7, rfl, t⟩; obtain ⟨e0, e1, e2⟩ := ARG.out _ _ t; have D1 := Lib.hid (DO.out _ _ _ _ _ _ HOP.out t); clear t XL)
              | (go_at_call 13; refine D1.out.mono ?_; rintro e w8 ⟨rfl, t⟩; obtain ⟨e3, e4, e5⟩ := ARG.out _ _ t; have x0 := t.cellAt (j := 4) rfl 0 rfl; have x1 := t.cellAt (j := 4) rfl 1 rfl; have CN := Lib.hid (show Calls Try.prog 15 #[.pointer (some ⟨p, 0, none⟩)] _ (fun e w' => e = .returned (.int .i64 0) ∧ _ = w') from by have := t.xcount (i := 0) rfl; rw [HL.out] at this; exact this); have R := Lib.hid (FIN.out _ _ _ _ t); clear t D1)
              | (go_at_call 15; refine CN.out.mono ?_; rintro e w9 ⟨rfl, rfl⟩; clear CN))
            go_roundw
            case rel => first | exact R.out | (rw [W1.out]; exact R.out)
            case measure => first | exact MEAS.out | (rw [W1.out]; exact MEAS.out)
        | false =>
          clear hlt hk w1 T HT hA hc hi hop hlg hls hcb ok hab hwi hr hLs hbs he
          rcases hr' with rfl | rfl | rfl | rfl | rfl
          · go_wp2_with (first
              | (go_at_call 18; refine XL.out.mono ?_; rintro e w7 ⟨a7, c7, rfl, t⟩; obtain ⟨e0, e1, e2⟩ := ARG.out _ _ t; have D1 := Lib.hid (DO.out _ _ _ _ _ _ HOP.out t); clear t XL)
              | (go_at_call 13; refine D1.out.mono ?_; rintro e w8 ⟨rfl, t⟩; obtain ⟨e3, e4, e5⟩ := ARG.out _ _ t; have x0 := t.cellAt (j := 4) rfl 0 rfl; have x1 := t.cellAt (j := 4) rfl 1 rfl; have R := Lib.hid (FIN.out _ _ _ _ t); clear t D1))
            go_roundw
            case rel => first | exact R.out | (rw [W1.out]; exact R.out)
            case measure => first | exact MEAS.out | (rw [W1.out]; exact MEAS.out)
          · go_wp2_with (first
              | (go_at_call 18; refine XL.out.mono ?_; rintro e w7 ⟨a7, c7, rfl, t⟩; obtain ⟨e0, e1, e2⟩ := ARG.out _ _ t; have D1 := Lib.hid (DO.out _ _ _ _ _ _ HOP.out t); clear t XL)
              | (go_at_call 13; refine D1.out.mono ?_; rintro e w8 ⟨rfl, t⟩; obtain ⟨e3, e4, e5⟩ := ARG.out _ _ t; have x0 := t.cellAt (j := 4) rfl 0 rfl; have x1 := t.cellAt (j := 4) rfl 1 rfl; have R := Lib.hid (FIN.out _ _ _ _ t); clear t D1))
            go_roundw
            case rel => first | exact R.out | (rw [W1.out]; exact R.out)
            case measure => first | exact MEAS.out | (rw [W1.out]; exact MEAS.out)
          · go_wp2_with (first
              | (go_at_call 18; refine XL.out.mono ?_; rintro e w7 ⟨a7, c7, rfl, t⟩; obtain ⟨e0, e1, e2⟩ := ARG.out _ _ t; have D1 := Lib.hid (DO.out _ _ _ _ _ _ HOP.out t); clear t XL)
              | (go_at_call 13; refine D1.out.mono ?_; rintro e w8 ⟨rfl, t⟩; obtain ⟨e3, e4, e5⟩ := ARG.out _ _ t; have x0 := t.cellAt (j := 4) rfl 0 rfl; have x1 := t.cellAt (j := 4) rfl 1 rfl; have R := Lib.hid (FIN.out _ _ _ _ t); clear t D1))
            go_roundw
            case rel => first | exact R.out | (rw [W1.out]; exact R.out)
            case measure => first | exact MEAS.out | (rw [W1.out]; exact MEAS.out)
          · go_wp2_with (first
              | (go_at_call 18; refine XL.out.mono ?_; rintro e w7 ⟨a7, c7, rfl, t⟩; obtain ⟨e0, e1, e2⟩ := ARG.out _ _ t; have D1 := Lib.hid (DO.out _ _ _ _ _ _ HOP.out t); clear t XL)
              | (go_at_call 13; refine D1.out.mono ?_; rintro e w8 ⟨rfl, t⟩; obtain ⟨e3, e4, e5⟩ := ARG.out _ _ t; have x0 := t.cellAt (j := 4) rfl 0 rfl; have x1 := t.cellAt (j := 4) rfl 1 rfl; have R := Lib.hid (FIN.out _ _ _ _ t); clear t D1))
            go_roundw
            case rel => first | exact R.out | (rw [W1.out]; exact R.out)
            case measure => first | exact MEAS.out | (rw [W1.out]; exact MEAS.out)
          · go_wp2_with (first
              | (go_at_call 18; refine XL.out.mono ?_; rintro e w7 ⟨a7, c7, rfl, t⟩; obtain ⟨e0, e1, e2⟩ := ARG.out _ _ t; have D1 := Lib.hid (DO.out _ _ _ _ _ _ HOP.out t); clear t XL)
              | (go_at_call 13; refine D1.out.mono ?_; rintro e w8 ⟨rfl, t⟩; obtain ⟨e3, e4, e5⟩ := ARG.out _ _ t; have x0 := t.cellAt (j := 4) rfl 0 rfl; have x1 := t.cellAt (j := 4) rfl 1 rfl; have R := Lib.hid (FIN.out _ _ _ _ t); clear t D1))
            go_roundw
            case rel => first | exact R.out | (rw [W1.out]; exact R.out)
            case measure => first | exact MEAS.out | (rw [W1.out]; exact MEAS.out)
    · have g1 : ¬ (k : Int) < (L.length : Int) := by omega
      obtain ⟨s, G, Sn, hi, hcb, hn1, hn2, T⟩ := HT.out
      have h5 := T.linkLe (i := 0) rfl
      have hlg := hi.lg
      have hls := hi.ls
      subst hn1 hn2
      have T1 := T.made 30 2 0 #[] (by simp) (by unfold maxLen; omega)
      have HT1 := Lib.hid (show Tog w (fun _ => False) (wr.alloc (.cells #[] 30)) [kLink 53 p s, kPks (.slice a1 Sn.length c1) Sn, kPks (.slice a2 G.length c2) G, kPks (.slice (some ⟨wr.heap.size, 0, none⟩) 0 0) []] from T1)
      have HS1 := Lib.hid (T1.srcPks (i := 2) rfl)
      have HB1 := Lib.hid (show G.length ≤ 100000 by omega)
      have HB2 := Lib.hid (show G.length + s.L.length ≤ 100000 by omega)
      have HL2 := Lib.hid (show G.length + s.L.length = ([] ++ G).length + s.L.length by simp)
      have XL := Lib.hid (show ∀ wz a4 c4, Tog w (fun _ => False) wz [kLink 53 p s, kPks (.slice a1 Sn.length c1) Sn, kPks (.slice a2 G.length c2) G, kPks (.slice a4 G.length c4) ([] ++ G)] → _ from fun wz a4 c4 T => T.xlist (i := 0) rfl)
      have FIN := Lib.hid (show ∀ wz a4 c4 a5 c5, Tog w (fun _ => False) wz [kLink 53 p s, kPks (.slice a1 Sn.length c1) Sn, kPks (.slice a2 G.length c2) G, kPks (.slice a4 (G.length + s.L.length) c4) ([] ++ G ++ s.L), kPks (.slice a5 s.L.length c5) s.L] → ∃ AL : List Pk, AL.length = G.length + s.L.length ∧ (∀ q, cnt AL q ≤ cnt Sn q) ∧ (∀ q ∈ AL, q.1 = 0 ∨ q.1 = 1) ∧ Tog w (fun _ => False) wz [kPks (.slice a4 (G.length + s.L.length) c4) AL, kPks (.slice a1 Sn.length c1) Sn] from fun wz a4 c4 a5 c5 T => ⟨G ++ s.L, by simp, hi.n, hi.t, T.pick [3, 1] (by decide) rfl⟩)
      have hsum : G.length + s.L.length ≤ 700 := by omega
      have hsn : Sn.length ≤ 700 := by omega
      clear hlt hk T HT hi hlg hls hcb T1 h5 hL H
      go_wp2_with (first
        | (at_builtin; refine HT1.out.list_pks rfl _ _ rfl 3 rfl (M := G) HS1.out rfl rfl G.length (by simp) HB1.out ?_; intro a4 c4 w5 T5 hs5; have XL2 := Lib.hid (XL.out _ _ _ T5); clear T5 hs5 HT1 XL)
        | (go_at_call 18; refine XL2.out.mono ?_; rintro e w6 ⟨a5, c5, rfl, t⟩; have HT2 := Lib.hid t; have HS2 := Lib.hid (t.srcPks (i := 4) rfl); clear t XL2)
        | (at_builtin; refine HT2.out.list_pks rfl _ _ rfl 3 rfl (M := s.L) HS2.out rfl rfl (G.length + s.L.length) HL2.out HB2.out ?_; intro a6 c6 w7 T7 hs7; obtain ⟨AL, hAL, hcn, hto, hT⟩ := FIN.out _ _ _ _ _ T7; have HA := Lib.hid hAL; have HC := Lib.hid hcn; have HTO := Lib.hid hto; have HT7 := Lib.hid hT; clear T7 hs7 HT2 hAL hcn hto hT FIN))
      generalize G.length + s.L.length = nn at *
      have hA2 := HA.out
      subst hA2
      clear HA HS1 HS2 HB1 HB2 HL2
      rename World => wb
      go_loopw [13] (fun i wr => ∃ j : Nat, j ≤ AL.length ∧ i = .int .i64 (j : Int) ∧ Hid (Tog w (fun _ => False) wr [kPks (.slice a6 AL.length c6) AL, kPks (.slice a1 Sn.length c1) Sn])) (fun i _ => AL.length - (intOf i).toNat)
      case atStart => exact ⟨0, Nat.zero_le _, rfl, HT7⟩
      case round =>
        obtain ⟨j, hj, rfl, HJ⟩ := hrel
        clear HT7
        by_cases hlt : j < AL.length
        · obtain ⟨q1, q2, hq⟩ : ∃ q1 q2, AL[j]? = some (q1, q2) := ⟨AL[j].1, AL[j].2, List.getElem?_eq_getElem hlt⟩
          obtain ⟨gA, cA, hv, x0, x1⟩ := HJ.out.pkAt (i := 0) rfl hq
          have hv2 := (Value.slice.inj hv).1
          subst hv2
          clear hv
          have g0 : (0 : Int) ≤ (j : Int) := by omega
          have g2 : (j : Int) < (AL.length : Int) := by omega
          have w1 : wrap64 ((j : Int) + 1) = (j : Int) + 1 := by unfold wrap64; omega
          have W1 := Lib.hid w1
          have MEAS := Lib.hid (show AL.length - (intOf (.int .i64 ((j : Int) + 1))).toNat < AL.length - (intOf (.int .i64 (j : Int))).toNat by simp [intOf]; omega)
          have NX := Lib.hid (show ∀ wz, Tog w (fun _ => False) wz [kPks (.slice (some ⟨gA, 0, none⟩) AL.length c6) AL, kPks (.slice a1 Sn.length c1) Sn] → ∃ j' : Nat, j' ≤ AL.length ∧ Value.int .i64 ((j : Int) + 1) = .int .i64 (j' : Int) ∧ Hid (Tog w (fun _ => False) wz [kPks (.slice (some ⟨gA, 0, none⟩) AL.length c6) AL, kPks (.slice a1 Sn.length c1) Sn]) from fun wz T => ⟨j + 1, hlt, rfl, Lib.hid T⟩)
          have hcc := HC.out (q1, q2)
          obtain ⟨ca, hca⟩ : ∃ ca, cnt AL (q1, q2) = ca := ⟨_, rfl⟩
          obtain ⟨cs, hcs⟩ : ∃ cs, cnt Sn (q1, q2) = cs := ⟨_, rfl⟩
          rw [hca, hcs] at hcc
          have g3 : ¬ (cs : Int) < (ca : Int) := by omega
          have GT := fun W => gtr_no (ca : Int) (cs : Int) g3 W
          have g4 : decide ((cs : Int) < (ca : Int)) = false := decide_eq_false g3
          have g5 : decide (cs < ca) = false := decide_eq_false (by omega)
          clear g3
          have C1 := count_any (w := wr.drew) (HJ.out.drew.srcPks (i := 0) rfl) q1 q2 (by omega)
          rw [hca] at C1
          have HC1 := Lib.hid C1
          have TW := Lib.hid (show ∀ w8, Below wr.drew.heap.size wr.drew w8 → (w8.cell? ⟨gA, j * 2, none⟩ = some (.int .i64 q1) ∧ w8.cell? ⟨gA, j * 2 + 1, none⟩ = some (.string q2)) ∧ Tog w (fun _ => False) w8 [kPks (.slice (some ⟨gA, 0, none⟩) AL.length c6) AL, kPks (.slice a1 Sn.length c1) Sn] ∧ Calls Try.prog 19 #[.slice a1 Sn.length c1, .agg #[.int .i64 q1, .string q2]] w8 (fun e w' => e = .returned (.int .i64 (cs : Int)) ∧ Below w8.heap.size w8 w') from fun w8 b8 => by
            have T8 := HJ.out.drew.on b8
            obtain ⟨gB, cB, hv, y0, y1⟩ := T8.pkAt (i := 0) rfl hq
            have hv2 := (Addr.mk.inj (Option.some.inj (Value.slice.inj hv).1)).1
            subst hv2
            have C2 := count_any (T8.srcPks (i := 1) rfl) q1 q2 (by omega)
            rw [hcs] at C2
            exact ⟨⟨y0, y1⟩, T8, C2⟩)
          have TW2 := Lib.hid (show ∀ w8 w9, Tog w (fun _ => False) w8 [kPks (.slice (some ⟨gA, 0, none⟩) AL.length c6) AL, kPks (.slice a1 Sn.length c1) Sn] → Below w8.heap.size w8 w9 → (w9.cell? ⟨gA, j * 2, none⟩ = some (.int .i64 q1) ∧ w9.cell? ⟨gA, j * 2 + 1, none⟩ = some (.string q2)) ∧ Tog w (fun _ => False) w9 [kPks (.slice (some ⟨gA, 0, none⟩) AL.length c6) AL, kPks (.slice a1 Sn.length c1) Sn] from fun w8 w9 T b9 => by
            have T9 := T.on b9
            obtain ⟨gB, cB, hv, y0, y1⟩ := T9.pkAt (i := 0) rfl hq
            have hv2 := (Addr.mk.inj (Option.some.inj (Value.slice.inj hv).1)).1
            subst hv2
            exact ⟨⟨y0, y1⟩, T9⟩)
          have hto : q1 = 0 ∨ q1 = 1 := HTO.out (q1, q2) (List.mem_of_getElem? hq)
          clear hq HJ hcc hca hcs C1 hlt hj w1
          rcases hto with rfl | rfl
          · go_wp2_with fail
            refine wp_region_held_drew (S := (fun w' => w'.cell? ⟨gA, j * 2, none⟩ = some (.int .i64 0) ∧ w'.cell? ⟨gA, j * 2 + 1, none⟩ = some (.string q2) ∧ (binOp .gtr 3 (.int .i64 (ca : Int)) (.int .i64 (cs : Int))).run Try.prog w' = .ok (.bool false) w')) (by kernel_rfl) ?_ (fun hHeld => ?_)
            · exact ⟨x0, x1, GT _⟩
            refine wpAnyH_take (i := 0) (v := ?_) rfl (by kernel_rfl) (by kernel_rfl) (by kernel_rfl) (fun _ _ _ h => h) (Or.inl ⟨by rfl, ?_⟩) (by assumption) ?_
            rotate_left
            · (intro w hSw; (try dsimp only at hSw); go_simp; try with_reducible rfl)
            (try simp only [List.getElem_toArray, List.getElem_cons_zero, List.getElem_cons_succ, Act.put, List.setIfInBounds_toArray, List.set_cons_zero, List.set_cons_succ])
            refine wpAnyH_take (i := 1) (v := ?_) rfl (by kernel_rfl) (by kernel_rfl) (by kernel_rfl) (fun _ _ _ h => h) (Or.inl ⟨by rfl, ?_⟩) (by assumption) ?_
            rotate_left
            · (intro w hSw; (try dsimp only at hSw); go_simp; try with_reducible rfl)
            (try simp only [List.getElem_toArray, List.getElem_cons_zero, List.getElem_cons_succ, Act.put, List.setIfInBounds_toArray, List.set_cons_zero, List.set_cons_succ])
            refine wpAnyH_take (i := 2) (v := ?_) rfl (by kernel_rfl) (by kernel_rfl) (by kernel_rfl) (fun _ _ _ h => h) (Or.inl ⟨by rfl, ?_⟩) (by assumption) ?_
            rotate_left
            · (intro w hSw; (try dsimp only at hSw); go_simp; try with_reducible rfl)
            (try simp only [List.getElem_toArray, List.getElem_cons_zero, List.getElem_cons_succ, Act.put, List.setIfInBounds_toArray, List.set_cons_zero, List.set_cons_succ])
            refine wpAnyH_take (i := 3) (v := ?_) rfl (by kernel_rfl) (by kernel_rfl) (by kernel_rfl) (fun _ _ _ h => h) (Or.inl ⟨by rfl, ?_⟩) (by assumption) ?_
            rotate_left
            · (intro w hSw; (try dsimp only at hSw); go_simp; try with_reducible rfl)
            (try simp only [List.getElem_toArray, List.getElem_cons_zero, List.getElem_cons_succ, Act.put, List.setIfInBounds_toArray, List.set_cons_zero, List.set_cons_succ])
            refine wpAnyH_take (i := 4) (v := ?_) rfl (by kernel_rfl) (by kernel_rfl) (by kernel_rfl) (fun _ _ _ h => h) (Or.inl ⟨by rfl, ?_⟩) (by assumption) ?_
            rotate_left
            · (intro w hSw; (try dsimp only at hSw); go_simp; try with_reducible rfl)
            (try simp only [List.getElem_toArray, List.getElem_cons_zero, List.getElem_cons_succ, Act.put, List.setIfInBounds_toArray, List.set_cons_zero, List.set_cons_succ])
            refine wpAnyH_take (i := 6) (v := ?_) rfl (by kernel_rfl) (by kernel_rfl) (by kernel_rfl) (fun _ _ _ h => h) (Or.inl ⟨by rfl, ?_⟩) (by assumption) ?_
            rotate_left
            · (intro w hSw; (try dsimp only at hSw); go_simp; try with_reducible rfl)
            (try simp only [List.getElem_toArray, List.getElem_cons_zero, List.getElem_cons_succ, Act.put, List.setIfInBounds_toArray, List.set_cons_zero, List.set_cons_succ])
            refine wpAnyH_take (i := 7) (v := ?_) rfl (by kernel_rfl) (by kernel_rfl) (by kernel_rfl) (fun _ _ _ h => h) (Or.inl ⟨by rfl, ?_⟩) (by assumption) ?_
            rotate_left
            · (intro w hSw; (try dsimp only at hSw); go_simp; try with_reducible rfl)
            (try simp only [List.getElem_toArray, List.getElem_cons_zero, List.getElem_cons_succ, Act.put, List.setIfInBounds_toArray, List.set_cons_zero, List.set_cons_succ])
            refine wpAnyH_take (i := 8) (v := ?_) rfl (by kernel_rfl) (by kernel_rfl) (by kernel_rfl) (fun _ _ _ h => h) (Or.inl ⟨by rfl, ?_⟩) (by assumption) ?_
            rotate_left
            · (intro w hSw; (try dsimp only at hSw); go_simp; try with_reducible rfl)
            (try simp only [List.getElem_toArray, List.getElem_cons_zero, List.getElem_cons_succ, Act.put, List.setIfInBounds_toArray, List.set_cons_zero, List.set_cons_succ])
            refine wpAnyH_take (i := 9) (v := ?_) rfl (by kernel_rfl) (by kernel_rfl) (by kernel_rfl) (fun _ _ _ h => h) (Or.inl ⟨by rfl, ?_⟩) (by assumption) ?_
            rotate_left
            · (intro w hSw; (try dsimp only at hSw); go_simp; try with_reducible rfl)
            (try simp only [List.getElem_toArray, List.getElem_cons_zero, List.getElem_cons_succ, Act.put, List.setIfInBounds_toArray, List.set_cons_zero, List.set_cons_succ])
            refine wpAnyH_take (i := 10) (v := ?_) rfl (by kernel_rfl) (by kernel_rfl) (by kernel_rfl) (fun _ _ _ h => h) (Or.inl ⟨by rfl, ?_⟩) (by assumption) ?_
            rotate_left
            · (intro w hSw; (try dsimp only at hSw); go_simp; try with_reducible rfl)
            (try simp only [List.getElem_toArray, List.getElem_cons_zero, List.getElem_cons_succ, Act.put, List.setIfInBounds_toArray, List.set_cons_zero, List.set_cons_succ])
            refine wpAnyH_ready (rs := [5]) (by kernel_rfl) (by simp) ?_
            refine AllReadyH.cons rfl (fun K hK => ?_) AllReadyH.nil
            go_simp
            (go_at_call 19; refine HC1.out.mono ?_; rintro e w8 ⟨rfl, b8⟩; obtain ⟨⟨y0, y1⟩, t8, c8⟩ := TW.out w8 b8; have HT8 := Lib.hid t8; have HC2 := Lib.hid c8; clear HC1 TW t8 c8 b8)
            refine hK.out _ _ ?_ (fun hHeld => ?_)
            · exact ⟨y0, y1, GT _⟩
            clear hK K
            (try simp only [List.getElem_toArray, List.getElem_cons_zero, List.getElem_cons_succ, Act.put, List.setIfInBounds_toArray, List.set_cons_zero, List.set_cons_succ])
            refine wpAnyH_ready (rs := [11]) (by kernel_rfl) (by simp) ?_
            refine AllReadyH.cons rfl (fun K hK => ?_) AllReadyH.nil
            go_simp
            (go_at_call 19; refine HC2.out.mono ?_; rintro e w9 ⟨rfl, b9⟩; obtain ⟨⟨z0, z1⟩, t9⟩ := TW2.out w8 w9 HT8.out b9; have R := Lib.hid (NX.out w9 t9); clear HC2 TW2 HT8 t9 b9)
            refine hK.out _ _ ?_ (fun hHeld => ?_)
            · exact ⟨z0, z1, GT _⟩
            clear hK K
            (try simp only [List.getElem_toArray, List.getElem_cons_zero, List.getElem_cons_succ, Act.put, List.setIfInBounds_toArray, List.set_cons_zero, List.set_cons_succ])
            refine wpAnyH_take (i := 12) (v := ?_) rfl (by kernel_rfl) (by kernel_rfl) (by kernel_rfl) (fun _ _ _ h => h) (Or.inl ⟨by rfl, ?_⟩) (by assumption) ?_
            rotate_left
            · (intro w hSw; (try dsimp only at hSw); go_simp; try with_reducible rfl)
            (try simp only [List.getElem_toArray, List.getElem_cons_zero, List.getElem_cons_succ, Act.put, List.setIfInBounds_toArray, List.set_cons_zero, List.set_cons_succ])
            refine wpAnyH_take (i := 13) (v := ?_) rfl (by kernel_rfl) (by kernel_rfl) (by kernel_rfl) (fun _ _ _ h => h) (Or.inl ⟨by rfl, ?_⟩) (by assumption) ?_
            rotate_left
            · (intro w hSw; (try dsimp only at hSw); go_simp; try with_reducible rfl)
            (try simp only [List.getElem_toArray, List.getElem_cons_zero, List.getElem_cons_succ, Act.put, List.setIfInBounds_toArray, List.set_cons_zero, List.set_cons_succ])
            refine wpAnyH_take (i := 14) (v := ?_) rfl (by kernel_rfl) (by kernel_rfl) (by kernel_rfl) (fun _ _ _ h => h) (Or.inl ⟨by rfl, ?_⟩) (by assumption) ?_
            rotate_left
            · (intro w hSw; (try dsimp only at hSw); go_simp; try with_reducible rfl)
            (try simp only [List.getElem_toArray, List.getElem_cons_zero, List.getElem_cons_succ, Act.put, List.setIfInBounds_toArray, List.set_cons_zero, List.set_cons_succ])
            refine wpAnyH_take (i := 15) (v := ?_) rfl (by kernel_rfl) (by kernel_rfl) (by kernel_rfl) (fun _ _ _ h => h) (Or.inl ⟨by rfl, ?_⟩) (by assumption) ?_
            rotate_left
            · (intro w hSw; (try dsimp only at hSw); go_simp; try with_reducible rfl)
            (try simp only [List.getElem_toArray, List.getElem_cons_zero, List.getElem_cons_succ, Act.put, List.setIfInBounds_toArray, List.set_cons_zero, List.set_cons_succ])
            refine wpAnyH_take (i := 16) (v := ?_) rfl (by kernel_rfl) (by kernel_rfl) (by kernel_rfl) (fun _ _ _ h => h) (Or.inl ⟨by rfl, ?_⟩) (by assumption) ?_
            rotate_left
            · (intro w hSw; (try dsimp only at hSw); go_simp; try with_reducible rfl)
            (try simp only [List.getElem_toArray, List.getElem_cons_zero, List.getElem_cons_succ, Act.put, List.setIfInBounds_toArray, List.set_cons_zero, List.set_cons_succ])
            refine wpAnyH_take (i := 17) (v := ?_) rfl (by kernel_rfl) (by kernel_rfl) (by kernel_rfl) (fun _ _ _ h => h) (Or.inl ⟨by rfl, ?_⟩) (by assumption) ?_
            rotate_left
            · (intro w hSw; (try dsimp only at hSw); go_simp; try with_reducible rfl)
            (try simp only [List.getElem_toArray, List.getElem_cons_zero, List.getElem_cons_succ, Act.put, List.setIfInBounds_toArray, List.set_cons_zero, List.set_cons_succ])
            refine wpAnyH_take (i := 18) (v := ?_) rfl (by kernel_rfl) (by kernel_rfl) (by kernel_rfl) (fun _ _ _ h => h) (Or.inl ⟨by rfl, ?_⟩) (by assumption) ?_
            rotate_left
            · (intro w hSw; (try dsimp only at hSw); go_simp; try with_reducible rfl)
            (try simp only [List.getElem_toArray, List.getElem_cons_zero, List.getElem_cons_succ, Act.put, List.setIfInBounds_toArray, List.set_cons_zero, List.set_cons_succ])
            refine wpAnyH_take (i := 19) (v := ?_) rfl (by kernel_rfl) (by kernel_rfl) (by kernel_rfl) (fun _ _ _ h => h) (Or.inl ⟨by rfl, ?_⟩) (by assumption) ?_
            rotate_left
            · (intro w hSw; (try dsimp only at hSw); go_simp; try with_reducible rfl)
            (try simp only [List.getElem_toArray, List.getElem_cons_zero, List.getElem_cons_succ, Act.put, List.setIfInBounds_toArray, List.set_cons_zero, List.set_cons_succ])
            refine wpAnyH_take (i := 20) (v := ?_) rfl (by kernel_rfl) (by kernel_rfl) (by kernel_rfl) (fun _ _ _ h => h) (Or.inl ⟨by rfl, ?_⟩) (by assumption) ?_
            rotate_left
            · (intro w hSw; (try dsimp only at hSw); go_simp; try with_reducible rfl)
            (try simp only [List.getElem_toArray, List.getElem_cons_zero, List.getElem_cons_succ, Act.put, List.setIfInBounds_toArray, List.set_cons_zero, List.set_cons_succ])
            refine wpAnyH_take (i := 21) (v := undef) rfl (by kernel_rfl) (by kernel_rfl) (by kernel_rfl) (fun _ _ _ h => h) (Or.inr ⟨by rfl, rfl⟩) (by assumption) ?_
            (try simp only [List.getElem_toArray, List.getElem_cons_zero, List.getElem_cons_succ, Act.put, List.setIfInBounds_toArray, List.set_cons_zero, List.set_cons_succ])
            refine wpAnyH_take (i := 22) (v := undef) rfl (by kernel_rfl) (by kernel_rfl) (by kernel_rfl) (fun _ _ _ h => h) (Or.inr ⟨by rfl, rfl⟩) (by assumption) ?_
            (try simp only [List.getElem_toArray, List.getElem_cons_zero, List.getElem_cons_succ, Act.put, List.setIfInBounds_toArray, List.set_cons_zero, List.set_cons_succ])
            refine wpAnyH_take (i := 23) (v := undef) rfl (by kernel_rfl) (by kernel_rfl) (by kernel_rfl) (fun _ _ _ h => h) (Or.inr ⟨by rfl, rfl⟩) (by assumption) ?_
            (try simp only [List.getElem_toArray, List.getElem_cons_zero, List.getElem_cons_succ, Act.put, List.setIfInBounds_toArray, List.set_cons_zero, List.set_cons_succ])
            refine wpAnyH_take (i := 24) (v := undef) rfl (by kernel_rfl) (by kernel_rfl) (by kernel_rfl) (fun _ _ _ h => h) (Or.inr ⟨by rfl, rfl⟩) (by assumption) ?_
            (try simp only [List.getElem_toArray, List.getElem_cons_zero, List.getElem_cons_succ, Act.put, List.setIfInBounds_toArray, List.set_cons_zero, List.set_cons_succ])
            refine wpAnyH_take (i := 25) (v := undef) rfl (by kernel_rfl) (by kernel_rfl) (by kernel_rfl) (fun _ _ _ h => h) (Or.inr ⟨by rfl, rfl⟩) (by assumption) ?_
            (try simp only [List.getElem_toArray, List.getElem_cons_zero, List.getElem_cons_succ, Act.put, List.setIfInBounds_toArray, List.set_cons_zero, List.set_cons_succ])
            refine wpAnyH_take (i := 26) (v := undef) rfl (by kernel_rfl) (by kernel_rfl) (by kernel_rfl) (fun _ _ _ h => h) (Or.inr ⟨by rfl, rfl⟩) (by assumption) ?_
            (try simp only [List.getElem_toArray, List.getElem_cons_zero, List.getElem_cons_succ, Act.put, List.setIfInBounds_toArray, List.set_cons_zero, List.set_cons_succ])
            refine wpAnyH_take (i := 27) (v := ?_) rfl (by kernel_rfl) (by kernel_rfl) (by kernel_rfl) (fun _ _ _ h => h) (Or.inl ⟨by rfl, ?_⟩) (by assumption) ?_
            rotate_left
            · (intro w hSw; (try dsimp only at hSw); go_simp; try with_reducible rfl)
            (try simp only [List.getElem_toArray, List.getElem_cons_zero, List.getElem_cons_succ, Act.put, List.setIfInBounds_toArray, List.set_cons_zero, List.set_cons_succ])
            refine wpAnyH_take (i := 28) (v := ?_) rfl (by kernel_rfl) (by kernel_rfl) (by kernel_rfl) (fun _ _ _ h => h) (Or.inl ⟨by rfl, ?_⟩) (by assumption) ?_
            rotate_left
            · (intro w hSw; (try dsimp only at hSw); go_simp; try with_reducible rfl)
            (try simp only [List.getElem_toArray, List.getElem_cons_zero, List.getElem_cons_succ, Act.put, List.setIfInBounds_toArray, List.set_cons_zero, List.set_cons_succ])
            refine wpAnyH_done (by kernel_rfl) ?_ _
            all_goals
              go_wp2
              go_roundw
              case rel => first | exact R.out | (rw [W1.out]; exact R.out)
              case measure => first | exact MEAS.out | (rw [W1.out]; exact MEAS.out)
          · go_wp2_with fail
            go_region_held3 (fun w' => w'.cell? ⟨gA, j * 2, none⟩ = some (.int .i64 1) ∧ w'.cell? ⟨gA, j * 2 + 1, none⟩ = some (.string q2) ∧ (binOp .gtr 3 (.int .i64 (ca : Int)) (.int .i64 (cs : Int))).run Try.prog w' = .ok (.bool false) w') (first | exact ⟨x0, x1, GT _⟩ | exact ⟨y0, y1, GT _⟩ | exact ⟨z0, z1, GT _⟩) (first | (go_at_call 19; refine HC1.out.mono ?_; rintro e w8 ⟨rfl, b8⟩; obtain ⟨⟨y0, y1⟩, t8, c8⟩ := TW.out w8 b8; have HT8 := Lib.hid t8; have HC2 := Lib.hid c8; clear HC1 TW t8 c8 b8) | (go_at_call 19; refine HC2.out.mono ?_; rintro e w9 ⟨rfl, b9⟩; obtain ⟨⟨z0, z1⟩, t9⟩ := TW2.out w8 w9 HT8.out b9; have R := Lib.hid (NX.out w9 t9); clear HC2 TW2 HT8 t9 b9))
            all_goals
              go_wp2
              go_roundw
              case rel => first | exact R.out | (rw [W1.out]; exact R.out)
              case measure => first | exact MEAS.out | (rw [W1.out]; exact MEAS.out)
        · have g2 : ¬ (j : Int) < (AL.length : Int) := by omega
          have TB := Lib.hid HJ.out.top
          clear hlt hj HJ
          go_wp2
          go_ret
          exact ⟨rfl, TB.out⟩
set_option maxHeartbeats 2000000 in
theorem honest_any {a : Option Addr} {c : Nat} {L : List OpV} (w : World) (h : RowsAt OpV.cells OpV.Ok 3 w.heap.size w a L) :
    Calls Try.prog 4 #[.slice a L.length c] w fun e w' => e = .returned (.bool true) ∧ Below w.heap.size w w' := by
  by_cases hfew : fewB L 200 = true
  · refine honest_in w h ?_ hfew
    have : (L.length : Int) ≤ 200 := by
      unfold fewB at hfew
      rw [Bool.and_eq_true] at hfew
      exact of_decide_eq_true hfew.2
    omega
  · have hf : fewB L 200 = false := by simpa using hfew
    have SM := Lib.hid (small_any w)
    have NEW := Lib.hid (fun (w1 : World) (b : Below w.heap.size w w1) => ((Tog.nil w (fun _ => False)).on b).xnew)
    have FEW := Lib.hid (fun (w1 : World) (b : Below w.heap.size w w1) => few_any (w := w1) (c := c) ⟨h.cells.imp id (fun ⟨x, o, h1, h2, h3⟩ => ⟨x, o, h1, h2, fun i A hA j u hj => (b.cell (p := ⟨x, o + i * 3 + j, none⟩) h2).trans (h3 i A hA j u hj)⟩), h.ok, h.len⟩ 200 h.len)
    rw [hf] at FEW
    clear h hfew
    go_enter Try.func4, Try.ntmps4
    go_wp2_with (first
      | (go_at_call 7; refine SM.out.mono ?_; rintro e w1 ⟨rfl, t⟩; have N1 := Lib.hid (NEW.out w1 t); clear t SM)
      | (go_at_call 8; refine N1.out.mono ?_; rintro e w2 ⟨px, rfl, t⟩; have N3 := Lib.hid (FEW.out w2 t.top); have TB := Lib.hid t.top; clear t N1 FEW)
      | (go_at_call 10; refine N3.out.mono ?_; rintro e w4 ⟨rfl, rfl⟩; clear N3))
    go_ret
    exact ⟨rfl, TB.out⟩
end Go.Proofs.Ytgdcocfekjlhfaa
