/-
  PACKAGE cell: Open.
-/
import Derived.Test.YtdejajpmebgidaaDoorKc
namespace Go.Proofs.YtdejajpmebgidaaDoor
open Go.RowKit Go.Maps WireM DiskM CellM
set_option linter.unusedVariables false
set_option linter.unusedSimpArgs false
set_option maxRecDepth 100000

theorem parse_short (S : ByteArray) (hz : S.size < 5) (w : World) : Calls Tryd.prog 30 #[.string S] w fun e w' => e = .returned (.tuple #[.int .i64 0, .int .i64 0, .bool false]) ∧ Below w.heap.size w w' := by
  have B := Lib.hid (Below.refl w.heap.size w)
  have g5 : (S.size : Int) < 5 := by omega
  go_enter Tryd.func30, Tryd.ntmps30
  go_wp2
  go_ret3
  exact ⟨rfl, B.out⟩
/-- What Open leaves. -/
def OpenPost (T : TypeId) (w0 : World) (l : List Kd) (p : Nat) (f : Int) (r : Option CS × Int) (e : Ending) (w' : World) : Prop :=
  match r.1 with
  | some c => ∃ z, e = .returned (.tuple #[.pointer (some ⟨z, 0, none⟩), .int .i64 r.2]) ∧ Tog w0 w' (l ++ [kCell T z p f c])
  | none => e = .returned (.tuple #[.pointer none, .int .i64 r.2]) ∧ Tog w0 w' l
theorem take5 {N : List UInt8} (h : 5 ≤ N.length) : ∃ b0 b1 b2 b3 b4, N.take 5 = [b0, b1, b2, b3, b4] ∧ at0 N 0 = b0 ∧ num N = num [b0, b1, b2, b3, b4] := by
  match N, h with
  | b0 :: b1 :: b2 :: b3 :: b4 :: r, _ => exact ⟨b0, b1, b2, b3, b4, rfl, rfl, rfl⟩
theorem headZero {N : List UInt8} (h : at0 N 0 = 0) : N.take 5 = [] ∨ ∃ hz : 0 < (bs (N.take 5)).size, ((bs (N.take 5))[0]).toNat = 0 := by
  match N with
  | [] => exact .inl rfl
  | b :: r =>
    right
    have hb : b = 0 := h
    subst hb
    exact ⟨Nat.succ_pos _, rfl⟩
theorem headNot {N : List UInt8} (h : ¬ at0 N 0 = 0) : (bs (N.take 5)).toList.isEmpty = false ∧ ∃ hz : 0 < (bs (N.take 5)).size, ((bs (N.take 5))[0]).toNat ≠ 0 := by
  match N with
  | [] => exact absurd rfl h
  | b :: r =>
    have hb : b ≠ 0 := h
    refine ⟨?_, Nat.succ_pos _, fun e => hb (UInt8.toNat_inj.1 e)⟩
    rw [Lib.toList_data]
    rfl
set_option maxHeartbeats 8000000 in
theorem open_any {w0 w : World} {l : List Kd} (h : Tog w0 w l) (hS : Slots w0) {i p : Nat} {s : St} (hi : l[i]? = some (kDisk p s)) (f : Int) (hf : InI f) :
    Calls Tryd.prog 9 #[.pointer (some ⟨p, 0, none⟩), .int .i64 f] w (OpenPost 61 w0 l p f (openS s f)) := by
  have H := Lib.hid h
  have hI := h.inv hi
  have HF := Lib.hid hf
  have R1 := Lib.hid (h.read hi f 0 5 hf (by unfold InI; omega) (by unfold InI; omega))
  by_cases hb : s.down = true ∨ ¬ isF f
  · obtain ⟨e1, e2⟩ := read_err (a := 0) (n := 5) hb
    have E : openS s f = (none, mayE s f) := by
      unfold openS mayE
      by_cases hd : s.down = true
      · rw [if_pos hd, if_pos hd]
      · rw [if_neg hd, if_neg hd, if_pos (hb.resolve_left hd), if_neg (hb.resolve_left hd)]
    rw [E]
    rw [e2] at R1
    generalize mayE s f = z at *
    have hz : (z != 0) = true := by simpa using e1
    clear E e1 e2 hb hI h hi hf
    go_enter Tryd.func9, Tryd.ntmps9
    go_wp2_with (go_at_call 25; refine R1.out.mono ?_; rintro e w1 ⟨rfl, rfl⟩)
    go_ret2
    exact ⟨rfl, H.out⟩
  have hd : s.down = false := by
    cases hd : s.down
    · rfl
    · exact absurd (.inl hd) hb
  have hff : isF f := Classical.byContradiction fun h => hb (.inr h)
  have EO : openS s f = match openL (s.now f) with | some c => (some c, 0) | none => (none, 2) := by
    unfold openS; rw [if_neg (by simp [hd]), if_neg (fun h => h hff)]
    cases openL (s.now f) <;> rfl
  rw [EO]
  rw [read_up hd hff (by omega) (by omega)] at R1
  rw [show (0 : Int).toNat = 0 by rfl, show (5 : Int).toNat = 5 by rfl, List.drop_zero] at R1
  have RV := Lib.hid (fun W l' (hW : Tog w0 W l') (hi' : l'[i]? = some (kDisk p s)) (k : Nat) (n : Nat) (hn : n ≤ 65536) => by
    have := hW.read hi' f (slotAt k) n hf (by have := slotAt_pos k; unfold InI; omega) (by unfold InI; omega)
    rw [read_up hd hff (by omega) (by omega), Int.toNat_natCast, Int.toNat_natCast] at this
    exact this)
  have hil : i < l.length := (List.getElem?_eq_some_iff.1 hi).1
  have HI := Lib.hid (show ∀ x, (l ++ [x])[i]? = some (kDisk p s) from fun x => by rw [List.getElem?_append_left hil]; exact hi)
  have GL := Lib.hid (fun W (l' : List Kd) (hW : Tog w0 W l') => hS.below hW.bel)
  have MADE := Lib.hid (h.cmade (T := 61) p f ⟨0, [], false⟩)
  generalize s.now f = N at *
  clear EO hI hb hi hil hS
  by_cases h0 : at0 N 0 = 0
  · rw [openL_empty h0]
    rcases headZero h0 with e | ⟨hz, e⟩
    · rw [e, show bs [] = ⟨#[]⟩ from rfl] at R1
      clear h0 e h hf hd hff RV HI
      go_enter Tryd.func9, Tryd.ntmps9
      go_wp2_with (go_at_call 25; refine R1.out.mono ?_; rintro e w1 ⟨rfl, rfl⟩)
      go_ret2
      exact ⟨_, rfl, MADE.out⟩
    · have hne : (bs (N.take 5)).toList.isEmpty = false ∨ True := .inr trivial
      generalize bs (N.take 5) = S at *
      have e' : ((S[0].toNat : Nat) : Int) = 0 := by omega
      clear h0 e h hf hd hff RV HI hne
      go_enter Tryd.func9, Tryd.ntmps9
      go_wp2_with (go_at_call 25; refine R1.out.mono ?_; rintro e w1 ⟨rfl, rfl⟩)
      all_goals
        go_ret2
        exact ⟨_, rfl, MADE.out⟩
  obtain ⟨hne, hz, hnz⟩ := headNot h0
  have e' : ((((bs (N.take 5))[0]).toNat : Int) == 0) = false := by rw [beq_eq_false_iff_ne]; omega
  have CS0 := Lib.hid (fun W (hW : Tog w0 W (l ++ [kCell 61 w.heap.size p f ⟨0, [], false⟩])) => hW.cellF (List.getElem?_concat_length ..))
  by_cases h5 : N.length < 5
  · have E : openL N = none := by unfold openL; rw [if_neg h0, if_pos h5]
    rw [E]
    have PS := Lib.hid (fun W => parse_short (bs (N.take 5)) (by show (N.take 5).length < 5; rw [List.length_take]; omega) W)
    generalize bs (N.take 5) = S at *
    clear E h0 h5 hnz h hf hd hff RV HI
    go_enter Tryd.func9, Tryd.ntmps9
    go_wp2_with (first
      | (go_at_call 25; refine R1.out.mono ?_; rintro e w1 ⟨rfl, rfl⟩)
      | (go_at_call 30; refine (PS.out _).mono ?_; rintro e w2 ⟨rfl, b2⟩; have F2 := CS0.out w2 (MADE.out.on (by exact b2)); have y2 := F2.c2; have z2 := F2.fz 2; have T2 := Lib.hid (fun v => H.out.on ((((Below.refl _ w).alloc (Nat.le_refl _) (.cells (ccells p f ⟨0, [], false⟩) 61)).trans (b2.mono (by simp))).setCell (p := ⟨w.heap.size, 2, none⟩) (Nat.le_refl _) v)); clear F2 b2))
    go_ret2
    exact ⟨rfl, T2.out _⟩
  obtain ⟨b0, b1, b2, b3, b4, e5, ea, en⟩ := take5 (N := N) (by omega)
  have PH := Lib.hid (fun W => parseHeader_any b0 b1 b2 b3 b4 W)
  rw [← e5] at PH
  have en2 : num N = num (N.take 5) := by rw [e5]; exact en
  rw [← en2] at PH
  clear en2
  have hOL : openL N = if (b0.toNat = 1 ∨ b0.toNat = 2) ∧ num N ≤ 65536 then (if ((N.drop (slotAt b0.toNat)).take (num N)).length < num N then none else some ⟨b0.toNat, (N.drop (slotAt b0.toNat)).take (num N), false⟩) else none := by
    unfold openL; rw [if_neg h0, if_neg h5, ea]
  rw [hOL]
  generalize num N = n at *
  generalize bs (N.take 5) = S at *
  have SET2 := Lib.hid (fun W (hW : Tog w0 W (l ++ [kCell 61 w.heap.size p f ⟨0, [], false⟩])) (k : Nat) => show Tog w0 (W.setCell ⟨w.heap.size, 2, none⟩ (.int .i64 (k : Int))) (l ++ [kCell 61 w.heap.size p f ⟨k, [], false⟩]) from by
    have := hW.cset (List.getElem?_concat_length ..) 2 (.int .i64 (k : Int)) ⟨k, [], false⟩ rfl
    rw [List.set_append_right _ _ (Nat.le_refl _), Nat.sub_self] at this
    exact this)
  have SET3 := Lib.hid (fun W (k : Nat) (v : List UInt8) (hW : Tog w0 W (l ++ [kCell 61 w.heap.size p f ⟨k, [], false⟩])) => show Tog w0 (W.setCell ⟨w.heap.size, 3, none⟩ (.string (bs v))) (l ++ [kCell 61 w.heap.size p f ⟨k, v, false⟩]) from by
    have := hW.cset (List.getElem?_concat_length ..) 3 (.string (bs v)) ⟨k, v, false⟩ rfl
    rw [List.set_append_right _ _ (Nat.le_refl _), Nat.sub_self] at this
    exact this)
  have CSK := Lib.hid (fun W k (hW : Tog w0 W (l ++ [kCell 61 w.heap.size p f ⟨k, [], false⟩])) => hW.cellF (List.getElem?_concat_length ..))
  have BEL := Lib.hid (show ∀ W, Below (w.alloc (.cells (ccells p f ⟨0, [], false⟩) 61)).heap.size (w.alloc (.cells (ccells p f ⟨0, [], false⟩) 61)) W → Below w.heap.size w W from fun W b => ((Below.refl _ w).alloc (Nat.le_refl _) (.cells (ccells p f ⟨0, [], false⟩) 61)).trans (b.mono (by simp)))
  have LT := Lib.hid ((GL.out w l H.out).lt)
  clear hOL h0 h5 ea en e5 hnz h hf
  by_cases hv : (b0.toNat = 1 ∨ b0.toNat = 2) ∧ n ≤ 65536
  · rw [if_pos hv]
    rw [decide_eq_true hv] at PH
    obtain ⟨hk, hn⟩ := hv
    have HN := Lib.hid hn
    rcases hk with hk | hk
    · rw [hk] at PH ⊢
      have eA : slotAt 1 = 64 := rfl
      have RK := Lib.hid (fun W hW => RV.out W (l ++ [kCell 61 w.heap.size p f ⟨1, [], false⟩]) hW (HI.out _) 1 n HN.out)
      rw [eA] at RK ⊢
      obtain ⟨V, hV⟩ : ∃ V, V = (N.drop 64).take n := ⟨_, rfl⟩
      rw [← hV] at RK ⊢
      have hVs : (bs V).size = V.length := rfl
      have walk : ∀ (b : Bool), decide (V.length < n) = b → Calls Tryd.prog 9 #[.pointer (some ⟨p, 0, none⟩), .int .i64 f] w (OpenPost 61 w0 l p f (match (if V.length < n then none else some (⟨1, V, false⟩ : CS)) with | some c => (some c, 0) | none => (none, 2))) := by
        intro b hbv
        clear hd hff RV HI hV
        cases b with
        | true =>
          rw [if_pos (of_decide_eq_true hbv)]
          have gv : ((bs V).size : Int) < (n : Int) := by have := of_decide_eq_true hbv; omega
          clear hbv
          go_enter Tryd.func9, Tryd.ntmps9
          go_wp2_with (first
            | (go_at_call 25; refine R1.out.mono ?_; rintro e w1 ⟨rfl, rfl⟩; clear R1)
            | (go_at_call 30; refine (PH.out _).mono ?_; rintro e w2 ⟨rfl, b2⟩; have F2 := CS0.out w2 (MADE.out.on (by exact b2)); have y2 := F2.c2; have y3 := F2.c3; have z2 := F2.fz 2; have z3 := F2.fz 3; have G2 := GL.out w2 _ (MADE.out.on (by exact b2)); have g1 := G2.one; have g2 := G2.two; have n1 : ¬ w.heap.size = 0 := fun e => (by have := LT.out; omega); have n2 : ¬ 0 = w.heap.size := fun e => n1 e.symm; have T2 := Lib.hid (SET2.out w2 (MADE.out.on (by exact b2)) 1); have U2 := Lib.hid (fun v u => H.out.on (((BEL.out w2 (by exact b2)).setCell (p := ⟨w.heap.size, 2, none⟩) (Nat.le_refl _) v).setCell (p := ⟨w.heap.size, 3, none⟩) (Nat.le_refl _) u)); clear F2 b2 G2)
            | (go_at_call 25; refine (RK.out _ T2.out).mono ?_; rintro e w3 ⟨rfl, rfl⟩))
          go_ret2
          exact ⟨rfl, U2.out _ _⟩
        | false =>
          rw [if_neg (of_decide_eq_false hbv)]
          have gv : ¬ ((bs V).size : Int) < (n : Int) := by have := of_decide_eq_false hbv; omega
          clear hbv
          go_enter Tryd.func9, Tryd.ntmps9
          go_wp2_with (first
            | (go_at_call 25; refine R1.out.mono ?_; rintro e w1 ⟨rfl, rfl⟩; clear R1)
            | (go_at_call 30; refine (PH.out _).mono ?_; rintro e w2 ⟨rfl, b2⟩; have F2 := CS0.out w2 (MADE.out.on (by exact b2)); have y2 := F2.c2; have y3 := F2.c3; have z2 := F2.fz 2; have z3 := F2.fz 3; have G2 := GL.out w2 _ (MADE.out.on (by exact b2)); have g1 := G2.one; have g2 := G2.two; have n1 : ¬ w.heap.size = 0 := fun e => (by have := LT.out; omega); have n2 : ¬ 0 = w.heap.size := fun e => n1 e.symm; have T2 := Lib.hid (SET2.out w2 (MADE.out.on (by exact b2)) 1); clear F2 b2 G2)
            | (go_at_call 25; refine (RK.out _ T2.out).mono ?_; rintro e w3 ⟨rfl, rfl⟩))
          go_ret2
          exact ⟨_, rfl, SET3.out _ 1 V T2.out⟩
      exact walk _ rfl
    · rw [hk] at PH ⊢
      have eA : slotAt 2 = 131072 := rfl
      have RK := Lib.hid (fun W hW => RV.out W (l ++ [kCell 61 w.heap.size p f ⟨2, [], false⟩]) hW (HI.out _) 2 n HN.out)
      rw [eA] at RK ⊢
      obtain ⟨V, hV⟩ : ∃ V, V = (N.drop 131072).take n := ⟨_, rfl⟩
      rw [← hV] at RK ⊢
      have hVs : (bs V).size = V.length := rfl
      have walk : ∀ (b : Bool), decide (V.length < n) = b → Calls Tryd.prog 9 #[.pointer (some ⟨p, 0, none⟩), .int .i64 f] w (OpenPost 61 w0 l p f (match (if V.length < n then none else some (⟨2, V, false⟩ : CS)) with | some c => (some c, 0) | none => (none, 2))) := by
        intro b hbv
        clear hd hff RV HI hV
        cases b with
        | true =>
          rw [if_pos (of_decide_eq_true hbv)]
          have gv : ((bs V).size : Int) < (n : Int) := by have := of_decide_eq_true hbv; omega
          clear hbv
          go_enter Tryd.func9, Tryd.ntmps9
          go_wp2_with (first
            | (go_at_call 25; refine R1.out.mono ?_; rintro e w1 ⟨rfl, rfl⟩; clear R1)
            | (go_at_call 30; refine (PH.out _).mono ?_; rintro e w2 ⟨rfl, b2⟩; have F2 := CS0.out w2 (MADE.out.on (by exact b2)); have y2 := F2.c2; have y3 := F2.c3; have z2 := F2.fz 2; have z3 := F2.fz 3; have G2 := GL.out w2 _ (MADE.out.on (by exact b2)); have g1 := G2.one; have g2 := G2.two; have n1 : ¬ w.heap.size = 0 := fun e => (by have := LT.out; omega); have n2 : ¬ 0 = w.heap.size := fun e => n1 e.symm; have T2 := Lib.hid (SET2.out w2 (MADE.out.on (by exact b2)) 2); have U2 := Lib.hid (fun v u => H.out.on (((BEL.out w2 (by exact b2)).setCell (p := ⟨w.heap.size, 2, none⟩) (Nat.le_refl _) v).setCell (p := ⟨w.heap.size, 3, none⟩) (Nat.le_refl _) u)); clear F2 b2 G2)
            | (go_at_call 25; refine (RK.out _ T2.out).mono ?_; rintro e w3 ⟨rfl, rfl⟩))
          go_ret2
          exact ⟨rfl, U2.out _ _⟩
        | false =>
          rw [if_neg (of_decide_eq_false hbv)]
          have gv : ¬ ((bs V).size : Int) < (n : Int) := by have := of_decide_eq_false hbv; omega
          clear hbv
          go_enter Tryd.func9, Tryd.ntmps9
          go_wp2_with (first
            | (go_at_call 25; refine R1.out.mono ?_; rintro e w1 ⟨rfl, rfl⟩; clear R1)
            | (go_at_call 30; refine (PH.out _).mono ?_; rintro e w2 ⟨rfl, b2⟩; have F2 := CS0.out w2 (MADE.out.on (by exact b2)); have y2 := F2.c2; have y3 := F2.c3; have z2 := F2.fz 2; have z3 := F2.fz 3; have G2 := GL.out w2 _ (MADE.out.on (by exact b2)); have g1 := G2.one; have g2 := G2.two; have n1 : ¬ w.heap.size = 0 := fun e => (by have := LT.out; omega); have n2 : ¬ 0 = w.heap.size := fun e => n1 e.symm; have T2 := Lib.hid (SET2.out w2 (MADE.out.on (by exact b2)) 2); clear F2 b2 G2)
            | (go_at_call 25; refine (RK.out _ T2.out).mono ?_; rintro e w3 ⟨rfl, rfl⟩))
          go_ret2
          exact ⟨_, rfl, SET3.out _ 2 V T2.out⟩
      exact walk _ rfl
  · rw [if_neg hv]
    rw [decide_eq_false hv] at PH
    clear hv hd hff RV HI SET3 CSK
    generalize b0.toNat = k at *
    go_enter Tryd.func9, Tryd.ntmps9
    go_wp2_with (first
      | (go_at_call 25; refine R1.out.mono ?_; rintro e w1 ⟨rfl, rfl⟩)
      | (go_at_call 30; refine (PH.out _).mono ?_; rintro e w2 ⟨rfl, b2⟩; have F2 := CS0.out w2 (MADE.out.on (by exact b2)); have y2 := F2.c2; have z2 := F2.fz 2; have T2 := Lib.hid (fun v => H.out.on ((BEL.out w2 (by exact b2)).setCell (p := ⟨w.heap.size, 2, none⟩) (Nat.le_refl _) v)); clear F2 b2))
    go_ret2
    exact ⟨rfl, T2.out _⟩
end Go.Proofs.YtdejajpmebgidaaDoor
