/-
  THE REFERENCE'S CELL: Open; Set, whole.
-/
import Derived.Test.YtdejajpmebgidaaDoorKs
import Derived.Test.YtdejajpmebgidaaDoorKf
namespace Go.Proofs.YtdejajpmebgidaaDoor
open Go.RowKit Go.Maps WireM DiskM CellM
set_option linter.unusedVariables false
set_option linter.unusedSimpArgs false
set_option maxRecDepth 100000

theorem headZero2 {N : List UInt8} (h : at0 N 0 = 0) : N.take 5 = [] ∨ ((bs (N.take 5)).toList.isEmpty = false ∧ ∃ hz : 0 < (bs (N.take 5)).size, ((bs (N.take 5))[0]).toNat = 0) := by
  match N with
  | [] => exact .inl rfl
  | b :: r =>
    right
    have hb : b = 0 := h
    subst hb
    refine ⟨?_, Nat.succ_pos _, rfl⟩
    rw [Lib.toList_data]
    rfl
/-- What the walk of Open is told behind the first read. -/
theorem ropen_nil {w0 w : World} {l : List Kd} {i p : Nat} {s : St} {f : Int} (hR : Calls Tryd.prog 26 #[.pointer (some ⟨p, 0, none⟩), .int .i64 f, .int .i64 0, .int .i64 5] w fun e w' => e = .returned (.tuple #[.string ⟨#[]⟩, .int .i64 0]) ∧ Tog w0 w' l) :
    Calls Tryd.prog 10 #[.pointer (some ⟨p, 0, none⟩), .int .i64 f] w (OpenPost 66 w0 l p f (some ⟨0, [], false⟩, 0)) := by
  have R1 := Lib.hid hR
  clear hR
  go_enter Tryd.func10, Tryd.ntmps10
  go_wp2_with (go_at_call 26; refine R1.out.mono ?_; rintro e w1 ⟨rfl, t1⟩; have T1 := Lib.hid t1; clear t1)
  go_ret2
  exact ⟨_, rfl, T1.out.cmade p f ⟨0, [], false⟩⟩
theorem ropen_zero {w0 w : World} {l : List Kd} {i p : Nat} {s : St} {f : Int} (S : ByteArray) (h1 : S.toList.isEmpty = false) (h2 : 0 < S.size) (h3 : ((S[0].toNat : Nat) : Int) = 0) (hR : Calls Tryd.prog 26 #[.pointer (some ⟨p, 0, none⟩), .int .i64 f, .int .i64 0, .int .i64 5] w fun e w' => e = .returned (.tuple #[.string S, .int .i64 0]) ∧ Tog w0 w' l) :
    Calls Tryd.prog 10 #[.pointer (some ⟨p, 0, none⟩), .int .i64 f] w (OpenPost 66 w0 l p f (some ⟨0, [], false⟩, 0)) := by
  have R1 := Lib.hid hR
  clear hR
  go_enter Tryd.func10, Tryd.ntmps10
  go_wp2_with (go_at_call 26; refine R1.out.mono ?_; rintro e w1 ⟨rfl, t1⟩; have T1 := Lib.hid t1; clear t1)
  go_ret2
  exact ⟨_, rfl, T1.out.cmade p f ⟨0, [], false⟩⟩
theorem ropen_short {w0 w : World} {l : List Kd} {i p : Nat} {s : St} {f : Int} (S : ByteArray) (h1 : S.toList.isEmpty = false) (h2 : 0 < S.size) (h3 : (((S[0].toNat : Nat) : Int) == 0) = false) (h4 : (S.size : Int) < 5) (hR : Calls Tryd.prog 26 #[.pointer (some ⟨p, 0, none⟩), .int .i64 f, .int .i64 0, .int .i64 5] w fun e w' => e = .returned (.tuple #[.string S, .int .i64 0]) ∧ Tog w0 w' l) :
    Calls Tryd.prog 10 #[.pointer (some ⟨p, 0, none⟩), .int .i64 f] w (OpenPost 66 w0 l p f (none, 2)) := by
  have R1 := Lib.hid hR
  clear hR
  go_enter Tryd.func10, Tryd.ntmps10
  go_wp2_with (go_at_call 26; refine R1.out.mono ?_; rintro e w1 ⟨rfl, t1⟩; have T1 := Lib.hid t1; clear t1)
  go_ret2
  exact ⟨rfl, T1.out.on ((Below.refl _ _).alloc (Nat.le_refl _) _)⟩
/-- The bytes of a header that is long enough. -/
structure Five (S : ByteArray) (n0 n1 n2 n3 n4 : Nat) : Prop where
  h0 : 0 < S.size
  h1 : 1 < S.size
  h2 : 2 < S.size
  h3 : 3 < S.size
  h4 : 4 < S.size
  x0 : ((S[0].toNat : Nat) : Int) = (n0 : Int)
  x1 : ((S[1].toNat : Nat) : Int) = (n1 : Int)
  x2 : ((S[2].toNat : Nat) : Int) = (n2 : Int)
  x3 : ((S[3].toNat : Nat) : Int) = (n3 : Int)
  x4 : ((S[4].toNat : Nat) : Int) = (n4 : Int)
  e : S.toList.isEmpty = false
  g5 : ¬ ((S.size : Int) < 5)
  z0 : ((n0 : Int) == 0) = false
  b0 : n0 < 256
  b1 : n1 < 256
  b2 : n2 < 256
  b3 : n3 < 256
  b4 : n4 < 256
theorem sums (n1 n2 n3 n4 : Nat) (b1 : n1 < 256) (b2 : n2 < 256) (b3 : n3 < 256) (b4 : n4 < 256) : ∃ M2 M3 M4 A2 A3 n : Nat, IntKind.i64.wrap (256 * (n2 : Int)) = (M2 : Int) ∧ IntKind.i64.wrap (65536 * (n3 : Int)) = (M3 : Int) ∧ IntKind.i64.wrap (16777216 * (n4 : Int)) = (M4 : Int) ∧ IntKind.i64.wrap ((n1 : Int) + (M2 : Int)) = (A2 : Int) ∧ IntKind.i64.wrap ((A2 : Int) + (M3 : Int)) = (A3 : Int) ∧ IntKind.i64.wrap ((A3 : Int) + (M4 : Int)) = (n : Int) ∧ n = 16777216 * n4 + (65536 * n3 + (256 * n2 + n1)) :=
  ⟨256 * n2, 65536 * n3, 16777216 * n4, n1 + 256 * n2, n1 + 256 * n2 + 65536 * n3, n1 + 256 * n2 + 65536 * n3 + 16777216 * n4, by rw [IntKind.wrap_i64]; omega, by rw [IntKind.wrap_i64]; omega, by rw [IntKind.wrap_i64]; omega, by rw [IntKind.wrap_i64]; omega, by rw [IntKind.wrap_i64]; omega, by rw [IntKind.wrap_i64]; omega, by omega⟩
/-- The number of a header, as the reference reckons it. -/
structure Sum5 (n1 n2 n3 n4 M2 M3 M4 A2 A3 n : Nat) : Prop where
  m2 : IntKind.i64.wrap (256 * (n2 : Int)) = (M2 : Int)
  m3 : IntKind.i64.wrap (65536 * (n3 : Int)) = (M3 : Int)
  m4 : IntKind.i64.wrap (16777216 * (n4 : Int)) = (M4 : Int)
  a2 : IntKind.i64.wrap ((n1 : Int) + (M2 : Int)) = (A2 : Int)
  a3 : IntKind.i64.wrap ((A2 : Int) + (M3 : Int)) = (A3 : Int)
  a4 : IntKind.i64.wrap ((A3 : Int) + (M4 : Int)) = (n : Int)
set_option maxHeartbeats 8000000 in
theorem ropen_bad {w0 w : World} {l : List Kd} {i p : Nat} {s : St} {f : Int} (S : ByteArray) (n0 n1 n2 n3 n4 M2 M3 M4 A2 A3 n : Nat) (F : Five S n0 n1 n2 n3 n4) (G : Sum5 n1 n2 n3 n4 M2 M3 M4 A2 A3 n) (hb : ¬ ((n0 = 1 ∨ n0 = 2) ∧ n ≤ 65536)) (hR : Calls Tryd.prog 26 #[.pointer (some ⟨p, 0, none⟩), .int .i64 f, .int .i64 0, .int .i64 5] w fun e w' => e = .returned (.tuple #[.string S, .int .i64 0]) ∧ Tog w0 w' l) :
    Calls Tryd.prog 10 #[.pointer (some ⟨p, 0, none⟩), .int .i64 f] w (OpenPost 66 w0 l p f (none, 2)) := by
  have R1 := Lib.hid hR
  obtain ⟨h0, h1, h2, h3, h4, x0, x1, x2, x3, x4, e, g5, z0, b0, b1, b2, b3, b4⟩ := F
  have w1' := (wr8 n1 b1).1
  have w2' := (wr8 n2 b2).1
  have w3' := (wr8 n3 b3).1
  have w4' := (wr8 n4 b4).1
  obtain ⟨m2, m3, m4, a2, a3, a4⟩ := G
  clear hR b0 b1 b2 b3 b4
  by_cases c1 : n0 = 1
  · subst c1
    have c3 : (65536 : Int) < (n : Int) := by
      have : ¬ n ≤ 65536 := fun h => hb ⟨.inl rfl, h⟩
      omega
    clear hb
    go_enter Tryd.func10, Tryd.ntmps10
    go_wp2_with (go_at_call 26; refine R1.out.mono ?_; rintro e w1 ⟨rfl, t1⟩; have T1 := Lib.hid t1; clear t1)
    go_quiet (fail)
    go_wp2
    go_ret2
    exact ⟨rfl, T1.out.on (((Below.refl _ _).alloc (Nat.le_refl _) _).trans ((below_drewN _ _).mono (by simp)))⟩
  by_cases c2 : n0 = 2
  · subst c2
    have c3 : (65536 : Int) < (n : Int) := by
      have : ¬ n ≤ 65536 := fun h => hb ⟨.inr rfl, h⟩
      omega
    clear hb c1
    go_enter Tryd.func10, Tryd.ntmps10
    go_wp2_with (go_at_call 26; refine R1.out.mono ?_; rintro e w1 ⟨rfl, t1⟩; have T1 := Lib.hid t1; clear t1)
    go_quiet (fail)
    go_wp2
    go_ret2
    exact ⟨rfl, T1.out.on (((Below.refl _ _).alloc (Nat.le_refl _) _).trans ((below_drewN _ _).mono (by simp)))⟩
  · have d1 : ((n0 : Int) != 1) = true := by simp; omega
    have d2 : ((n0 : Int) != 2) = true := by simp; omega
    clear hb c1 c2
    go_enter Tryd.func10, Tryd.ntmps10
    go_wp2_with (go_at_call 26; refine R1.out.mono ?_; rintro e w1 ⟨rfl, t1⟩; have T1 := Lib.hid t1; clear t1)
    go_quiet (fail)
    go_wp2
    go_ret2
    exact ⟨rfl, T1.out.on (((Below.refl _ _).alloc (Nat.le_refl _) _).trans ((below_drewN _ _).mono (by simp)))⟩
set_option maxHeartbeats 8000000 in
/-- A header that names a slot: the value is read. -/
theorem ropen_good {w0 w : World} {l : List Kd} {i p : Nat} {s : St} {f : Int} (S : ByteArray) (k n1 n2 n3 n4 M2 M3 M4 A2 A3 n : Nat) (F : Five S k n1 n2 n3 n4) (G : Sum5 n1 n2 n3 n4 M2 M3 M4 A2 A3 n) (hk : k = 1 ∨ k = 2) (hn : n ≤ 65536) (V : List UInt8) (bad : Bool) (hbad : ((V.length : Int) != (n : Int)) = bad)
    (hR : Calls Tryd.prog 26 #[.pointer (some ⟨p, 0, none⟩), .int .i64 f, .int .i64 0, .int .i64 5] w fun e w' => e = .returned (.tuple #[.string S, .int .i64 0]) ∧ Tog w0 w' l)
    (hV : ∀ W x, Tog w0 W (l ++ [x]) → Calls Tryd.prog 26 #[.pointer (some ⟨p, 0, none⟩), .int .i64 f, .int .i64 (slotAt k), .int .i64 n] W fun e w' => e = .returned (.tuple #[.string (bs V), .int .i64 0]) ∧ Tog w0 w' (l ++ [x])) :
    Calls Tryd.prog 10 #[.pointer (some ⟨p, 0, none⟩), .int .i64 f] w (OpenPost 66 w0 l p f (if bad then (none, 2) else (some ⟨k, V, false⟩, 0))) := by
  have R1 := Lib.hid hR
  have RV := Lib.hid hV
  have BG := Lib.hid (fun W => rbegin_any k W)
  obtain ⟨h0, h1, h2, h3, h4, x0, x1, x2, x3, x4, e, g5, z0, b0, b1, b2, b3, b4⟩ := F
  have w0' := (wr8 k b0).1
  have w1' := (wr8 n1 b1).1
  have w2' := (wr8 n2 b2).1
  have w3' := (wr8 n3 b3).1
  have w4' := (wr8 n4 b4).1
  obtain ⟨m2, m3, m4, a2, a3, a4⟩ := G
  have c3 : ¬ (65536 : Int) < (n : Int) := by omega
  have hVs : (bs V).size = V.length := rfl
  have CM := Lib.hid (fun W (hW : Tog w0 W l) => hW.cmade (T := 66) p f ⟨0, [], false⟩)
  have S2 := Lib.hid (fun W g (k : Nat) (hW : Tog w0 W (l ++ [kCell 66 g p f ⟨0, [], false⟩])) => show Tog w0 (W.setCell ⟨g, 2, none⟩ (.int .i64 (k : Int))) (l ++ [kCell 66 g p f ⟨k, [], false⟩]) from by
    have := hW.cset (List.getElem?_concat_length ..) 2 (.int .i64 (k : Int)) ⟨k, [], false⟩ rfl
    rw [List.set_append_right _ _ (Nat.le_refl _), Nat.sub_self] at this
    exact this)
  have S2k := Lib.hid (fun W g hW => S2.out W g k hW)
  have S3 := Lib.hid (fun W g (k : Nat) (v : List UInt8) (hW : Tog w0 W (l ++ [kCell 66 g p f ⟨k, [], false⟩])) => show Tog w0 (W.setCell ⟨g, 3, none⟩ (.string (bs v))) (l ++ [kCell 66 g p f ⟨k, v, false⟩]) from by
    have := hW.cset (List.getElem?_concat_length ..) 3 (.string (bs v)) ⟨k, v, false⟩ rfl
    rw [List.set_append_right _ _ (Nat.le_refl _), Nat.sub_self] at this
    exact this)
  have DR := Lib.hid (fun W g c (hW : Tog w0 W (l ++ [kCell 66 g p f c])) => hW.cellF (List.getElem?_concat_length ..))
  have DP := Lib.hid (fun W x (hW : Tog w0 W (l ++ [x])) => show Tog w0 W l from hW.sub (fun i => i) (fun i k hk => by rw [List.getElem?_append_left (List.getElem?_eq_some_iff.1 hk).1]; exact hk) (fun i j _ _ e => e))
  clear hR hV b0 b1 b2 b3 b4 hn
  have slotOne : slotAt 1 = 64 := rfl
  have slotTwo : slotAt 2 = 131072 := rfl
  rcases hk with rfl | rfl
  all_goals
    first | rw [slotOne] at RV BG | rw [slotTwo] at RV BG
    clear slotOne slotTwo
    cases bad
    all_goals
      go_enter Tryd.func10, Tryd.ntmps10
      go_wp2_with (go_at_call 26; refine R1.out.mono ?_; rintro e w1 ⟨rfl, t1⟩; have T1 := Lib.hid t1; clear t1)
      go_quiet (fail)
      have T2 := Lib.hid (S2k.out _ _ ((CM.out _ T1.out).on (below_drewN _ nq)))
      go_wp2_with (first
        | (go_at_call 31; refine (BG.out _).mono ?_; rintro e wb ⟨rfl, rfl⟩)
        | (go_at_call 26; refine (RV.out _ _ T2.out).mono ?_; rintro e w3 ⟨rfl, t3⟩; have F3 := DR.out _ _ _ t3; have y3 := F3.c3; have z3 := F3.fz 3; have T3 := Lib.hid t3; clear t3 F3))
      go_ret2
      first
      | exact ⟨_, rfl, S3.out _ _ _ _ T3.out⟩
      | exact ⟨rfl, DP.out _ _ (S3.out _ _ _ _ T3.out)⟩
theorem five_of {N : List UInt8} {b0 b1 b2 b3 b4 : UInt8} (e : N.take 5 = [b0, b1, b2, b3, b4]) (h0 : b0 ≠ 0) : Five (bs (N.take 5)) b0.toNat b1.toNat b2.toNat b3.toNat b4.toNat := by
  have en : (bs (N.take 5)).toList.isEmpty = false := by rw [Lib.toList_data, e]; rfl
  have hz : (bs [b0, b1, b2, b3, b4]).size = 5 := rfl
  have hnz : b0.toNat ≠ 0 := fun h => h0 (UInt8.toNat_inj.1 h)
  rw [e] at en ⊢
  exact ⟨by omega, by omega, by omega, by omega, by omega, rfl, rfl, rfl, rfl, rfl, en, by omega, by rw [beq_eq_false_iff_ne]; omega, b0.toNat_lt, b1.toNat_lt, b2.toNat_lt, b3.toNat_lt, b4.toNat_lt⟩
theorem ropen_any {w0 w : World} {l : List Kd} (h : Tog w0 w l) {i p : Nat} {s : St} (hi : l[i]? = some (kRef p s)) (f : Int) (hf : InI f) :
    Calls Tryd.prog 10 #[.pointer (some ⟨p, 0, none⟩), .int .i64 f] w (OpenPost 66 w0 l p f (openS s f)) := by
  have R1 := h.rread hi f 0 5 (by unfold InI; omega) (by unfold InI; omega)
  by_cases hb : s.down = true ∨ ¬ isF f
  · obtain ⟨e1, e2⟩ := read_err (a := 0) (n := 5) hb
    have E : openS s f = (none, mayE s f) := by
      unfold openS mayE
      by_cases hd : s.down = true
      · rw [if_pos hd, if_pos hd]
      · rw [if_neg hd, if_neg hd, if_pos (hb.resolve_left hd), if_neg (hb.resolve_left hd)]
    rw [E]
    rw [e2] at R1
    generalize mayE s f = z at *
    have hz : (z != 0) = true := by simpa using e1
    have R2 := Lib.hid R1
    clear E e1 e2 hb h hi hf R1
    go_enter Tryd.func10, Tryd.ntmps10
    go_wp2_with (go_at_call 26; refine R2.out.mono ?_; rintro e w1 ⟨rfl, t1⟩; have T1 := Lib.hid t1; clear t1)
    go_ret2
    exact ⟨rfl, T1.out⟩
  have hd : s.down = false := by
    cases hd : s.down
    · rfl
    · exact absurd (.inl hd) hb
  have hff : isF f := Classical.byContradiction fun h => hb (.inr h)
  have EO : openS s f = match openL (s.now f) with | some c => (some c, 0) | none => (none, 2) := by
    unfold openS; rw [if_neg (by simp [hd]), if_neg (fun h => h hff)]
    cases openL (s.now f) <;> rfl
  rw [EO]
  rw [read_up hd hff (by omega) (by omega)] at R1
  rw [show (0 : Int).toNat = 0 by rfl, show (5 : Int).toNat = 5 by rfl, List.drop_zero] at R1
  have RV : ∀ W l', Tog w0 W l' → l'[i]? = some (kRef p s) → ∀ (k n : Nat), n ≤ 65536 → Calls Tryd.prog 26 #[.pointer (some ⟨p, 0, none⟩), .int .i64 f, .int .i64 (slotAt k), .int .i64 n] W fun e w' => e = .returned (.tuple #[.string (bs (((s.now f).drop (slotAt k)).take n)), .int .i64 0]) ∧ Tog w0 w' l' := by
    intro W l' hW hi' k n hn
    have := hW.rread hi' f (slotAt k) n (by have := slotAt_pos k; unfold InI; omega) (by unfold InI; omega)
    rw [read_up hd hff (by omega) (by omega), Int.toNat_natCast, Int.toNat_natCast] at this
    exact this
  have hil : i < l.length := (List.getElem?_eq_some_iff.1 hi).1
  have HI : ∀ x, (l ++ [x])[i]? = some (kRef p s) := fun x => by rw [List.getElem?_append_left hil]; exact hi
  generalize s.now f = N at *
  by_cases h0 : at0 N 0 = 0
  · rw [openL_empty h0]
    rcases headZero2 h0 with e | ⟨hne, hz, e⟩
    · rw [e, show bs [] = ⟨#[]⟩ from rfl] at R1
      exact ropen_nil (i := i) (s := s) R1
    · exact ropen_zero (i := i) (s := s) _ hne hz (by omega) R1
  obtain ⟨hne, hz, hnz⟩ := headNot h0
  by_cases h5 : N.length < 5
  · have E : openL N = none := by unfold openL; rw [if_neg h0, if_pos h5]
    rw [E]
    exact ropen_short (i := i) (s := s) _ hne hz (by rw [beq_eq_false_iff_ne]; omega) (by show ((N.take 5).length : Int) < 5; rw [List.length_take]; omega) R1
  obtain ⟨b0, b1, b2, b3, b4, e5, ea, en⟩ := take5 (N := N) (by omega)
  have hOL : openL N = if (b0.toNat = 1 ∨ b0.toNat = 2) ∧ num N ≤ 65536 then (if ((N.drop (slotAt b0.toNat)).take (num N)).length < num N then none else some ⟨b0.toNat, (N.drop (slotAt b0.toNat)).take (num N), false⟩) else none := by
    unfold openL; rw [if_neg h0, if_neg h5, ea]
  rw [hOL]
  have F5 := five_of e5 (by rw [← ea]; exact h0)
  obtain ⟨M2, M3, M4, A2, A3, n, m2, m3, m4, a2, a3, a4, hn⟩ := sums b1.toNat b2.toNat b3.toNat b4.toNat b1.toNat_lt b2.toNat_lt b3.toNat_lt b4.toNat_lt
  have hnn : num N = n := by rw [en, num_is, hn]
  rw [hnn]
  have G5 : Sum5 b1.toNat b2.toNat b3.toNat b4.toNat M2 M3 M4 A2 A3 n := ⟨m2, m3, m4, a2, a3, a4⟩
  by_cases hv : (b0.toNat = 1 ∨ b0.toNat = 2) ∧ n ≤ 65536
  · rw [if_pos hv]
    have hvl : ((N.drop (slotAt b0.toNat)).take n).length ≤ n := by rw [List.length_take]; omega
    have V := ropen_good (i := i) (s := s) _ _ _ _ _ _ _ _ _ _ _ _ F5 G5 hv.1 hv.2 ((N.drop (slotAt b0.toNat)).take n) (((((N.drop (slotAt b0.toNat)).take n).length : Int)) != (n : Int)) rfl R1 (fun W x hW => RV W _ hW (HI x) _ n hv.2)
    by_cases hl : ((N.drop (slotAt b0.toNat)).take n).length < n
    · rw [if_pos hl]
      have e : (((((N.drop (slotAt b0.toNat)).take n).length : Int)) != (n : Int)) = true := by rw [bne_iff_ne]; omega
      rw [e, if_pos rfl] at V
      exact V
    · rw [if_neg hl]
      have e : (((((N.drop (slotAt b0.toNat)).take n).length : Int)) != (n : Int)) = false := by
        have : ((N.drop (slotAt b0.toNat)).take n).length = n := by omega
        rw [this]; simp
      rw [e, if_neg (by simp)] at V
      exact V
  · rw [if_neg hv]
    exact ropen_bad (i := i) (s := s) _ _ _ _ _ _ _ _ _ _ _ _ F5 G5 hv R1
set_option maxHeartbeats 4000000 in
theorem rset_any {w0 w : World} {l : List Kd} {i j p z : Nat} {f : Int} {s : St} {c : CS} (hij : i ≠ j) (hi : i < l.length) (hj : j < l.length) (h : Tog w0 w (RC 66 l i j p z f s c)) (t : List UInt8) :
    Calls Tryd.prog 12 #[.pointer (some ⟨z, 0, none⟩), .string (bs t)] w fun e w' => e = .returned (.int .i64 (setS s f c t).2.2) ∧ Tog w0 w' (RC 66 l i j p z f (setS s f c t).1 (setS s f c t).2.1) := by
  have hlen : (bs t).size = t.length := rfl
  by_cases ht : 65536 < t.length
  · have E : setS s f c t = (s, c, 6) := by unfold setS; rw [if_pos ht]
    rw [E]
    have H := Lib.hid h
    have g0 : (65536 : Int) < ((bs t).size : Int) := by rw [hlen]; omega
    clear h hlen ht E
    go_enter Tryd.func12, Tryd.ntmps12
    go_wp2
    go_ret
    exact ⟨rfl, H.out⟩
  have ht' : t.length ≤ 65536 := by omega
  by_cases hc : c.slot ≠ 0 ∧ c.sure = false
  · by_cases hr : (s.sync f).2 = 0
    · have E : setS s f c t = set2 (s.sync f).1 f { c with sure := true } t := by unfold setS; rw [if_neg ht, if_pos hc, if_neg (fun h => h hr)]
      rw [E]
      exact rset2_walk hij hi hj h t ht' ⟨.inr (.inr ⟨hc.1, hc.2, hr, rfl, rfl⟩)⟩
    · have E : setS s f c t = ((s.sync f).1, c, (s.sync f).2) := by unfold setS; rw [if_neg ht, if_pos hc, if_pos hr]
      rw [E]
      have F := h.cellF (RC_j hj)
      have y0 := F.c0
      have y1 := F.c1
      have y2 := F.c2
      have y4 := F.c4
      rw [hc.2] at y4
      have n0 : ((c.slot : Int) != 0) = true := by simpa using hc.1
      have SE := Lib.hid (fun W (hW : Tog w0 W (RC 66 l i j p z f s c)) => RC.sync hij hi hW f)
      have FF := Lib.hid (fun W s (c : CS) (hW : Tog w0 W (RC 66 l i j p z f s c)) => hW.cellF (RC_j hj))
      have n1 : ((s.sync f).2 != 0) = true := by simpa using hr
      have H := Lib.hid h
      generalize s.sync f = R at *
      obtain ⟨s1, r⟩ := R
      simp only at n1 SE
      have g0 : ¬ (65536 : Int) < ((bs t).size : Int) := by rw [hlen]; omega
      clear F hr hc E h hlen ht ht'
      go_enter Tryd.func12, Tryd.ntmps12
      go_wp2
      have sS : w.drew.cell? ⟨z, 0, none⟩ = some (.pointer (some ⟨p, 0, none⟩)) ∧ w.drew.cell? ⟨z, 1, none⟩ = some (.int .i64 f) := ⟨y0, y1⟩
      go_region_held3 (fun w' => w'.cell? ⟨z, 0, none⟩ = some (.pointer (some ⟨p, 0, none⟩)) ∧ w'.cell? ⟨z, 1, none⟩ = some (.int .i64 f)) (first | exact sS | exact sT) (first | (go_at_call 35; refine (SE.out _ (by exact tog_drew H.out)).mono ?_; rintro e wA ⟨rfl, tA⟩; have FA := FF.out _ _ _ tA; have sT := (show wA.cell? ⟨z, 0, none⟩ = some (.pointer (some ⟨p, 0, none⟩)) ∧ wA.cell? ⟨z, 1, none⟩ = some (.int .i64 f) from ⟨FA.c0, FA.c1⟩); have TA := Lib.hid tA; clear tA FA))
      go_wp2
      go_ret
      exact ⟨rfl, TA.out⟩
  · have E : setS s f c t = set2 s f c t := by unfold setS; rw [if_neg ht, if_neg hc]
    rw [E]
    refine rset2_walk hij hi hj h t ht' ⟨?_⟩
    by_cases h0 : c.slot = 0
    · exact .inl ⟨h0, rfl, rfl⟩
    · refine .inr (.inl ⟨h0, ?_, rfl, rfl⟩)
      cases hs : c.sure
      · exact absurd ⟨h0, hs⟩ hc
      · rfl
end Go.Proofs.YtdejajpmebgidaaDoor
