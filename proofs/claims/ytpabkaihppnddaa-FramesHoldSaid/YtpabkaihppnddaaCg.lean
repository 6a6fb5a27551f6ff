/-
  PACKAGE frames: slices.Clone, Copy.
-/
import Derived.Test.YtpabkaihppnddaaCf
namespace Go.Proofs.Ytpabkaihppnddaa
open Go.RowKit
set_option linter.unusedVariables false
set_option linter.unusedSimpArgs false
set_option maxRecDepth 100000
section
variable {w0 w : World} {S : Nat → Prop} {l : List Kd}
set_option maxHeartbeats 1000000 in
theorem Tog.xclonePages (h : Tog w0 S w l) {a : Option Addr} {n c : Nat} {xs : List Value} (hs : SrcAt w (.slice a n c) n xs) (hx : xs.length = n * 64) (h1 : ∀ u ∈ xs, u.oneCell' = true) (hn : n ≤ 4096) :
    Calls Try.prog 36 #[.slice a n c] w fun e w' => ∃ a' c', e = .returned (.slice a' n c') ∧ Tog w0 S w' (l ++ [kRow 64 64 (.slice a' n c') n xs]) := by
  have q22 : ∀ (w : World) (a : Option Addr) (n c n' c' : Nat), (binOp .eql 60 (.slice a n c) (.slice none n' c')).run Try.prog w = .ok (.bool a.isNone) w := fun w a n c n' c' => Lib.run_eql_slice_nil w _ _ a n c n' c' Try.underlying60
  cases a with
  | none =>
    have hL : n = 0 := by
      rcases hs with ⟨_, h0, _⟩ | ⟨b, o, c, hv, _⟩
      · exact h0
      · simp at hv
    subst hL
    have hx0 : xs = [] := List.eq_nil_of_length_eq_zero (by omega)
    subst hx0
    have FIN := Lib.hid (h.nilRow 64 64)
    clear h hs
    go_enter Try.func36, Try.ntmps36
    go_wp2
    go_ret
    exact ⟨none, 0, rfl, FIN.out⟩
  | some ad =>
    have H1 := Lib.hid (h.made 64 64 0 #[] (by simp) (by unfold maxLen; omega))
    have HS := Lib.hid (show SrcAt (w.alloc (.cells #[] 64)) (.slice (some ad) n c) n xs from by
      rcases hs with h1 | ⟨b, o, c, hv, hc⟩
      · exact .inl h1
      · exact .inr ⟨b, o, c, hv, fun j u hj => Lib.cell?_alloc_some _ (hc j u hj)⟩)
    have HN := Lib.hid hn
    have HX := Lib.hid hx
    have H1C := Lib.hid h1
    have HI := Lib.hid (show (l ++ [kRow 64 64 (.slice (some ⟨w.heap.size, 0, none⟩) 0 0) 0 []])[l.length]? = some (kRow 64 64 (.slice (some ⟨w.heap.size, 0, none⟩) 0 0) 0 []) from by simp)
    clear h hs hx h1
    go_enter Try.func36, Try.ntmps36
    go_wp2_with (at_builtin; go_loud (refine H1.out.wpList_app elPage rfl _ _ rfl l.length HI.out (X := .slice (some ad) n c) rfl rfl HS.out HX.out H1C.out (by have := HN.out; unfold maxLen; omega) (by have := HN.out; omega) ?_); intro a' c' w' T hs')
    have FIN := Lib.hid T
    clear T
    go_wp2
    go_ret
    refine ⟨a', c', by simp, ?_⟩
    have T := FIN.out
    simpa using T
set_option maxHeartbeats 1000000 in
theorem Tog.xcloneBits (h : Tog w0 S w l) {a : Option Addr} {n c : Nat} {xs : List Value} (hs : SrcAt w (.slice a n c) n xs) (hx : xs.length = n * 1) (h1 : ∀ u ∈ xs, u.oneCell' = true) (hn : n ≤ 4096) :
    Calls Try.prog 37 #[.slice a n c] w fun e w' => ∃ a' c', e = .returned (.slice a' n c') ∧ Tog w0 S w' (l ++ [kRow 4 1 (.slice a' n c') n xs]) := by
  have q22 : ∀ (w : World) (a : Option Addr) (n c n' c' : Nat), (binOp .eql 53 (.slice a n c) (.slice none n' c')).run Try.prog w = .ok (.bool a.isNone) w := fun w a n c n' c' => Lib.run_eql_slice_nil w _ _ a n c n' c' Try.underlying53
  cases a with
  | none =>
    have hL : n = 0 := by
      rcases hs with ⟨_, h0, _⟩ | ⟨b, o, c, hv, _⟩
      · exact h0
      · simp at hv
    subst hL
    have hx0 : xs = [] := List.eq_nil_of_length_eq_zero (by omega)
    subst hx0
    have FIN := Lib.hid (h.nilRow 4 1)
    clear h hs
    go_enter Try.func37, Try.ntmps37
    go_wp2
    go_ret
    exact ⟨none, 0, rfl, FIN.out⟩
  | some ad =>
    have H1 := Lib.hid (h.made 4 1 0 #[] (by simp) (by unfold maxLen; omega))
    have HS := Lib.hid (show SrcAt (w.alloc (.cells #[] 4)) (.slice (some ad) n c) n xs from by
      rcases hs with h1 | ⟨b, o, c, hv, hc⟩
      · exact .inl h1
      · exact .inr ⟨b, o, c, hv, fun j u hj => Lib.cell?_alloc_some _ (hc j u hj)⟩)
    have HN := Lib.hid hn
    have HX := Lib.hid hx
    have H1C := Lib.hid h1
    have HI := Lib.hid (show (l ++ [kRow 4 1 (.slice (some ⟨w.heap.size, 0, none⟩) 0 0) 0 []])[l.length]? = some (kRow 4 1 (.slice (some ⟨w.heap.size, 0, none⟩) 0 0) 0 []) from by simp)
    clear h hs hx h1
    go_enter Try.func37, Try.ntmps37
    go_wp2_with (at_builtin; go_loud (refine H1.out.wpList_app elBool rfl _ _ rfl l.length HI.out (X := .slice (some ad) n c) rfl rfl HS.out HX.out H1C.out (by have := HN.out; unfold maxLen; omega) (by have := HN.out; omega) ?_); intro a' c' w' T hs')
    have FIN := Lib.hid T
    clear T
    go_wp2
    go_ret
    refine ⟨a', c', by simp, ?_⟩
    have T := FIN.out
    simpa using T
theorem Tog.frCopy (h : Tog w0 S w l) {i p : Nat} {L : Fm} (hi : l[i]? = some (kFr p L)) : ∃ M B a c a' c', Tog w M w [kHeap p (.cells #[.slice a L.length c, .slice a' L.length c'] 62 (0, 0)), kRow 64 64 (.slice a L.length c) L.length (byteCells B), kRow 4 1 (.slice a' L.length c') L.length (boolCells L)] ∧ (byteCells B).length = L.length * 64 ∧
    (∀ w' b d b' d', Tog w M w' [kHeap p (.cells #[.slice a L.length c, .slice a' L.length c'] 62 (0, 0)), kRow 64 64 (.slice a L.length c) L.length (byteCells B), kRow 4 1 (.slice a' L.length c') L.length (boolCells L), kRow 64 64 (.slice b L.length d) L.length (byteCells B), kRow 4 1 (.slice b' L.length d') L.length (boolCells L)] →
      Tog w0 S (w'.alloc (.cells #[.slice b L.length d, .slice b' L.length d'] 62)) (l ++ [kFr w'.heap.size L])) := by
  have okL := h.okFr hi
  obtain ⟨M, h1, CL⟩ := h.inner hi
  obtain ⟨ok, B, ⟨a, c⟩, ⟨a', c'⟩, hB, h2⟩ := h1.openFr
  refine ⟨M, B, a, c, a', c', h2, by rw [byteCells_len]; exact hB.len, fun w' b d b' d' T => ?_⟩
  have t1 := T.block (.cells #[.slice b L.length d, .slice b' L.length d'] 62)
  have t2 := t1.pick [5, 3, 4, 0, 1, 2] (l' := [_, _, _, _, _, _]) (by decide) rfl
  have t3 := Tog.shutFr (x := (b, d)) (y := (b', d')) (B := B) (L := L) (n := L.length) t2 rfl ok hB
  have t4 := t3.pick [1, 2, 3, 0] (l' := [_, _, _, _]) (by decide) rfl
  have t5 := Tog.shutFr (x := (a, c)) (y := (a', c')) (B := B) (L := L) (n := L.length) t4 rfl ok hB
  have t6 := CL _ _ _ t5
  rw [Tog.sameAt hi] at t6
  exact t6
set_option maxHeartbeats 1000000 in
theorem Tog.xcopy (h : Tog w0 S w l) {i p : Nat} {L : Fm} (hi : l[i]? = some (kFr p L)) : Calls Try.prog 28 #[.pointer (some ⟨p, 0, none⟩)] w fun e w' => ∃ p', e = .returned (.pointer (some ⟨p', 0, none⟩)) ∧ Tog w0 S w' (l ++ [kFr p' L]) := by
  have hle := (h.okFr hi).len
  obtain ⟨M, B, a, c, a', c', h2, hxl, FN⟩ := h.frCopy hi
  have p0 := h2.cellAt (j := 0) rfl 0 rfl
  have p1 := h2.cellAt (j := 0) rfl 1 rfl
  have HXL := Lib.hid hxl
  have HLE := Lib.hid hle
  have ONE := Lib.hid (byteCells_one B)
  have CA := Lib.hid (h2.drew.xclonePages (srcAt_row (h2.drew.rowAt (j := 1) rfl)) hxl (byteCells_one B) hle)
  have CB := Lib.hid (h2.drew.xcloneBits (srcAt_row (h2.drew.rowAt (j := 2) rfl)) (by rw [boolCells_len]; omega) (boolCells_one L) hle)
  have NA := Lib.hid (show ∀ w' b d, Tog w M w' [kHeap p (.cells #[.slice a L.length c, .slice a' L.length c'] 62 (0, 0)), kRow 64 64 (.slice a L.length c) L.length (byteCells B), kRow 4 1 (.slice a' L.length c') L.length (boolCells L), kRow 64 64 (.slice b L.length d) L.length (byteCells B)] → _ from fun w' b d T => And.intro (T.cellAt (j := 0) rfl 1 rfl) (T.xcloneBits (srcAt_row (T.rowAt (j := 2) rfl)) (by rw [boolCells_len]; omega) (boolCells_one L) hle))
  have NB := Lib.hid (show ∀ w' b d, Tog w M w' [kHeap p (.cells #[.slice a L.length c, .slice a' L.length c'] 62 (0, 0)), kRow 64 64 (.slice a L.length c) L.length (byteCells B), kRow 4 1 (.slice a' L.length c') L.length (boolCells L), kRow 4 1 (.slice b L.length d) L.length (boolCells L)] → _ from fun w' b d T => And.intro (T.cellAt (j := 0) rfl 0 rfl) (T.xclonePages (srcAt_row (T.rowAt (j := 1) rfl)) hxl (byteCells_one B) hle))
  have FIN := Lib.hid FN
  clear h hi h2 hxl FN
  go_enter Try.func28, Try.ntmps28
  go_upto_region 1 with (fail)
  go_region_with (first
    | (go_at_call 36; refine CA.out.mono ?_; rintro e w1 ⟨b, d, rfl, T⟩; obtain ⟨k1, C2⟩ := NA.out w1 b d T; have DB := Lib.hid C2; clear T C2 CA CB)
    | (go_at_call 37; refine CB.out.mono ?_; rintro e w1 ⟨b, d, rfl, T⟩; obtain ⟨k0, C2⟩ := NB.out w1 b d T; have DA := Lib.hid C2; clear T C2 CA CB)
    | (go_at_call 37; refine DB.out.mono ?_; rintro e w2 ⟨b2, d2, rfl, T⟩; have FA := Lib.hid T; clear T DB)
    | (go_at_call 36; refine DA.out.mono ?_; rintro e w2 ⟨b2, d2, rfl, T⟩; have FB := Lib.hid T; clear T DA))
  all_goals
    go_wp2
    go_ret
    first
      | exact ⟨_, rfl, (FIN.out _ _ _ _ _ FA.out)⟩
      | exact ⟨_, rfl, (FIN.out _ _ _ _ _ (FB.out.pick [0, 1, 2, 4, 3] (l' := [_, _, _, _, _]) (by decide) rfl))⟩
end
end Go.Proofs.Ytpabkaihppnddaa
