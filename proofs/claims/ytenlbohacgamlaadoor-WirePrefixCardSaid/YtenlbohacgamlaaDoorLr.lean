/-
  WirePrefix: the walk, where both values are small and of one kind.
-/
import Derived.Test.YtenlbohacgamlaaDoorLp
namespace Go.Proofs.YtenlbohacgamlaaDoor
open Go.RowKit Go.Sort WireM
set_option linter.unusedVariables false
set_option linter.unusedSimpArgs false

set_option maxHeartbeats 16000000 in
set_option maxRecDepth 100000 in
theorem prefix_yes (K N : Int) (S : ByteArray) (la ta : Option Addr) (lc tc : Nat) (L : List Int) (T : List ByteArray)
    (K2 N2 : Int) (S2 : ByteArray) (la2 ta2 : Option Addr) (lc2 tc2 : Nat) (L2 : List Int) (T2 : List ByteArray) (w : World) (ht : Tab w)
    (hv : V.Ok w.heap.size w ⟨K, N, S, la, lc, L, ta, tc, T⟩) (hv2 : V.Ok w.heap.size w ⟨K2, N2, S2, la2, lc2, L2, ta2, tc2, T2⟩)
    (hf : Few [⟨K, N, S, la, lc, L, ta, tc, T⟩]) (hf2 : Few [⟨K2, N2, S2, la2, lc2, L2, ta2, tc2, T2⟩]) (hk : K % 5 = K2 % 5) :
    Calls Tryd.prog 7 #[.agg #[.int .i64 K, .int .i64 N, .string S, .slice la L.length lc, .slice ta T.length tc], .agg #[.int .i64 K2, .int .i64 N2, .string S2, .slice la2 L2.length lc2, .slice ta2 T2.length tc2]] w fun e w' => e = .returned (.bool true) ∧ Below w.heap.size w w' := by
  have HV := Lib.hid hv
  have HV2 := Lib.hid hv2
  have HF := Lib.hid hf
  have HF2 := Lib.hid hf2
  have HK := Lib.hid hk
  have hkb : (K % 5 != K2 % 5) = false := by rw [bne_eq_false_iff_eq]; exact hk
  clear hf hf2 hk
  clear hv hv2
  go_enter Tryd.func7, Tryd.ntmps7
  go_wp2_with fail
  go_at_call 9
  have b0 : Below w.heap.size w ((w.alloc (.cells #[.int .i64 K, .int .i64 N, .string S, .slice la L.length lc, .slice ta T.length tc] 25)).alloc (.cells #[.int .i64 K2, .int .i64 N2, .string S2, .slice la2 L2.length lc2, .slice ta2 T2.length tc2] 25)) := ((Below.refl _ w).alloc (Nat.le_refl _) _).alloc (by simp) _
  refine (small_any _ (tab_step ht b0)).mono ?_
  rintro e w1 ⟨rfl, b1⟩
  have hs1 : w.heap.size + 2 ≤ w1.heap.size := by have := b1.size; simp at this; omega
  have k : ∀ j, w1.cell? ⟨w.heap.size, j, none⟩ = (#[.int .i64 K, .int .i64 N, .string S, .slice la L.length lc, .slice ta T.length tc] : Array Value)[j]? := fun j => by
    rw [b1.cell (p := ⟨w.heap.size, j, none⟩) (by simp; omega)]
    have := (Below.heap_alloc (w.alloc (.cells #[.int .i64 K, .int .i64 N, .string S, .slice la L.length lc, .slice ta T.length tc] 25)) (.cells #[.int .i64 K2, .int .i64 N2, .string S2, .slice la2 L2.length lc2, .slice ta2 T2.length tc2] 25) w.heap.size (by simp)).trans (heap_alloc_new w _)
    exact Lib.cell_of_heap this j
  have m : ∀ j, w1.cell? ⟨w.heap.size + 1, j, none⟩ = (#[.int .i64 K2, .int .i64 N2, .string S2, .slice la2 L2.length lc2, .slice ta2 T2.length tc2] : Array Value)[j]? := fun j => by
    rw [b1.cell (p := ⟨w.heap.size + 1, j, none⟩) (by simp)]
    have := heap_alloc_new (w.alloc (.cells #[.int .i64 K, .int .i64 N, .string S, .slice la L.length lc, .slice ta T.length tc] 25)) (.cells #[.int .i64 K2, .int .i64 N2, .string S2, .slice la2 L2.length lc2, .slice ta2 T2.length tc2] 25)
    rw [show (w.alloc (.cells #[.int .i64 K, .int .i64 N, .string S, .slice la L.length lc, .slice ta T.length tc] 25)).heap.size = w.heap.size + 1 by simp] at this
    rw [Lib.cell_of_heap this]
  have B1 := below_step b0 b1
  clear b0 b1
  have KK := Lib.hid k
  have MM := Lib.hid m
  clear k m
  have k0 := KK.out 0; have k1 := KK.out 1; have k2 := KK.out 2; have k3 := KK.out 3; have k4 := KK.out 4
  go_wp2_with fail
  have tok1 : True := trivial
  have hlt0 : w.heap.size < w1.heap.size := by omega
  have hlt1 : w.heap.size + 1 < w1.heap.size := by omega
  have hwB : w.heap.size ≤ w1.heap.size := B1.size
  have bb : Below w1.heap.size w1 w1 := Below.refl _ _
  go_region_with (first
    | (go_at_call 10; have _t := tok1; refine (few_yes _ (some ⟨w1.heap.size, 0, none⟩) 1 [⟨K, N, S, la, lc, L, ta, tc, T⟩] _ (Nat.le_refl _) (by simp) (by exact ValsIn.below (one_few (w := w1) (HV.out.below B1) hwB) (Below.refl _ _).drew) HF.out).mono ?_; rintro e w2 ⟨rfl, b2⟩; replace bb := ((bb.alloc (Nat.le_refl _) _).drew).trans (b2.mono (by simp)); clear tok1 b2 k0 k1 k2 k3 k4; have k0 := (bb.cell (p := ⟨w.heap.size, 0, none⟩) hlt0).trans (KK.out 0); have k1 := (bb.cell (p := ⟨w.heap.size, 1, none⟩) hlt0).trans (KK.out 1); have k2 := (bb.cell (p := ⟨w.heap.size, 2, none⟩) hlt0).trans (KK.out 2); have k3 := (bb.cell (p := ⟨w.heap.size, 3, none⟩) hlt0).trans (KK.out 3); have k4 := (bb.cell (p := ⟨w.heap.size, 4, none⟩) hlt0).trans (KK.out 4); have m0 := (bb.cell (p := ⟨w.heap.size + 1, 0, none⟩) hlt1).trans (MM.out 0); have m1 := (bb.cell (p := ⟨w.heap.size + 1, 1, none⟩) hlt1).trans (MM.out 1); have m2 := (bb.cell (p := ⟨w.heap.size + 1, 2, none⟩) hlt1).trans (MM.out 2); have m3 := (bb.cell (p := ⟨w.heap.size + 1, 3, none⟩) hlt1).trans (MM.out 3); have m4 := (bb.cell (p := ⟨w.heap.size + 1, 4, none⟩) hlt1).trans (MM.out 4))
    | (go_at_call 10; refine (few_yes _ _ 1 [⟨K2, N2, S2, la2, lc2, L2, ta2, tc2, T2⟩] _ (Nat.le_refl _) (by simp) (by exact one_few (HV2.out.below (B1.trans (bb.mono hwB))) (Nat.le_trans hwB bb.size)) HF2.out).mono ?_; rintro e w3 ⟨rfl, b2⟩; replace bb := (bb.alloc bb.size _).trans (b2.mono (by have := bb.size; simp; omega)); clear b2 k0 k1 k2 k3 k4 m0 m1 m2 m3 m4; have k0 := (bb.cell (p := ⟨w.heap.size, 0, none⟩) hlt0).trans (KK.out 0); have k1 := (bb.cell (p := ⟨w.heap.size, 1, none⟩) hlt0).trans (KK.out 1); have k2 := (bb.cell (p := ⟨w.heap.size, 2, none⟩) hlt0).trans (KK.out 2); have k3 := (bb.cell (p := ⟨w.heap.size, 3, none⟩) hlt0).trans (KK.out 3); have k4 := (bb.cell (p := ⟨w.heap.size, 4, none⟩) hlt0).trans (KK.out 4); have m0 := (bb.cell (p := ⟨w.heap.size + 1, 0, none⟩) hlt1).trans (MM.out 0); have m1 := (bb.cell (p := ⟨w.heap.size + 1, 1, none⟩) hlt1).trans (MM.out 1); have m2 := (bb.cell (p := ⟨w.heap.size + 1, 2, none⟩) hlt1).trans (MM.out 2); have m3 := (bb.cell (p := ⟨w.heap.size + 1, 3, none⟩) hlt1).trans (MM.out 3); have m4 := (bb.cell (p := ⟨w.heap.size + 1, 4, none⟩) hlt1).trans (MM.out 4))
    | (go_at_call 23; refine (kind_any _ _ _ _ _ _ _ _ _ _).mono ?_; rintro e w4 ⟨rfl, b2⟩; replace bb := bb.trans (b2.mono bb.size); clear b2 k0 k1 k2 k3 k4 m0 m1 m2 m3 m4; have k0 := (bb.cell (p := ⟨w.heap.size, 0, none⟩) hlt0).trans (KK.out 0); have k1 := (bb.cell (p := ⟨w.heap.size, 1, none⟩) hlt0).trans (KK.out 1); have k2 := (bb.cell (p := ⟨w.heap.size, 2, none⟩) hlt0).trans (KK.out 2); have k3 := (bb.cell (p := ⟨w.heap.size, 3, none⟩) hlt0).trans (KK.out 3); have k4 := (bb.cell (p := ⟨w.heap.size, 4, none⟩) hlt0).trans (KK.out 4); have m0 := (bb.cell (p := ⟨w.heap.size + 1, 0, none⟩) hlt1).trans (MM.out 0); have m1 := (bb.cell (p := ⟨w.heap.size + 1, 1, none⟩) hlt1).trans (MM.out 1); have m2 := (bb.cell (p := ⟨w.heap.size + 1, 2, none⟩) hlt1).trans (MM.out 2); have m3 := (bb.cell (p := ⟨w.heap.size + 1, 3, none⟩) hlt1).trans (MM.out 3); have m4 := (bb.cell (p := ⟨w.heap.size + 1, 4, none⟩) hlt1).trans (MM.out 4)))
  all_goals
    have hSM : V.Small ⟨K, N, S, la, lc, L, ta, tc, T⟩ := HF.out.2.1 _ List.mem_cons_self
    have hSM2 : V.Small ⟨K2, N2, S2, la2, lc2, L2, ta2, tc2, T2⟩ := HF2.out.2.1 _ List.mem_cons_self
    have HS := Lib.hid hSM
    have HS2 := Lib.hid hSM2
    have BW := B1.trans (bb.mono hwB)
    clear hSM hSM2
    go_wp2_with fail
    go_at_call 42
    refine (write_any w.heap.size ⟨K, N, S, la, lc, L, ta, tc, T⟩ _ (tab_step ht BW) BW.size (HV.out.below BW) HS.out).mono ?_
    rintro e w5 ⟨rfl, b5⟩
    replace bb := bb.trans (b5.mono bb.size)
    replace BW := B1.trans (bb.mono hwB)
    clear b5 k0 k1 k2 k3 k4 m0 m1 m2 m3 m4
    have m0 := (bb.cell (p := ⟨w.heap.size + 1, 0, none⟩) hlt1).trans (MM.out 0); have m1 := (bb.cell (p := ⟨w.heap.size + 1, 1, none⟩) hlt1).trans (MM.out 1); have m2 := (bb.cell (p := ⟨w.heap.size + 1, 2, none⟩) hlt1).trans (MM.out 2); have m3 := (bb.cell (p := ⟨w.heap.size + 1, 3, none⟩) hlt1).trans (MM.out 3); have m4 := (bb.cell (p := ⟨w.heap.size + 1, 4, none⟩) hlt1).trans (MM.out 4)
    go_wp2_with fail
    go_at_call 42
    refine (write_any w.heap.size ⟨K2, N2, S2, la2, lc2, L2, ta2, tc2, T2⟩ _ (tab_step ht BW) BW.size (HV2.out.below BW) HS2.out).mono ?_
    rintro e w6 ⟨rfl, b6⟩
    replace bb := bb.trans (b6.mono bb.size)
    replace BW := B1.trans (bb.mono hwB)
    clear b6 m0 m1 m2 m3 m4
    have m0 := (bb.cell (p := ⟨w.heap.size + 1, 0, none⟩) hlt1).trans (MM.out 0); have m1 := (bb.cell (p := ⟨w.heap.size + 1, 1, none⟩) hlt1).trans (MM.out 1); have m2 := (bb.cell (p := ⟨w.heap.size + 1, 2, none⟩) hlt1).trans (MM.out 2); have m3 := (bb.cell (p := ⟨w.heap.size + 1, 3, none⟩) hlt1).trans (MM.out 3); have m4 := (bb.cell (p := ⟨w.heap.size + 1, 4, none⟩) hlt1).trans (MM.out 4)
    have x1 : (bs (encV ⟨K, N, S, la, lc, L, ta, tc, T⟩)).size ≤ 200000 := encV_len _ HV.out HS.out
    have x2 : (bs (encV ⟨K2, N2, S2, la2, lc2, L2, ta2, tc2, T2⟩)).size ≤ 200000 := encV_len _ HV2.out HS2.out
    obtain ⟨X, hX⟩ : ∃ X, X = encV ⟨K, N, S, la, lc, L, ta, tc, T⟩ := ⟨_, rfl⟩
    obtain ⟨Y, hY⟩ : ∃ Y, Y = encV ⟨K2, N2, S2, la2, lc2, L2, ta2, tc2, T2⟩ := ⟨_, rfl⟩
    rw [← hX] at x1 ⊢
    rw [← hY] at x2 ⊢
    have HX := Lib.hid hX
    have HY := Lib.hid hY
    clear hX hY
    by_cases hlen : (bs Y).size < (bs X).size
    · go_wp2_with fail
      go_ret
      exact ⟨rfl, BW⟩
    · have hle : (bs X).size ≤ (bs Y).size := by omega
      have HMIN := Lib.hid (show ((bs Y).extract 0 (min ((bs X).size : Int) ((bs Y).size : Int)).toNat).toList = Y.take X.length by
        rw [Lib.toList_data, Lib.extract_data, bs_data]
        have : (min ((bs X).size : Int) ((bs Y).size : Int)).toNat = X.length := by rw [bs_size, bs_size] at *; omega
        rw [this]; simp)
      by_cases heq : Y.take X.length = X
      · have hrest : Y.drop X.length = [] := prefix_free ⟨K, N, S, la, lc, L, ta, tc, T⟩ ⟨K2, N2, S2, la2, lc2, L2, ta2, tc2, T2⟩ HV.out HV2.out HS.out HS2.out HK.out _ (by rw [← HY.out, ← HX.out]; have h := (List.take_append_drop X.length Y).symm; rw [heq] at h; exact h)
        have hXY : Y = X := by rw [← List.take_append_drop X.length Y, heq, hrest, List.append_nil]
        subst hXY
        clear heq hrest HMIN hlen hle
        have hr5 := BW.size
        go_wp2_with fail
        go_at_call 21
        refine (open_any _ _).mono ?_
        rintro e w7 ⟨rfl, hrd, b7⟩
        have hn7 := hrd.lt
        replace bb := bb.trans (b7.mono bb.size)
        replace BW := B1.trans (bb.mono hwB)
        clear b7 m0 m1 m2 m3 m4
        have m0 := (bb.cell (p := ⟨w.heap.size + 1, 0, none⟩) hlt1).trans (MM.out 0); have m1 := (bb.cell (p := ⟨w.heap.size + 1, 1, none⟩) hlt1).trans (MM.out 1); have m2 := (bb.cell (p := ⟨w.heap.size + 1, 2, none⟩) hlt1).trans (MM.out 2); have m3 := (bb.cell (p := ⟨w.heap.size + 1, 3, none⟩) hlt1).trans (MM.out 3); have m4 := (bb.cell (p := ⟨w.heap.size + 1, 4, none⟩) hlt1).trans (MM.out 4)
        have HOK7 := Lib.hid (HV2.out.below BW)
        generalize w6.heap.size = rb at *
        go_wp2_with fail
        go_at_call 43
        refine (equal_any w.heap.size rb _ [] ⟨K2, N2, S2, la2, lc2, L2, ta2, tc2, T2⟩ _ hrd (by omega) hr5 HOK7.out HS2.out (by rw [bs_data, List.append_nil]; exact HY.out)).mono ?_
        rintro e w8 ⟨rfl, ho⟩
        replace BW := BW.trans (below_of_grownBy ho.2 hr5 hn7)
        go_wp2_with fail
        go_ret
        exact ⟨rfl, BW⟩
      · have hnb : (((bs Y).extract 0 (min ((bs X).size : Int) ((bs Y).size : Int)).toNat).toList == (bs X).toList) = false := by
          rw [HMIN.out, Lib.toList_data, bs_data]
          exact beq_eq_false_iff_ne.2 heq
        go_wp2_with fail
        go_ret
        exact ⟨rfl, BW⟩
end Go.Proofs.YtenlbohacgamlaaDoor
