/-
  WirePrefix: the walk.
-/
import Derived.Test.YtenlbohacgamlaaDoorLw
import Derived.Test.YtenlbohacgamlaaDoorLn
namespace Go.Proofs.YtenlbohacgamlaaDoor
open Go.RowKit Go.Sort WireM
set_option linter.unusedVariables false
set_option linter.unusedSimpArgs false

theorem few_yes (B : Nat) (a : Option Addr) (cap : Nat) (vs : List V) (w : World) (hB : B ≤ w.heap.size) (hm : vs.length ≤ 9223372036854775807) (hc : ValsIn B w a vs) (hf : Few vs) :
    Calls Tryd.prog 10 #[.slice a vs.length cap] w fun e w' => e = .returned (.bool true) ∧ Below w.heap.size w w' :=
  (few_any B a cap vs w hB hm hc).mono fun e w' ⟨r, he, hr, q, hq⟩ => ⟨by rw [he, hr.2 hf], by rw [hq]; exact Go.below_drewN (Below.refl _ w) q⟩
theorem few_no (B : Nat) (a : Option Addr) (cap : Nat) (vs : List V) (w : World) (hB : B ≤ w.heap.size) (hm : vs.length ≤ 9223372036854775807) (hc : ValsIn B w a vs) (hf : ¬ Few vs) :
    Calls Tryd.prog 10 #[.slice a vs.length cap] w fun e w' => e = .returned (.bool false) ∧ Below w.heap.size w w' :=
  (few_any B a cap vs w hB hm hc).mono fun e w' ⟨r, he, hr, q, hq⟩ => ⟨by
    cases r
    · exact he
    · exact absurd (hr.1 rfl) hf, by rw [hq]; exact Go.below_drewN (Below.refl _ w) q⟩

theorem rdNum_nat (n : Int) (t : List UInt8) (h0 : 0 ≤ n) (h1 : n ≤ 9223372036854775807) : rdNum (encInt n ++ t) = some (n, t) := by
  obtain ⟨m, rfl⟩ : ∃ m : Nat, n = (m : Int) := ⟨n.toNat, by omega⟩
  exact rdNum_read m t (by omega)
/-- No encoding of a value begins that of another value of the same kind. -/
theorem prefix_free {B : Nat} {w : World} (v v2 : V) (hv : v.Ok B w) (hv2 : v2.Ok B w) (hs : v.Small) (hs2 : v2.Small) (hk : v.K % 5 = v2.K % 5) (rest : List UInt8) (h : encV v2 = encV v ++ rest) : rest = [] := by
  have fin : ∀ {α : Type} {rd : List UInt8 → Option (α × List UInt8)} {x y : α} {X Y : List UInt8}, Y = X ++ rest → rd (X ++ rest) = some (x, rest) → rd (Y ++ []) = some (y, []) → rest = [] := by
    intro α rd x y X Y h h1 h2
    rw [List.append_nil, h, h1] at h2
    simp only [Option.some.injEq, Prod.mk.injEq] at h2
    exact h2.2
  unfold encV at h
  rw [← hk] at h
  split at h
  · have r1 := numOf_range hv.n0 hv.n1
    have r2 := numOf_range hv2.n0 hv2.n1
    exact fin h (rdNum_nat _ _ r1.1 r1.2) (rdNum_nat _ _ r2.1 r2.2)
  · split at h
    · exact fin h (rdInt_read _ _ hv.n0 hv.n1) (rdInt_read _ _ hv2.n0 hv2.n1)
    · split at h
      · exact fin h (rdText_read v.S _ (by have := hs.s; omega)) (rdText_read v2.S _ (by have := hs2.s; omega))
      · split at h
        · exact fin h (rdNums_read v.L _ (by have := hs.l; omega) hv.l) (rdNums_read v2.L _ (by have := hs2.l; omega) hv2.l)
        · exact fin h (rdTexts_read v.T _ (by have := hs.tl; omega) (fun x hx => by have := hs.t x hx; omega)) (rdTexts_read v2.T _ (by have := hs2.tl; omega) (fun x hx => by have := hs2.t x hx; omega))

set_option maxHeartbeats 16000000 in
set_option maxRecDepth 100000 in
theorem prefix_no1 (K N : Int) (S : ByteArray) (la ta : Option Addr) (lc tc : Nat) (L : List Int) (T : List ByteArray)
    (K2 N2 : Int) (S2 : ByteArray) (la2 ta2 : Option Addr) (lc2 tc2 : Nat) (L2 : List Int) (T2 : List ByteArray) (w : World) (ht : Tab w)
    (hv : V.Ok w.heap.size w ⟨K, N, S, la, lc, L, ta, tc, T⟩) (hv2 : V.Ok w.heap.size w ⟨K2, N2, S2, la2, lc2, L2, ta2, tc2, T2⟩)
    (hf : ¬ Few [⟨K, N, S, la, lc, L, ta, tc, T⟩]) :
    Calls Tryd.prog 7 #[.agg #[.int .i64 K, .int .i64 N, .string S, .slice la L.length lc, .slice ta T.length tc], .agg #[.int .i64 K2, .int .i64 N2, .string S2, .slice la2 L2.length lc2, .slice ta2 T2.length tc2]] w fun e w' => e = .returned (.bool true) ∧ Below w.heap.size w w' := by
  have HV := Lib.hid hv
  have HV2 := Lib.hid hv2
  have HF := Lib.hid hf
  clear hf
  clear hv hv2
  go_enter Tryd.func7, Tryd.ntmps7
  go_wp2_with fail
  go_at_call 9
  have b0 : Below w.heap.size w ((w.alloc (.cells #[.int .i64 K, .int .i64 N, .string S, .slice la L.length lc, .slice ta T.length tc] 25)).alloc (.cells #[.int .i64 K2, .int .i64 N2, .string S2, .slice la2 L2.length lc2, .slice ta2 T2.length tc2] 25)) := ((Below.refl _ w).alloc (Nat.le_refl _) _).alloc (by simp) _
  refine (small_any _ (tab_step ht b0)).mono ?_
  rintro e w1 ⟨rfl, b1⟩
  have hs1 : w.heap.size + 2 ≤ w1.heap.size := by have := b1.size; simp at this; omega
  have k : ∀ j, w1.cell? ⟨w.heap.size, j, none⟩ = (#[.int .i64 K, .int .i64 N, .string S, .slice la L.length lc, .slice ta T.length tc] : Array Value)[j]? := fun j => by
    rw [b1.cell (p := ⟨w.heap.size, j, none⟩) (by simp; omega)]
    have := (Below.heap_alloc (w.alloc (.cells #[.int .i64 K, .int .i64 N, .string S, .slice la L.length lc, .slice ta T.length tc] 25)) (.cells #[.int .i64 K2, .int .i64 N2, .string S2, .slice la2 L2.length lc2, .slice ta2 T2.length tc2] 25) w.heap.size (by simp)).trans (heap_alloc_new w _)
    exact Lib.cell_of_heap this j
  have m : ∀ j, w1.cell? ⟨w.heap.size + 1, j, none⟩ = (#[.int .i64 K2, .int .i64 N2, .string S2, .slice la2 L2.length lc2, .slice ta2 T2.length tc2] : Array Value)[j]? := fun j => by
    rw [b1.cell (p := ⟨w.heap.size + 1, j, none⟩) (by simp)]
    have := heap_alloc_new (w.alloc (.cells #[.int .i64 K, .int .i64 N, .string S, .slice la L.length lc, .slice ta T.length tc] 25)) (.cells #[.int .i64 K2, .int .i64 N2, .string S2, .slice la2 L2.length lc2, .slice ta2 T2.length tc2] 25)
    rw [show (w.alloc (.cells #[.int .i64 K, .int .i64 N, .string S, .slice la L.length lc, .slice ta T.length tc] 25)).heap.size = w.heap.size + 1 by simp] at this
    rw [Lib.cell_of_heap this]
  have B1 := below_step b0 b1
  clear b0 b1
  have KK := Lib.hid k
  have MM := Lib.hid m
  clear k m
  have k0 := KK.out 0; have k1 := KK.out 1; have k2 := KK.out 2; have k3 := KK.out 3; have k4 := KK.out 4
  go_wp2_with fail
  have tok1 : True := trivial
  have hlt0 : w.heap.size < w1.heap.size := by omega
  have hlt1 : w.heap.size + 1 < w1.heap.size := by omega
  have hwB : w.heap.size ≤ w1.heap.size := B1.size
  have bb : Below w1.heap.size w1 w1 := Below.refl _ _
  go_region_with (first
    | (go_at_call 10; have _t := tok1; refine (few_no _ (some ⟨w1.heap.size, 0, none⟩) 1 [⟨K, N, S, la, lc, L, ta, tc, T⟩] _ (Nat.le_refl _) (by simp) (by exact ValsIn.below (one_few (w := w1) (HV.out.below B1) hwB) (Below.refl _ _).drew) HF.out).mono ?_; rintro e w2 ⟨rfl, b2⟩; replace bb := ((bb.alloc (Nat.le_refl _) _).drew).trans (b2.mono (by simp)); clear tok1 b2 k0 k1 k2 k3 k4; have k0 := (bb.cell (p := ⟨w.heap.size, 0, none⟩) hlt0).trans (KK.out 0); have k1 := (bb.cell (p := ⟨w.heap.size, 1, none⟩) hlt0).trans (KK.out 1); have k2 := (bb.cell (p := ⟨w.heap.size, 2, none⟩) hlt0).trans (KK.out 2); have k3 := (bb.cell (p := ⟨w.heap.size, 3, none⟩) hlt0).trans (KK.out 3); have k4 := (bb.cell (p := ⟨w.heap.size, 4, none⟩) hlt0).trans (KK.out 4); have m0 := (bb.cell (p := ⟨w.heap.size + 1, 0, none⟩) hlt1).trans (MM.out 0); have m1 := (bb.cell (p := ⟨w.heap.size + 1, 1, none⟩) hlt1).trans (MM.out 1); have m2 := (bb.cell (p := ⟨w.heap.size + 1, 2, none⟩) hlt1).trans (MM.out 2); have m3 := (bb.cell (p := ⟨w.heap.size + 1, 3, none⟩) hlt1).trans (MM.out 3); have m4 := (bb.cell (p := ⟨w.heap.size + 1, 4, none⟩) hlt1).trans (MM.out 4)))
  all_goals
    have BW := B1.trans (bb.mono hwB)
    go_wp2_with fail
    go_ret
    exact ⟨rfl, BW⟩
set_option maxHeartbeats 16000000 in
set_option maxRecDepth 100000 in
theorem prefix_no2 (K N : Int) (S : ByteArray) (la ta : Option Addr) (lc tc : Nat) (L : List Int) (T : List ByteArray)
    (K2 N2 : Int) (S2 : ByteArray) (la2 ta2 : Option Addr) (lc2 tc2 : Nat) (L2 : List Int) (T2 : List ByteArray) (w : World) (ht : Tab w)
    (hv : V.Ok w.heap.size w ⟨K, N, S, la, lc, L, ta, tc, T⟩) (hv2 : V.Ok w.heap.size w ⟨K2, N2, S2, la2, lc2, L2, ta2, tc2, T2⟩)
    (hf : Few [⟨K, N, S, la, lc, L, ta, tc, T⟩]) (hf2 : ¬ Few [⟨K2, N2, S2, la2, lc2, L2, ta2, tc2, T2⟩]) :
    Calls Tryd.prog 7 #[.agg #[.int .i64 K, .int .i64 N, .string S, .slice la L.length lc, .slice ta T.length tc], .agg #[.int .i64 K2, .int .i64 N2, .string S2, .slice la2 L2.length lc2, .slice ta2 T2.length tc2]] w fun e w' => e = .returned (.bool true) ∧ Below w.heap.size w w' := by
  have HV := Lib.hid hv
  have HV2 := Lib.hid hv2
  have HF := Lib.hid hf
  have HF2 := Lib.hid hf2
  clear hf hf2
  clear hv hv2
  go_enter Tryd.func7, Tryd.ntmps7
  go_wp2_with fail
  go_at_call 9
  have b0 : Below w.heap.size w ((w.alloc (.cells #[.int .i64 K, .int .i64 N, .string S, .slice la L.length lc, .slice ta T.length tc] 25)).alloc (.cells #[.int .i64 K2, .int .i64 N2, .string S2, .slice la2 L2.length lc2, .slice ta2 T2.length tc2] 25)) := ((Below.refl _ w).alloc (Nat.le_refl _) _).alloc (by simp) _
  refine (small_any _ (tab_step ht b0)).mono ?_
  rintro e w1 ⟨rfl, b1⟩
  have hs1 : w.heap.size + 2 ≤ w1.heap.size := by have := b1.size; simp at this; omega
  have k : ∀ j, w1.cell? ⟨w.heap.size, j, none⟩ = (#[.int .i64 K, .int .i64 N, .string S, .slice la L.length lc, .slice ta T.length tc] : Array Value)[j]? := fun j => by
    rw [b1.cell (p := ⟨w.heap.size, j, none⟩) (by simp; omega)]
    have := (Below.heap_alloc (w.alloc (.cells #[.int .i64 K, .int .i64 N, .string S, .slice la L.length lc, .slice ta T.length tc] 25)) (.cells #[.int .i64 K2, .int .i64 N2, .string S2, .slice la2 L2.length lc2, .slice ta2 T2.length tc2] 25) w.heap.size (by simp)).trans (heap_alloc_new w _)
    exact Lib.cell_of_heap this j
  have m : ∀ j, w1.cell? ⟨w.heap.size + 1, j, none⟩ = (#[.int .i64 K2, .int .i64 N2, .string S2, .slice la2 L2.length lc2, .slice ta2 T2.length tc2] : Array Value)[j]? := fun j => by
    rw [b1.cell (p := ⟨w.heap.size + 1, j, none⟩) (by simp)]
    have := heap_alloc_new (w.alloc (.cells #[.int .i64 K, .int .i64 N, .string S, .slice la L.length lc, .slice ta T.length tc] 25)) (.cells #[.int .i64 K2, .int .i64 N2, .string S2, .slice la2 L2.length lc2, .slice ta2 T2.length tc2] 25)
    rw [show (w.alloc (.cells #[.int .i64 K, .int .i64 N, .string S, .slice la L.length lc, .slice ta T.length tc] 25)).heap.size = w.heap.size + 1 by simp] at this
    rw [Lib.cell_of_heap this]
  have B1 := below_step b0 b1
  clear b0 b1
  have KK := Lib.hid k
  have MM := Lib.hid m
  clear k m
  have k0 := KK.out 0; have k1 := KK.out 1; have k2 := KK.out 2; have k3 := KK.out 3; have k4 := KK.out 4
  go_wp2_with fail
  have tok1 : True := trivial
  have hlt0 : w.heap.size < w1.heap.size := by omega
  have hlt1 : w.heap.size + 1 < w1.heap.size := by omega
  have hwB : w.heap.size ≤ w1.heap.size := B1.size
  have bb : Below w1.heap.size w1 w1 := Below.refl _ _
  go_region_with (first
    | (go_at_call 10; have _t := tok1; refine (few_yes _ (some ⟨w1.heap.size, 0, none⟩) 1 [⟨K, N, S, la, lc, L, ta, tc, T⟩] _ (Nat.le_refl _) (by simp) (by exact ValsIn.below (one_few (w := w1) (HV.out.below B1) hwB) (Below.refl _ _).drew) HF.out).mono ?_; rintro e w2 ⟨rfl, b2⟩; replace bb := ((bb.alloc (Nat.le_refl _) _).drew).trans (b2.mono (by simp)); clear tok1 b2 k0 k1 k2 k3 k4; have k0 := (bb.cell (p := ⟨w.heap.size, 0, none⟩) hlt0).trans (KK.out 0); have k1 := (bb.cell (p := ⟨w.heap.size, 1, none⟩) hlt0).trans (KK.out 1); have k2 := (bb.cell (p := ⟨w.heap.size, 2, none⟩) hlt0).trans (KK.out 2); have k3 := (bb.cell (p := ⟨w.heap.size, 3, none⟩) hlt0).trans (KK.out 3); have k4 := (bb.cell (p := ⟨w.heap.size, 4, none⟩) hlt0).trans (KK.out 4); have m0 := (bb.cell (p := ⟨w.heap.size + 1, 0, none⟩) hlt1).trans (MM.out 0); have m1 := (bb.cell (p := ⟨w.heap.size + 1, 1, none⟩) hlt1).trans (MM.out 1); have m2 := (bb.cell (p := ⟨w.heap.size + 1, 2, none⟩) hlt1).trans (MM.out 2); have m3 := (bb.cell (p := ⟨w.heap.size + 1, 3, none⟩) hlt1).trans (MM.out 3); have m4 := (bb.cell (p := ⟨w.heap.size + 1, 4, none⟩) hlt1).trans (MM.out 4))
    | (go_at_call 10; refine (few_no _ _ 1 [⟨K2, N2, S2, la2, lc2, L2, ta2, tc2, T2⟩] _ (Nat.le_refl _) (by simp) (by exact one_few (HV2.out.below (B1.trans (bb.mono hwB))) (Nat.le_trans hwB bb.size)) HF2.out).mono ?_; rintro e w3 ⟨rfl, b2⟩; replace bb := (bb.alloc bb.size _).trans (b2.mono (by have := bb.size; simp; omega)); clear b2 k0 k1 k2 k3 k4 m0 m1 m2 m3 m4; have k0 := (bb.cell (p := ⟨w.heap.size, 0, none⟩) hlt0).trans (KK.out 0); have k1 := (bb.cell (p := ⟨w.heap.size, 1, none⟩) hlt0).trans (KK.out 1); have k2 := (bb.cell (p := ⟨w.heap.size, 2, none⟩) hlt0).trans (KK.out 2); have k3 := (bb.cell (p := ⟨w.heap.size, 3, none⟩) hlt0).trans (KK.out 3); have k4 := (bb.cell (p := ⟨w.heap.size, 4, none⟩) hlt0).trans (KK.out 4); have m0 := (bb.cell (p := ⟨w.heap.size + 1, 0, none⟩) hlt1).trans (MM.out 0); have m1 := (bb.cell (p := ⟨w.heap.size + 1, 1, none⟩) hlt1).trans (MM.out 1); have m2 := (bb.cell (p := ⟨w.heap.size + 1, 2, none⟩) hlt1).trans (MM.out 2); have m3 := (bb.cell (p := ⟨w.heap.size + 1, 3, none⟩) hlt1).trans (MM.out 3); have m4 := (bb.cell (p := ⟨w.heap.size + 1, 4, none⟩) hlt1).trans (MM.out 4)))
  all_goals
    have BW := B1.trans (bb.mono hwB)
    go_wp2_with fail
    go_ret
    exact ⟨rfl, BW⟩
set_option maxHeartbeats 16000000 in
set_option maxRecDepth 100000 in
theorem prefix_no3 (K N : Int) (S : ByteArray) (la ta : Option Addr) (lc tc : Nat) (L : List Int) (T : List ByteArray)
    (K2 N2 : Int) (S2 : ByteArray) (la2 ta2 : Option Addr) (lc2 tc2 : Nat) (L2 : List Int) (T2 : List ByteArray) (w : World) (ht : Tab w)
    (hv : V.Ok w.heap.size w ⟨K, N, S, la, lc, L, ta, tc, T⟩) (hv2 : V.Ok w.heap.size w ⟨K2, N2, S2, la2, lc2, L2, ta2, tc2, T2⟩)
    (hf : Few [⟨K, N, S, la, lc, L, ta, tc, T⟩]) (hf2 : Few [⟨K2, N2, S2, la2, lc2, L2, ta2, tc2, T2⟩]) (hk : ¬ K % 5 = K2 % 5) :
    Calls Tryd.prog 7 #[.agg #[.int .i64 K, .int .i64 N, .string S, .slice la L.length lc, .slice ta T.length tc], .agg #[.int .i64 K2, .int .i64 N2, .string S2, .slice la2 L2.length lc2, .slice ta2 T2.length tc2]] w fun e w' => e = .returned (.bool true) ∧ Below w.heap.size w w' := by
  have HV := Lib.hid hv
  have HV2 := Lib.hid hv2
  have HF := Lib.hid hf
  have HF2 := Lib.hid hf2
  have hkb : (K % 5 != K2 % 5) = true := by rw [bne_iff_ne]; exact hk
  clear hf hf2 hk
  clear hv hv2
  go_enter Tryd.func7, Tryd.ntmps7
  go_wp2_with fail
  go_at_call 9
  have b0 : Below w.heap.size w ((w.alloc (.cells #[.int .i64 K, .int .i64 N, .string S, .slice la L.length lc, .slice ta T.length tc] 25)).alloc (.cells #[.int .i64 K2, .int .i64 N2, .string S2, .slice la2 L2.length lc2, .slice ta2 T2.length tc2] 25)) := ((Below.refl _ w).alloc (Nat.le_refl _) _).alloc (by simp) _
  refine (small_any _ (tab_step ht b0)).mono ?_
  rintro e w1 ⟨rfl, b1⟩
  have hs1 : w.heap.size + 2 ≤ w1.heap.size := by have := b1.size; simp at this; omega
  have k : ∀ j, w1.cell? ⟨w.heap.size, j, none⟩ = (#[.int .i64 K, .int .i64 N, .string S, .slice la L.length lc, .slice ta T.length tc] : Array Value)[j]? := fun j => by
    rw [b1.cell (p := ⟨w.heap.size, j, none⟩) (by simp; omega)]
    have := (Below.heap_alloc (w.alloc (.cells #[.int .i64 K, .int .i64 N, .string S, .slice la L.length lc, .slice ta T.length tc] 25)) (.cells #[.int .i64 K2, .int .i64 N2, .string S2, .slice la2 L2.length lc2, .slice ta2 T2.length tc2] 25) w.heap.size (by simp)).trans (heap_alloc_new w _)
    exact Lib.cell_of_heap this j
  have m : ∀ j, w1.cell? ⟨w.heap.size + 1, j, none⟩ = (#[.int .i64 K2, .int .i64 N2, .string S2, .slice la2 L2.length lc2, .slice ta2 T2.length tc2] : Array Value)[j]? := fun j => by
    rw [b1.cell (p := ⟨w.heap.size + 1, j, none⟩) (by simp)]
    have := heap_alloc_new (w.alloc (.cells #[.int .i64 K, .int .i64 N, .string S, .slice la L.length lc, .slice ta T.length tc] 25)) (.cells #[.int .i64 K2, .int .i64 N2, .string S2, .slice la2 L2.length lc2, .slice ta2 T2.length tc2] 25)
    rw [show (w.alloc (.cells #[.int .i64 K, .int .i64 N, .string S, .slice la L.length lc, .slice ta T.length tc] 25)).heap.size = w.heap.size + 1 by simp] at this
    rw [Lib.cell_of_heap this]
  have B1 := below_step b0 b1
  clear b0 b1
  have KK := Lib.hid k
  have MM := Lib.hid m
  clear k m
  have k0 := KK.out 0; have k1 := KK.out 1; have k2 := KK.out 2; have k3 := KK.out 3; have k4 := KK.out 4
  go_wp2_with fail
  have tok1 : True := trivial
  have hlt0 : w.heap.size < w1.heap.size := by omega
  have hlt1 : w.heap.size + 1 < w1.heap.size := by omega
  have hwB : w.heap.size ≤ w1.heap.size := B1.size
  have bb : Below w1.heap.size w1 w1 := Below.refl _ _
  go_region_with (first
    | (go_at_call 10; have _t := tok1; refine (few_yes _ (some ⟨w1.heap.size, 0, none⟩) 1 [⟨K, N, S, la, lc, L, ta, tc, T⟩] _ (Nat.le_refl _) (by simp) (by exact ValsIn.below (one_few (w := w1) (HV.out.below B1) hwB) (Below.refl _ _).drew) HF.out).mono ?_; rintro e w2 ⟨rfl, b2⟩; replace bb := ((bb.alloc (Nat.le_refl _) _).drew).trans (b2.mono (by simp)); clear tok1 b2 k0 k1 k2 k3 k4; have k0 := (bb.cell (p := ⟨w.heap.size, 0, none⟩) hlt0).trans (KK.out 0); have k1 := (bb.cell (p := ⟨w.heap.size, 1, none⟩) hlt0).trans (KK.out 1); have k2 := (bb.cell (p := ⟨w.heap.size, 2, none⟩) hlt0).trans (KK.out 2); have k3 := (bb.cell (p := ⟨w.heap.size, 3, none⟩) hlt0).trans (KK.out 3); have k4 := (bb.cell (p := ⟨w.heap.size, 4, none⟩) hlt0).trans (KK.out 4); have m0 := (bb.cell (p := ⟨w.heap.size + 1, 0, none⟩) hlt1).trans (MM.out 0); have m1 := (bb.cell (p := ⟨w.heap.size + 1, 1, none⟩) hlt1).trans (MM.out 1); have m2 := (bb.cell (p := ⟨w.heap.size + 1, 2, none⟩) hlt1).trans (MM.out 2); have m3 := (bb.cell (p := ⟨w.heap.size + 1, 3, none⟩) hlt1).trans (MM.out 3); have m4 := (bb.cell (p := ⟨w.heap.size + 1, 4, none⟩) hlt1).trans (MM.out 4))
    | (go_at_call 10; refine (few_yes _ _ 1 [⟨K2, N2, S2, la2, lc2, L2, ta2, tc2, T2⟩] _ (Nat.le_refl _) (by simp) (by exact one_few (HV2.out.below (B1.trans (bb.mono hwB))) (Nat.le_trans hwB bb.size)) HF2.out).mono ?_; rintro e w3 ⟨rfl, b2⟩; replace bb := (bb.alloc bb.size _).trans (b2.mono (by have := bb.size; simp; omega)); clear b2 k0 k1 k2 k3 k4 m0 m1 m2 m3 m4; have k0 := (bb.cell (p := ⟨w.heap.size, 0, none⟩) hlt0).trans (KK.out 0); have k1 := (bb.cell (p := ⟨w.heap.size, 1, none⟩) hlt0).trans (KK.out 1); have k2 := (bb.cell (p := ⟨w.heap.size, 2, none⟩) hlt0).trans (KK.out 2); have k3 := (bb.cell (p := ⟨w.heap.size, 3, none⟩) hlt0).trans (KK.out 3); have k4 := (bb.cell (p := ⟨w.heap.size, 4, none⟩) hlt0).trans (KK.out 4); have m0 := (bb.cell (p := ⟨w.heap.size + 1, 0, none⟩) hlt1).trans (MM.out 0); have m1 := (bb.cell (p := ⟨w.heap.size + 1, 1, none⟩) hlt1).trans (MM.out 1); have m2 := (bb.cell (p := ⟨w.heap.size + 1, 2, none⟩) hlt1).trans (MM.out 2); have m3 := (bb.cell (p := ⟨w.heap.size + 1, 3, none⟩) hlt1).trans (MM.out 3); have m4 := (bb.cell (p := ⟨w.heap.size + 1, 4, none⟩) hlt1).trans (MM.out 4))
    | (go_at_call 23; refine (kind_any _ _ _ _ _ _ _ _ _ _).mono ?_; rintro e w4 ⟨rfl, b2⟩; replace bb := bb.trans (b2.mono bb.size); clear b2 k0 k1 k2 k3 k4 m0 m1 m2 m3 m4; have k0 := (bb.cell (p := ⟨w.heap.size, 0, none⟩) hlt0).trans (KK.out 0); have k1 := (bb.cell (p := ⟨w.heap.size, 1, none⟩) hlt0).trans (KK.out 1); have k2 := (bb.cell (p := ⟨w.heap.size, 2, none⟩) hlt0).trans (KK.out 2); have k3 := (bb.cell (p := ⟨w.heap.size, 3, none⟩) hlt0).trans (KK.out 3); have k4 := (bb.cell (p := ⟨w.heap.size, 4, none⟩) hlt0).trans (KK.out 4); have m0 := (bb.cell (p := ⟨w.heap.size + 1, 0, none⟩) hlt1).trans (MM.out 0); have m1 := (bb.cell (p := ⟨w.heap.size + 1, 1, none⟩) hlt1).trans (MM.out 1); have m2 := (bb.cell (p := ⟨w.heap.size + 1, 2, none⟩) hlt1).trans (MM.out 2); have m3 := (bb.cell (p := ⟨w.heap.size + 1, 3, none⟩) hlt1).trans (MM.out 3); have m4 := (bb.cell (p := ⟨w.heap.size + 1, 4, none⟩) hlt1).trans (MM.out 4)))
  all_goals
    have BW := B1.trans (bb.mono hwB)
    go_wp2_with fail
    go_ret
    exact ⟨rfl, BW⟩
end Go.Proofs.YtenlbohacgamlaaDoor
