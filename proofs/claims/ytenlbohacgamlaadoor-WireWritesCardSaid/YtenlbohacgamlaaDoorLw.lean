/-
  WireWrites: the walk.
-/
import Derived.Test.YtenlbohacgamlaaDoorRw
import Derived.Test.YtenlbohacgamlaaDoorFw
import Derived.Lib.QuietBelow
namespace Go.Proofs.YtenlbohacgamlaaDoor
open Go.RowKit Go.Sort WireM
set_option linter.unusedVariables false
set_option linter.unusedSimpArgs false

theorem one_few {w : World} {v : V} {B : Nat} (hv : v.Ok B w) (hB : B ≤ w.heap.size) : ValsIn (w.alloc (.cells v.cells 25)).heap.size (w.alloc (.cells v.cells 25)) (some ⟨w.heap.size, 0, none⟩) [v] := by
  refine .inr ⟨w.heap.size, 0, rfl, by simp, fun i hi j hj => ?_, fun x hx => ?_⟩
  · have hi0 : i = 0 := by simpa using hi
    subst hi0
    rw [Lib.cell_of_heap (heap_alloc_new w _)]
    simp
  · have hxv : x = v := by simpa using hx
    rw [hxv]
    have h2 := hv.below ((Below.refl B w).alloc hB (.cells v.cells 25))
    exact ⟨h2.n0, h2.n1, h2.l, h2.cl.imp id fun ⟨b, o, h1, h2, h3⟩ => ⟨b, o, h1, by simp; omega, h3⟩, h2.ct.imp id fun ⟨b, o, h1, h2, h3⟩ => ⟨b, o, h1, by simp; omega, h3⟩⟩

def numEnc (n : Int) : List UInt8 := if n < 0 then [] else encInt n
theorem num_both (n : Int) (h0 : -9223372036854775808 ≤ n) (h1 : n ≤ 9223372036854775807) (w : World) (ht : Tab w) :
    Calls Tryd.prog 11 #[.int .i64 n] w fun e w' => e = .returned (.string (bs (numEnc n))) ∧ Below w.heap.size w w' := by
  unfold numEnc
  by_cases h : n < 0
  · rw [if_pos h]
    exact (num_neg n h w).mono fun e w' ⟨he, hw⟩ => ⟨he, by rw [← hw]; exact Below.refl _ _⟩
  · rw [if_neg h]
    exact num_any n (by omega) h1 w ht
theorem rwNum_both (n : Int) (h0 : -9223372036854775808 ≤ n) (h1 : n ≤ 9223372036854775807) (w : World) :
    Calls Tryd.prog 12 #[.int .i64 n] w fun e w' => e = .returned (.string (bs (numEnc n))) ∧ Below w.heap.size w w' := by
  unfold numEnc
  by_cases h : n < 0
  · rw [if_pos h]
    exact rwNum_neg n h w
  · rw [if_neg h]
    exact rwNum_pos n (by omega) h1 w

set_option maxHeartbeats 2000000 in
set_option maxRecDepth 100000 in
theorem writes_any (K N : Int) (S : ByteArray) (la ta : Option Addr) (lc tc : Nat) (L : List Int) (T : List ByteArray) (w : World) (ht : Tab w)
    (hv : V.Ok w.heap.size w ⟨K, N, S, la, lc, L, ta, tc, T⟩) :
    Calls Tryd.prog 3 #[.agg #[.int .i64 K, .int .i64 N, .string S, .slice la L.length lc, .slice ta T.length tc]] w fun e w' => e = .returned (.bool true) ∧ Below w.heap.size w w' := by
  have HV := Lib.hid hv
  clear hv
  go_enter Tryd.func3, Tryd.ntmps3
  go_wp2_with fail
  go_at_call 9
  refine (small_any _ (tab_step ht ((Below.refl _ w).alloc (Nat.le_refl _) _))).mono ?_
  rintro e w1 ⟨rfl, b1⟩
  have k0 := box_cells b1 0
  have k1 := box_cells b1 1
  have k2 := box_cells b1 2
  have k3 := box_cells b1 3
  have k4 := box_cells b1 4
  have B1 : Below w.heap.size w w1 := ((Below.refl _ w).alloc (Nat.le_refl _) _).trans (b1.mono (by simp))
  have hs1 : w.heap.size < w1.heap.size := by have := b1.size; simp at this; omega
  have HV1 := Lib.hid (HV.out.below B1)
  clear b1
  go_wp2_with fail
  go_at_call 10
  refine (few_any _ (some ⟨w1.heap.size, 0, none⟩) 1 [⟨K, N, S, la, lc, L, ta, tc, T⟩] _ (Nat.le_refl _) (by simp) (by exact one_few HV1.out (Nat.le_of_lt hs1))).mono ?_
  rintro e w2 ⟨r, rfl, hr, q, rfl⟩
  have HR := Lib.hid hr
  clear hr
  have B3 : Below w1.heap.size w1 ((w1.alloc (.cells #[.int .i64 K, .int .i64 N, .string S, .slice la L.length lc, .slice ta T.length tc] 25)).drewN q) := Go.below_drewN ((Below.refl _ w1).alloc (Nat.le_refl _) _) q
  have B13 := below_step B1 B3
  cases r
  · go_wp2_with fail
    go_ret
    exact ⟨rfl, B13⟩
  · have hf := HR.out.1 rfl
    have hsm : V.Small ⟨K, N, S, la, lc, L, ta, tc, T⟩ := hf.2.1 _ List.mem_cons_self
    have HOK := Lib.hid (HV.out.below B13)
    have HS := Lib.hid hsm
    clear hf hsm HR HV1
    have HC := Lib.hid (show ∀ j, ((w1.alloc (.cells #[.int .i64 K, .int .i64 N, .string S, .slice la L.length lc, .slice ta T.length tc] 25)).drewN q).cell? ⟨w.heap.size, j, none⟩ = w1.cell? ⟨w.heap.size, j, none⟩ from fun j => B3.cell (p := ⟨w.heap.size, j, none⟩) hs1)
    generalize (w1.alloc (.cells #[.int .i64 K, .int .i64 N, .string S, .slice la L.length lc, .slice ta T.length tc] 25)).drewN q = w3 at *
    have ht3 := tab_step ht B13
    have hB3 := B13.size
    have r1 := cell_regrown ((HC.out 1).trans k1)
    have r2 := cell_regrown ((HC.out 2).trans k2)
    have cA : ∀ d os, Calls Tryd.prog 11 #[.int .i64 N] (grow (redrawn w3 d) os) fun e w'' => e = .returned (.string (bs (numEnc N))) ∧ ∃ p : Regrown, w'' = grow (redrawn w3 p.d) p.os := fun d os => Calls.regrown_of (num_both N HOK.out.n0 HOK.out.n1 _ (tab_step ht3 (below_regrown w3 d os)))
    have cB : ∀ d os, Calls Tryd.prog 12 #[.int .i64 N] (grow (redrawn w3 d) os) fun e w'' => e = .returned (.string (bs (numEnc N))) ∧ ∃ p : Regrown, w'' = grow (redrawn w3 p.d) p.os := fun d os => Calls.regrown_of (rwNum_both N HOK.out.n0 HOK.out.n1 _)
    have cC : ∀ d os, Calls Tryd.prog 13 #[.int .i64 N] (grow (redrawn w3 d) os) fun e w'' => e = .returned (.string (bs (encInt N))) ∧ ∃ p : Regrown, w'' = grow (redrawn w3 p.d) p.os := fun d os => Calls.regrown_of (int_any N HOK.out.n0 HOK.out.n1 _ (tab_step ht3 (below_regrown w3 d os)))
    have cD : ∀ d os, Calls Tryd.prog 14 #[.int .i64 N] (grow (redrawn w3 d) os) fun e w'' => e = .returned (.string (bs (encInt N))) ∧ ∃ p : Regrown, w'' = grow (redrawn w3 p.d) p.os := fun d os => Calls.regrown_of (rwInt_any N HOK.out.n0 HOK.out.n1 _)
    have hss : S.size ≤ 400 := HS.out.s
    have cE : ∀ d os, Calls Tryd.prog 15 #[.string S] (grow (redrawn w3 d) os) fun e w'' => e = .returned (.string (bs (encText S.data.toList))) ∧ ∃ p : Regrown, w'' = grow (redrawn w3 p.d) p.os := fun d os => Calls.regrown_of (text_any S (by omega) _ (tab_step ht3 (below_regrown w3 d os)))
    have cF : ∀ d os, Calls Tryd.prog 16 #[.string S] (grow (redrawn w3 d) os) fun e w'' => e = .returned (.string (bs (encText S.data.toList))) ∧ ∃ p : Regrown, w'' = grow (redrawn w3 p.d) p.os := fun d os => Calls.regrown_of (rwText_any S (by omega) _)
    go_wp2_with fail
    refine wp_region_quiet_below (by kernel_rfl) (by kernel_rfl) ?_
    repeat (quiet_step (first | exact cA _ _ | exact cB _ _ | exact cC _ _ | exact cD _ _ | exact cE _ _ | exact cF _ _))
    refine wpQuiet_nil ?_
    intro _ hw'
    obtain ⟨⟨dq, osq⟩, hw''⟩ := hw'
    subst hw''
    have B4 := below_regrown w3 dq osq
    have B14 := below_step B13 B4
    have q3 : (grow (redrawn w3 dq) osq).cell? ⟨w.heap.size, 3, none⟩ = some (.slice la L.length lc) := cell_regrown ((HC.out 3).trans k3) dq osq
    have q4 : (grow (redrawn w3 dq) osq).cell? ⟨w.heap.size, 4, none⟩ = some (.slice ta T.length tc) := cell_regrown ((HC.out 4).trans k4) dq osq
    clear r1 r2 cA cB cC cD cE cF B4
    generalize grow (redrawn w3 dq) osq = w4 at *
    have ht4 := tab_step ht B14
    have hB4 := B14.size
    have r3 := cell_regrown q3
    have r4 := cell_regrown q4
    have HO4 := Lib.hid (HV.out.below B14)
    have hl4 : L.length ≤ 400 := HS.out.l
    have HT4 := Lib.hid (encTexts_small T HS.out.tl HS.out.t)
    have HCL := Lib.hid (fun d os => show CellsAt (grow (redrawn w4 d) os) la (L.map (Value.int .i64)) from (HO4.out.cl.below ((below_regrown w4 d os).mono hB4)).at (Nat.le_trans hB4 (below_regrown w4 d os).size))
    have HCT := Lib.hid (fun d os => show CellsAt (grow (redrawn w4 d) os) ta (T.map Value.string) from (HO4.out.ct.below ((below_regrown w4 d os).mono hB4)).at (Nat.le_trans hB4 (below_regrown w4 d os).size))
    have cA : ∀ d os, Calls Tryd.prog 17 #[.slice la L.length lc] (grow (redrawn w4 d) os) fun e w'' => e = .returned (.string (bs (encNums L))) ∧ ∃ p : Regrown, w'' = grow (redrawn w4 p.d) p.os := fun d os => Calls.regrown_of (nums_any la lc L _ (tab_step ht4 (below_regrown w4 d os)) (by omega) HO4.out.l (HCL.out d os))
    have cB : ∀ d os, Calls Tryd.prog 18 #[.slice la L.length lc] (grow (redrawn w4 d) os) fun e w'' => e = .returned (.string (bs (encNums L))) ∧ ∃ p : Regrown, w'' = grow (redrawn w4 p.d) p.os := fun d os => Calls.regrown_of (rwNums_any la lc L _ (by omega) HO4.out.l (HCL.out d os))
    have cC : ∀ d os, Calls Tryd.prog 19 #[.slice ta T.length tc] (grow (redrawn w4 d) os) fun e w'' => e = .returned (.string (bs (encTexts T))) ∧ ∃ p : Regrown, w'' = grow (redrawn w4 p.d) p.os := fun d os => Calls.regrown_of (texts_any ta tc T _ (tab_step ht4 (below_regrown w4 d os)) (Nat.le_trans HT4.out (by omega)) (HCT.out d os))
    have cD : ∀ d os, Calls Tryd.prog 20 #[.slice ta T.length tc] (grow (redrawn w4 d) os) fun e w'' => e = .returned (.string (bs (encTexts T))) ∧ ∃ p : Regrown, w'' = grow (redrawn w4 p.d) p.os := fun d os => Calls.regrown_of (rwTexts_any ta tc T _ (Nat.le_trans HT4.out (by omega)) (HCT.out d os))
    go_wp2_with fail
    refine wp_region_quiet_below (by kernel_rfl) (by kernel_rfl) ?_
    repeat (quiet_step (first | exact cA _ _ | exact cB _ _ | exact cC _ _ | exact cD _ _))
    refine wpQuiet_nil ?_
    intro _ hw'
    obtain ⟨⟨dq2, osq2⟩, hw''⟩ := hw'
    subst hw''
    go_wp2_with fail
    go_ret
    exact ⟨rfl, below_step B14 (below_regrown w4 dq2 osq2)⟩
end Go.Proofs.YtenlbohacgamlaaDoor
