/-
  THE STATEMENTS' OWN HELPERS, continued: equal, where the reader stands at the value's encoding.
-/
import Derived.Test.YtenlbohacgamlaaDoorEv
namespace Go.Proofs.YtenlbohacgamlaaDoor
open Go.RowKit WireM
set_option linter.unusedVariables false
set_option linter.unusedSimpArgs false

theorem grownBy_cell {b : Nat} {w w' : World} (h : w.grownBy w' (some b)) {p : Addr} (h1 : p.block < w.heap.size) (h2 : p.block ≠ b) : w'.cell? p = w.cell? p :=
  World.cell?_of_block (w := w) (h.block p.block h1 (by simpa using h2))

theorem RdOut.drawn {b q : Nat} {w w' : World} {s : ByteArray} {f : Bool} (h : RdOut b w w' s f) : RdOut b w (w'.drewN q) s f := ⟨h.1, h.2.os, h.2.tape, h.2.output, h.2.size, h.2.block⟩
theorem RdOut.from {b : Nat} {w w1 w' : World} {s : ByteArray} {f : Bool} (B1 : Below w.heap.size w w1) (h : RdOut b w1.drew w' s f) : RdOut b w w' s f :=
  ⟨h.1, grownBy_trans (grownBy_to (grownBy_of_below B1)) ⟨h.2.os, h.2.tape, h.2.output, h.2.size, h.2.block⟩⟩
theorem CellsIn.grown {B b : Nat} {w w' : World} {a : Option Addr} {xs : List Value} (h : CellsIn B w a xs) (hb : w.grownBy w' (some b)) (hB : B ≤ b) (hw : b < w.heap.size) : CellsAt w' a xs :=
  (h.below (below_of_grownBy hb hB hw)).at (by have := hb.size; omega)

set_option maxHeartbeats 1000000 in
theorem equal_0 (b : Nat) (s : ByteArray) (t : List UInt8) (K N : Int) (S : ByteArray) (la ta : Option Addr) (ll lc tl tc : Nat) (w : World) (h : Rd w b s false) (hs : s.size ≤ 1099511627776) (hk : K % 5 = 0) (n0 : -9223372036854775808 ≤ N) (n1 : N ≤ 9223372036854775807) (hd : rdNum s.data.toList = some (numOf N, t)) :
    Calls Tryd.prog 43 #[.pointer (some ⟨b, 0, none⟩), .agg #[.int .i64 K, .int .i64 N, .string S, .slice la ll lc, .slice ta tl tc]] w fun e w' => e = .returned (.bool true) ∧ RdOut b w w' (bs t) false := by
  have HK := Lib.hid hk
  have HD := Lib.hid hd
  have hlt := h.lt
  clear hk hd
  go_enter Tryd.func43, Tryd.ntmps43
  go_wp2_with fail
  go_at_call 23
  refine (kind_any K N S la ta _ lc _ tc _).mono ?_
  rintro e w1 ⟨rfl, b1⟩
  rw [HK.out]
  have c1 := box_cells b1 1
  have B1 : Below w.heap.size w w1 := ((Below.refl _ w).alloc (Nat.le_refl _) _).trans (b1.mono (by simp))
  have hs1 : w.heap.size < w1.heap.size := by have := b1.size; simp at this; omega
  have hr := h.below B1
  clear b1
  go_wp2_with fail
  go_region_with (first | (go_at_call 24; refine (rNum_any b s false _ (by exact hr) hs).mono ?_; rintro e w2 hp; rw [HD.out] at hp; obtain ⟨rfl, ho⟩ := hp; have c2 := grownBy_cell ho.2 (p := ⟨w.heap.size, 1, none⟩) hs1 (by simp; omega)) | (go_at_call 57; refine (number_any N n0 n1 _).mono ?_; rintro e w3 ⟨rfl, rfl⟩))
  all_goals
    go_wp2_with fail
    go_ret
    exact ⟨rfl, RdOut.from B1 (by assumption)⟩

set_option maxHeartbeats 1000000 in
theorem equal_1 (b : Nat) (s : ByteArray) (t : List UInt8) (K N : Int) (S : ByteArray) (la ta : Option Addr) (ll lc tl tc : Nat) (w : World) (h : Rd w b s false) (hs : s.size ≤ 1099511627776) (hk : K % 5 = 1) (hd : rdInt s.data.toList = some (N, t)) :
    Calls Tryd.prog 43 #[.pointer (some ⟨b, 0, none⟩), .agg #[.int .i64 K, .int .i64 N, .string S, .slice la ll lc, .slice ta tl tc]] w fun e w' => e = .returned (.bool true) ∧ RdOut b w w' (bs t) false := by
  have HK := Lib.hid hk
  have HD := Lib.hid hd
  have hlt := h.lt
  clear hk hd
  go_enter Tryd.func43, Tryd.ntmps43
  go_wp2_with fail
  go_at_call 23
  refine (kind_any K N S la ta _ lc _ tc _).mono ?_
  rintro e w1 ⟨rfl, b1⟩
  rw [HK.out]
  have c1 := box_cells b1 1
  have B1 : Below w.heap.size w w1 := ((Below.refl _ w).alloc (Nat.le_refl _) _).trans (b1.mono (by simp))
  have hs1 : w.heap.size < w1.heap.size := by have := b1.size; simp at this; omega
  have hr := h.below B1
  clear b1
  go_wp2_with fail
  go_region_with ((go_at_call 26; refine (rInt_any b s false _ (by exact hr) hs).mono ?_; rintro e w2 hp; rw [HD.out] at hp; obtain ⟨rfl, ho⟩ := hp; have c2 := grownBy_cell ho.2 (p := ⟨w.heap.size, 1, none⟩) hs1 (by simp; omega)))
  all_goals
    go_wp2_with fail
    go_ret
    exact ⟨rfl, RdOut.from B1 (by assumption)⟩

set_option maxHeartbeats 1000000 in
theorem equal_2 (b : Nat) (s : ByteArray) (t : List UInt8) (K N : Int) (S : ByteArray) (la ta : Option Addr) (ll lc tl tc : Nat) (w : World) (h : Rd w b s false) (hs : s.size ≤ 1099511627776) (hk : K % 5 = 2) (hd : rdText s.data.toList = some (S, t)) :
    Calls Tryd.prog 43 #[.pointer (some ⟨b, 0, none⟩), .agg #[.int .i64 K, .int .i64 N, .string S, .slice la ll lc, .slice ta tl tc]] w fun e w' => e = .returned (.bool true) ∧ RdOut b w w' (bs t) false := by
  have HK := Lib.hid hk
  have HD := Lib.hid hd
  have hlt := h.lt
  clear hk hd
  go_enter Tryd.func43, Tryd.ntmps43
  go_wp2_with fail
  go_at_call 23
  refine (kind_any K N S la ta _ lc _ tc _).mono ?_
  rintro e w1 ⟨rfl, b1⟩
  rw [HK.out]
  have c1 := box_cells b1 2
  have B1 : Below w.heap.size w w1 := ((Below.refl _ w).alloc (Nat.le_refl _) _).trans (b1.mono (by simp))
  have hs1 : w.heap.size < w1.heap.size := by have := b1.size; simp at this; omega
  have hr := h.below B1
  clear b1
  go_wp2_with fail
  go_region_with ((go_at_call 28; refine (rText_any b s false _ (by exact hr) hs).mono ?_; rintro e w2 hp; rw [HD.out] at hp; obtain ⟨rfl, ho⟩ := hp; have c2 := grownBy_cell ho.2 (p := ⟨w.heap.size, 2, none⟩) hs1 (by simp; omega)))
  all_goals
    go_wp2_with fail
    go_ret
    exact ⟨rfl, RdOut.from B1 (by assumption)⟩

set_option maxHeartbeats 1000000 in
theorem equal_3 (b : Nat) (s : ByteArray) (t : List UInt8) (K N : Int) (S : ByteArray) (la ta : Option Addr) (lc : Nat) (L : List Int) (tl tc : Nat) (B : Nat) (w : World) (h : Rd w b s false) (hs : s.size ≤ 1099511627776) (hk : K % 5 = 3) (hBb : B ≤ b) (hl : L.length ≤ 1099511627776) (hc : CellsIn B w la (L.map (Value.int .i64))) (hd : rdNums s.data.toList = some (L, t)) :
    Calls Tryd.prog 43 #[.pointer (some ⟨b, 0, none⟩), .agg #[.int .i64 K, .int .i64 N, .string S, .slice la L.length lc, .slice ta tl tc]] w fun e w' => e = .returned (.bool true) ∧ RdOut b w w' (bs t) false := by
  have HK := Lib.hid hk
  have HD := Lib.hid hd
  have hlt := h.lt
  clear hk hd
  go_enter Tryd.func43, Tryd.ntmps43
  go_wp2_with fail
  go_at_call 23
  refine (kind_any K N S la ta _ lc _ tc _).mono ?_
  rintro e w1 ⟨rfl, b1⟩
  rw [HK.out]
  have c1 := box_cells b1 3
  have B1 : Below w.heap.size w w1 := ((Below.refl _ w).alloc (Nat.le_refl _) _).trans (b1.mono (by simp))
  have hs1 : w.heap.size < w1.heap.size := by have := b1.size; simp at this; omega
  have hr := h.below B1
  clear b1
  have hc1 := hc.below (B1.mono (by omega))
  clear hc
  go_wp2_with fail
  go_region_with (first | (go_at_call 31; refine (rNums_any b s false _ (by exact hr) (fun h => by cases h) hs).mono ?_; rintro e w2 hp; rw [HD.out] at hp; obtain ⟨⟨x, rfl, hv⟩, ho⟩ := hp; obtain ⟨a, cap, rfl, hcells⟩ := own_cells hv (by simp); have c2 := grownBy_cell ho.2 (p := ⟨w.heap.size, 3, none⟩) hs1 (by simp; omega); have hl2 : CellsAt w2 la (L.map (Value.int .i64)) := CellsIn.grown (w := w1.drew) (b := b) (by exact hc1) ho.2 hBb (by exact Nat.lt_of_lt_of_le hlt B1.size); clear hv) | (go_at_call 30; refine (sameNums_any _ _ _ _ L _ hl (by assumption) (by assumption)).mono ?_; rintro e w3 ⟨rfl, q, rfl⟩))
  all_goals
    go_wp2_with fail
    go_ret
    exact ⟨rfl, (RdOut.from B1 (by assumption)).drawn⟩

set_option maxHeartbeats 1000000 in
theorem equal_4 (b : Nat) (s : ByteArray) (t : List UInt8) (K N : Int) (S : ByteArray) (la ta : Option Addr) (ll lc tc : Nat) (T : List ByteArray) (B : Nat) (w : World) (h : Rd w b s false) (hs : s.size ≤ 1099511627776) (hk : K % 5 = 4) (hBb : B ≤ b) (hl : T.length ≤ 1099511627776) (hc : CellsIn B w ta (T.map Value.string)) (hd : rdTexts s.data.toList = some (T, t)) :
    Calls Tryd.prog 43 #[.pointer (some ⟨b, 0, none⟩), .agg #[.int .i64 K, .int .i64 N, .string S, .slice la ll lc, .slice ta T.length tc]] w fun e w' => e = .returned (.bool true) ∧ RdOut b w w' (bs t) false := by
  have HK := Lib.hid hk
  have HD := Lib.hid hd
  have hlt := h.lt
  clear hk hd
  go_enter Tryd.func43, Tryd.ntmps43
  go_wp2_with fail
  go_at_call 23
  refine (kind_any K N S la ta _ lc _ tc _).mono ?_
  rintro e w1 ⟨rfl, b1⟩
  rw [HK.out]
  have c1 := box_cells b1 4
  have B1 : Below w.heap.size w w1 := ((Below.refl _ w).alloc (Nat.le_refl _) _).trans (b1.mono (by simp))
  have hs1 : w.heap.size < w1.heap.size := by have := b1.size; simp at this; omega
  have hr := h.below B1
  clear b1
  have hc1 := hc.below (B1.mono (by omega))
  clear hc
  go_wp2_with fail
  go_region_with (first | (go_at_call 34; refine (rTexts_any b s false _ (by exact hr) (fun h => by cases h) hs).mono ?_; rintro e w2 hp; rw [HD.out] at hp; obtain ⟨⟨x, rfl, hv⟩, ho⟩ := hp; obtain ⟨a, cap, rfl, hcells⟩ := own_cells hv (by simp); have c2 := grownBy_cell ho.2 (p := ⟨w.heap.size, 4, none⟩) hs1 (by simp; omega); have hl2 : CellsAt w2 ta (T.map Value.string) := CellsIn.grown (w := w1.drew) (b := b) (by exact hc1) ho.2 hBb (by exact Nat.lt_of_lt_of_le hlt B1.size); clear hv) | (go_at_call 33; refine (sameTexts_any _ _ _ _ T _ hl (by assumption) (by assumption)).mono ?_; rintro e w3 ⟨rfl, q, rfl⟩))
  all_goals
    go_wp2_with fail
    go_ret
    exact ⟨rfl, (RdOut.from B1 (by assumption)).drawn⟩

/-- equal returns true where the reader stands at the value's encoding, and moves the reader after it. -/
theorem equal_any (B b : Nat) (s : ByteArray) (t : List UInt8) (v : V) (w : World) (h : Rd w b s false) (hs : s.size ≤ 1099511627776) (hBb : B ≤ b) (hv : v.Ok B w) (hsm : v.Small) (he : s.data.toList = encV v ++ t) :
    Calls Tryd.prog 43 #[.pointer (some ⟨b, 0, none⟩), v.agg] w fun e w' => e = .returned (.bool true) ∧ RdOut b w w' (bs t) false := by
  unfold encV at he
  unfold V.agg
  by_cases h0 : v.K % 5 = 0
  · rw [if_pos h0] at he
    have hr := numOf_range hv.n0 hv.n1
    have hn : numOf v.N = ((numOf v.N).toNat : Int) := by omega
    exact equal_0 b s t v.K v.N v.S v.la v.ta v.L.length v.lc v.T.length v.tc w h hs h0 hv.n0 hv.n1 (by rw [he, hn]; exact rdNum_read _ t (by omega))
  · rw [if_neg h0] at he
    by_cases h1 : v.K % 5 = 1
    · rw [if_pos h1] at he
      exact equal_1 b s t v.K v.N v.S v.la v.ta v.L.length v.lc v.T.length v.tc w h hs h1 (by rw [he]; exact rdInt_read _ t hv.n0 hv.n1)
    · rw [if_neg h1] at he
      by_cases h2 : v.K % 5 = 2
      · rw [if_pos h2] at he
        exact equal_2 b s t v.K v.N v.S v.la v.ta v.L.length v.lc v.T.length v.tc w h hs h2 (by rw [he]; exact rdText_read _ t (by have := hsm.s; omega))
      · rw [if_neg h2] at he
        by_cases h3 : v.K % 5 = 3
        · rw [if_pos h3] at he
          exact equal_3 b s t v.K v.N v.S v.la v.ta v.lc v.L v.T.length v.tc B w h hs h3 hBb (by have := hsm.l; omega) hv.cl (by rw [he]; exact rdNums_read _ t (by have := hsm.l; omega) hv.l)
        · rw [if_neg h3] at he
          exact equal_4 b s t v.K v.N v.S v.la v.ta v.L.length v.lc v.tc v.T B w h hs (by omega) hBb (by have := hsm.tl; omega) hv.ct (by rw [he]; exact rdTexts_read _ t (by have := hsm.tl; omega) (fun x hx => by have := hsm.t x hx; omega))
end Go.Proofs.YtenlbohacgamlaaDoor
