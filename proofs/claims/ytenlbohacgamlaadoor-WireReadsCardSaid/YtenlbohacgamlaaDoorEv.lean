/-
  THE STATEMENTS' OWN HELPERS, continued: write, equal, SameNums, SameTexts.
-/
import Derived.Test.YtenlbohacgamlaaDoorLa
import Derived.Deep.RegionWith
namespace Go.Proofs.YtenlbohacgamlaaDoor
open Go.RowKit WireM
set_option linter.unusedVariables false
set_option linter.unusedSimpArgs false

/-- A slice's address and what its cells read as, in a block below B. -/
def CellsIn (B : Nat) (w : World) (a : Option Addr) (xs : List Value) : Prop :=
  xs = [] ∨ ∃ b o, a = some ⟨b, o, none⟩ ∧ b < B ∧ ∀ (i : Nat), i < xs.length → w.cell? ⟨b, o + i, none⟩ = xs[i]?
theorem CellsIn.at {B : Nat} {w : World} {a : Option Addr} {xs : List Value} (h : CellsIn B w a xs) (hB : B ≤ w.heap.size) : CellsAt w a xs :=
  h.imp id fun ⟨b, o, h1, h2, h3⟩ => ⟨b, o, h1, by omega, h3⟩
theorem CellsIn.below {B : Nat} {w w' : World} {a : Option Addr} {xs : List Value} (h : CellsIn B w a xs) (hb : Below B w w') : CellsIn B w' a xs :=
  h.imp id fun ⟨b, o, h1, h2, h3⟩ => ⟨b, o, h1, h2, fun i hi => (hb.cell (p := ⟨b, o + i, none⟩) h2).trans (h3 i hi)⟩

structure V.Ok (B : Nat) (w : World) (v : V) : Prop where
  n0 : -9223372036854775808 ≤ v.N
  n1 : v.N ≤ 9223372036854775807
  l : ∀ z ∈ v.L, -9223372036854775808 ≤ z ∧ z ≤ 9223372036854775807
  cl : CellsIn B w v.la (v.L.map (Value.int .i64))
  ct : CellsIn B w v.ta (v.T.map Value.string)
theorem V.Ok.below {B : Nat} {w w' : World} {v : V} (h : v.Ok B w) (hb : Below B w w') : v.Ok B w' := ⟨h.n0, h.n1, h.l, h.cl.below hb, h.ct.below hb⟩
structure V.Small (v : V) : Prop where
  s : v.S.size ≤ 400
  l : v.L.length ≤ 400
  tl : v.T.length ≤ 400
  t : ∀ x ∈ v.T, x.size ≤ 400

def encV (v : V) : List UInt8 :=
  if v.K % 5 = 0 then encInt (numOf v.N) else if v.K % 5 = 1 then encInt v.N else if v.K % 5 = 2 then encText v.S.data.toList else if v.K % 5 = 3 then encNums v.L else encTexts v.T

theorem numOf_range {n : Int} (h0 : -9223372036854775808 ≤ n) (h1 : n ≤ 9223372036854775807) : 0 ≤ numOf n ∧ numOf n ≤ 9223372036854775807 := by
  unfold numOf; split <;> omega
theorem encText_le (s : ByteArray) (h : s.size ≤ 400) : (encText s.data.toList).length ≤ 422 := by
  have h1 : s.data.toList.length ≤ 400 := by simpa using h
  have := (itoa_len (s.data.toList.length : Int) (by omega) (by omega)).1
  simp only [encText, List.length_append, List.length_cons, List.length_nil]
  omega
theorem encTexts_small (l : List ByteArray) (h0 : l.length ≤ 400) (h : ∀ x ∈ l, x.size ≤ 400) : (encTexts l).length ≤ 200000 := by
  have key : ∀ l : List ByteArray, (∀ x ∈ l, x.size ≤ 400) → (l.flatMap fun s => encText s.data.toList).length ≤ 422 * l.length := by
    intro l
    induction l with
    | nil => simp
    | cons a l ih =>
      intro h
      have h1 := ih fun x hx => h x (List.mem_cons_of_mem _ hx)
      have h2 := encText_le a (h a List.mem_cons_self)
      simp only [List.flatMap_cons, List.length_append, List.length_cons]
      omega
  have h1 := key l h
  have h2 := (itoa_len (l.length : Int) (by omega) (by omega)).1
  simp only [encTexts, encList, List.length_append, List.length_cons, List.length_nil]
  omega

theorem box_cells {w : World} {cs : Array Value} {T : TypeId} {w' : World} (hb : Below (w.alloc (.cells cs T)).heap.size (w.alloc (.cells cs T)) w') (j : Nat) : w'.cell? ⟨w.heap.size, j, none⟩ = cs[j]? := by
  rw [hb.cell (p := ⟨w.heap.size, j, none⟩) (by simp)]
  rw [Lib.cell_of_heap (heap_alloc_new w _)]

set_option maxHeartbeats 1000000 in
theorem write_0 (K N : Int) (S : ByteArray) (la ta : Option Addr) (lc tc : Nat) (L : List Int) (T : List ByteArray) (w : World) (ht : Tab w) (n0 : -9223372036854775808 ≤ N) (n1 : N ≤ 9223372036854775807) (hk : K % 5 = 0) :
    Calls Tryd.prog 42 #[.agg #[.int .i64 K, .int .i64 N, .string S, .slice la L.length lc, .slice ta T.length tc]] w fun e w' => e = .returned (.string (bs (encInt (numOf N)))) ∧ Below w.heap.size w w' := by
  have HK := Lib.hid hk
  clear hk
  go_enter Tryd.func42, Tryd.ntmps42
  go_wp2_with fail
  go_at_call 23
  refine (kind_any K N S la ta L.length lc T.length tc _).mono ?_
  rintro e w1 ⟨rfl, b1⟩
  rw [HK.out]
  have c1 := box_cells b1 1
  have B1 : Below w.heap.size w w1 := ((Below.refl _ w).alloc (Nat.le_refl _) _).trans (b1.mono (by simp))
  clear b1
  go_wp2_with fail
  go_at_call 57
  refine (number_any N n0 n1 _).mono ?_
  rintro e w2 ⟨rfl, rfl⟩
  have hr := numOf_range n0 n1
  go_wp2_with fail
  go_at_call 11
  refine (num_any (numOf N) hr.1 hr.2 _ (tab_step ht B1)).mono ?_
  rintro e w2 ⟨rfl, b2⟩
  go_wp2_with fail
  go_ret
  exact ⟨rfl, below_step B1 b2⟩

set_option maxHeartbeats 1000000 in
theorem write_1 (K N : Int) (S : ByteArray) (la ta : Option Addr) (lc tc : Nat) (L : List Int) (T : List ByteArray) (w : World) (ht : Tab w) (n0 : -9223372036854775808 ≤ N) (n1 : N ≤ 9223372036854775807) (hk : K % 5 = 1) :
    Calls Tryd.prog 42 #[.agg #[.int .i64 K, .int .i64 N, .string S, .slice la L.length lc, .slice ta T.length tc]] w fun e w' => e = .returned (.string (bs (encInt N))) ∧ Below w.heap.size w w' := by
  have HK := Lib.hid hk
  clear hk
  go_enter Tryd.func42, Tryd.ntmps42
  go_wp2_with fail
  go_at_call 23
  refine (kind_any K N S la ta L.length lc T.length tc _).mono ?_
  rintro e w1 ⟨rfl, b1⟩
  rw [HK.out]
  have c1 := box_cells b1 1
  have B1 : Below w.heap.size w w1 := ((Below.refl _ w).alloc (Nat.le_refl _) _).trans (b1.mono (by simp))
  clear b1
  go_wp2_with fail
  go_at_call 13
  refine (int_any N n0 n1 _ (tab_step ht B1)).mono ?_
  rintro e w2 ⟨rfl, b2⟩
  go_wp2_with fail
  go_ret
  exact ⟨rfl, below_step B1 b2⟩

set_option maxHeartbeats 1000000 in
theorem write_2 (K N : Int) (S : ByteArray) (la ta : Option Addr) (lc tc : Nat) (L : List Int) (T : List ByteArray) (w : World) (ht : Tab w) (hs : S.size ≤ 400) (hk : K % 5 = 2) :
    Calls Tryd.prog 42 #[.agg #[.int .i64 K, .int .i64 N, .string S, .slice la L.length lc, .slice ta T.length tc]] w fun e w' => e = .returned (.string (bs (encText S.data.toList))) ∧ Below w.heap.size w w' := by
  have HK := Lib.hid hk
  clear hk
  go_enter Tryd.func42, Tryd.ntmps42
  go_wp2_with fail
  go_at_call 23
  refine (kind_any K N S la ta L.length lc T.length tc _).mono ?_
  rintro e w1 ⟨rfl, b1⟩
  rw [HK.out]
  have c1 := box_cells b1 2
  have B1 : Below w.heap.size w w1 := ((Below.refl _ w).alloc (Nat.le_refl _) _).trans (b1.mono (by simp))
  clear b1
  go_wp2_with fail
  go_at_call 15
  refine (text_any S (by omega) _ (tab_step ht B1)).mono ?_
  rintro e w2 ⟨rfl, b2⟩
  go_wp2_with fail
  go_ret
  exact ⟨rfl, below_step B1 b2⟩

set_option maxHeartbeats 1000000 in
theorem write_3 (K N : Int) (S : ByteArray) (la ta : Option Addr) (lc tc : Nat) (L : List Int) (T : List ByteArray) (w : World) (ht : Tab w) (B : Nat) (hB : B ≤ w.heap.size) (hl : L.length ≤ 400) (hr : ∀ z ∈ L, -9223372036854775808 ≤ z ∧ z ≤ 9223372036854775807) (hc : CellsIn B w la (L.map (Value.int .i64))) (hk : K % 5 = 3) :
    Calls Tryd.prog 42 #[.agg #[.int .i64 K, .int .i64 N, .string S, .slice la L.length lc, .slice ta T.length tc]] w fun e w' => e = .returned (.string (bs (encNums L))) ∧ Below w.heap.size w w' := by
  have HK := Lib.hid hk
  clear hk
  go_enter Tryd.func42, Tryd.ntmps42
  go_wp2_with fail
  go_at_call 23
  refine (kind_any K N S la ta L.length lc T.length tc _).mono ?_
  rintro e w1 ⟨rfl, b1⟩
  rw [HK.out]
  have c1 := box_cells b1 3
  have B1 : Below w.heap.size w w1 := ((Below.refl _ w).alloc (Nat.le_refl _) _).trans (b1.mono (by simp))
  clear b1
  have HC := Lib.hid (show CellsAt w1 la (L.map (Value.int .i64)) from (hc.below (B1.mono hB)).at (by have := B1.size; omega))
  have HR := Lib.hid hr
  clear hc hr
  go_wp2_with fail
  go_at_call 17
  refine (nums_any la lc L _ (tab_step ht B1) (by omega) HR.out HC.out).mono ?_
  rintro e w2 ⟨rfl, b2⟩
  go_wp2_with fail
  go_ret
  exact ⟨rfl, below_step B1 b2⟩

set_option maxHeartbeats 1000000 in
theorem write_4 (K N : Int) (S : ByteArray) (la ta : Option Addr) (lc tc : Nat) (L : List Int) (T : List ByteArray) (w : World) (ht : Tab w) (B : Nat) (hB : B ≤ w.heap.size) (hl : T.length ≤ 400) (hr : ∀ x ∈ T, x.size ≤ 400) (hc : CellsIn B w ta (T.map Value.string)) (hk : K % 5 = 4) :
    Calls Tryd.prog 42 #[.agg #[.int .i64 K, .int .i64 N, .string S, .slice la L.length lc, .slice ta T.length tc]] w fun e w' => e = .returned (.string (bs (encTexts T))) ∧ Below w.heap.size w w' := by
  have HK := Lib.hid hk
  clear hk
  go_enter Tryd.func42, Tryd.ntmps42
  go_wp2_with fail
  go_at_call 23
  refine (kind_any K N S la ta L.length lc T.length tc _).mono ?_
  rintro e w1 ⟨rfl, b1⟩
  rw [HK.out]
  have c1 := box_cells b1 4
  have B1 : Below w.heap.size w w1 := ((Below.refl _ w).alloc (Nat.le_refl _) _).trans (b1.mono (by simp))
  clear b1
  have HC := Lib.hid (show CellsAt w1 ta (T.map Value.string) from (hc.below (B1.mono hB)).at (by have := B1.size; omega))
  have HR := Lib.hid (encTexts_small T hl hr)
  clear hc hr
  go_wp2_with fail
  go_at_call 19
  refine (texts_any ta tc T _ (tab_step ht B1) (Nat.le_trans HR.out (by omega)) HC.out).mono ?_
  rintro e w2 ⟨rfl, b2⟩
  go_wp2_with fail
  go_ret
  exact ⟨rfl, below_step B1 b2⟩

def V.agg (v : V) : Value := .agg #[.int .i64 v.K, .int .i64 v.N, .string v.S, .slice v.la v.L.length v.lc, .slice v.ta v.T.length v.tc]
theorem write_any (B : Nat) (v : V) (w : World) (ht : Tab w) (hB : B ≤ w.heap.size) (hv : v.Ok B w) (hs : v.Small) :
    Calls Tryd.prog 42 #[v.agg] w fun e w' => e = .returned (.string (bs (encV v))) ∧ Below w.heap.size w w' := by
  unfold encV V.agg
  by_cases h0 : v.K % 5 = 0
  · rw [if_pos h0]; exact write_0 v.K v.N v.S v.la v.ta v.lc v.tc v.L v.T w ht hv.n0 hv.n1 h0
  · rw [if_neg h0]
    by_cases h1 : v.K % 5 = 1
    · rw [if_pos h1]; exact write_1 v.K v.N v.S v.la v.ta v.lc v.tc v.L v.T w ht hv.n0 hv.n1 h1
    · rw [if_neg h1]
      by_cases h2 : v.K % 5 = 2
      · rw [if_pos h2]; exact write_2 v.K v.N v.S v.la v.ta v.lc v.tc v.L v.T w ht hs.s h2
      · rw [if_neg h2]
        by_cases h3 : v.K % 5 = 3
        · rw [if_pos h3]; exact write_3 v.K v.N v.S v.la v.ta v.lc v.tc v.L v.T w ht B hB hs.l hv.l hv.cl h3
        · rw [if_neg h3]; exact write_4 v.K v.N v.S v.la v.ta v.lc v.tc v.L v.T w ht B hB hs.tl hs.t hv.ct (by omega)

theorem drewN_size (w : World) (q : Nat) : (w.drewN q).heap.size = w.heap.size := rfl

set_option maxHeartbeats 1000000 in
theorem sameNums_any (a1 a2 : Option Addr) (p1 p2 : Nat) (l : List Int) (w : World) (hl : l.length ≤ 1099511627776) (h1 : CellsAt w a1 (l.map (Value.int .i64))) (h2 : CellsAt w a2 (l.map (Value.int .i64))) :
    Calls Tryd.prog 30 #[.slice a1 l.length p1, .slice a2 l.length p2] w fun e w' => e = .returned (.bool true) ∧ ∃ q, w' = w.drewN q := by
  have H1 := Lib.hid h1
  have H2 := Lib.hid h2
  clear h1 h2
  go_enter Tryd.func30, Tryd.ntmps30
  go_wp2_with fail
  go_loopw [5] (fun i wr => ∃ k q : Nat, k ≤ l.length ∧ i = .int .i64 k ∧ wr = w.drewN q) (fun i _ => l.length - (intOf i).toNat)
  case atStart => exact ⟨0, 0, Nat.zero_le _, rfl, by simp [World.drewN_zero]⟩
  case round =>
    obtain ⟨k, q, hk, rfl, rfl⟩ := hrel
    by_cases hlt : k < l.length
    · rcases H1.out with h1 | ⟨b1, o1, rfl, hb1, hc1⟩
      · simp at h1; subst h1; simp at hlt
      · rcases H2.out with h2 | ⟨b2, o2, rfl, hb2, hc2⟩
        · simp at h2; subst h2; simp at hlt
        · have y1 : w.cell? ⟨b1, o1 + k, none⟩ = some (.int .i64 l[k]) := by
            rw [hc1 k (by simpa using hlt)]; simp [hlt]
          have y2 : w.cell? ⟨b2, o2 + k, none⟩ = some (.int .i64 l[k]) := by
            rw [hc2 k (by simpa using hlt)]; simp [hlt]
          clear hc1 hc2
          generalize l[k] = z at *
          go_wp2_with fail
          go_quiet (fail)
          go_wp2_with fail
          go_roundw
          case rel => exact ⟨k + 1, _, by omega, by go_num, rfl⟩
          case measure => simp [intOf]; omega
    · obtain rfl : k = l.length := by omega
      go_wp2_with fail
      go_ret
      exact ⟨rfl, q, rfl⟩
set_option maxHeartbeats 1000000 in
theorem sameTexts_any (a1 a2 : Option Addr) (p1 p2 : Nat) (l : List ByteArray) (w : World) (hl : l.length ≤ 1099511627776) (h1 : CellsAt w a1 (l.map (Value.string))) (h2 : CellsAt w a2 (l.map (Value.string))) :
    Calls Tryd.prog 33 #[.slice a1 l.length p1, .slice a2 l.length p2] w fun e w' => e = .returned (.bool true) ∧ ∃ q, w' = w.drewN q := by
  have H1 := Lib.hid h1
  have H2 := Lib.hid h2
  clear h1 h2
  go_enter Tryd.func33, Tryd.ntmps33
  go_wp2_with fail
  go_loopw [5] (fun i wr => ∃ k q : Nat, k ≤ l.length ∧ i = .int .i64 k ∧ wr = w.drewN q) (fun i _ => l.length - (intOf i).toNat)
  case atStart => exact ⟨0, 0, Nat.zero_le _, rfl, by simp [World.drewN_zero]⟩
  case round =>
    obtain ⟨k, q, hk, rfl, rfl⟩ := hrel
    by_cases hlt : k < l.length
    · rcases H1.out with h1 | ⟨b1, o1, rfl, hb1, hc1⟩
      · simp at h1; subst h1; simp at hlt
      · rcases H2.out with h2 | ⟨b2, o2, rfl, hb2, hc2⟩
        · simp at h2; subst h2; simp at hlt
        · have y1 : w.cell? ⟨b1, o1 + k, none⟩ = some (.string l[k]) := by
            rw [hc1 k (by simpa using hlt)]; simp [hlt]
          have y2 : w.cell? ⟨b2, o2 + k, none⟩ = some (.string l[k]) := by
            rw [hc2 k (by simpa using hlt)]; simp [hlt]
          clear hc1 hc2
          generalize l[k] = z at *
          go_wp2_with fail
          go_quiet (fail)
          go_wp2_with fail
          go_roundw
          case rel => exact ⟨k + 1, _, by omega, by go_num, rfl⟩
          case measure => simp [intOf]; omega
    · obtain rfl : k = l.length := by omega
      go_wp2_with fail
      go_ret
      exact ⟨rfl, q, rfl⟩
end Go.Proofs.YtenlbohacgamlaaDoor
