/-
  THE STATEMENTS' OWN HELPERS: kind, number; a value of five fields.
-/
import Derived.Test.YtenlbohacgamlaaDoorSm
import Derived.Test.YtenlbohacgamlaaDoorMb
namespace Go.Proofs.YtenlbohacgamlaaDoor
open Go.RowKit WireM
set_option linter.unusedVariables false
set_option linter.unusedSimpArgs false

/-- The struct Value: its fields, the slices with what they read as. -/
structure V where
  K : Int
  N : Int
  S : ByteArray
  la : Option Addr
  lc : Nat
  L : List Int
  ta : Option Addr
  tc : Nat
  T : List ByteArray

def V.cells (v : V) : Array Value := #[.int .i64 v.K, .int .i64 v.N, .string v.S, .slice v.la v.L.length v.lc, .slice v.ta v.T.length v.tc]

theorem ret_int {k : IntKind} {a b : Int} (h : a = b) : Ending.returned (.int k a) = .returned (.int k b) := by rw [h]
theorem tmod5 (K : Int) : (K.tmod 5 < 0 → K.tmod 5 + 5 = K % 5) ∧ (0 ≤ K.tmod 5 → K.tmod 5 = K % 5) ∧ -5 < K.tmod 5 := by
  rcases Int.le_total 0 K with h | h
  · rw [Int.tmod_eq_emod_of_nonneg h]
    omega
  · have h1 : K.tmod 5 = -((-K) % 5) := by
      rw [← Int.tmod_eq_emod_of_nonneg (a := -K) (by omega), Int.neg_tmod]
      omega
    omega

theorem kind_any (K N : Int) (S : ByteArray) (la ta : Option Addr) (ll lc tl tc : Nat) (w : World) :
    Calls Tryd.prog 23 #[.agg #[.int .i64 K, .int .i64 N, .string S, .slice la ll lc, .slice ta tl tc]] w fun e w' => e = .returned (.int .i64 (K % 5)) ∧ Below w.heap.size w w' := by
  have hb := (tmod5 K).2.2
  by_cases h : K.tmod 5 < 0
  · go_enter Tryd.func23, Tryd.ntmps23
    go_wp2
    go_ret
    exact ⟨ret_int ((tmod5 K).1 h), (Below.refl _ w).alloc (Nat.le_refl _) _⟩
  · go_enter Tryd.func23, Tryd.ntmps23
    go_wp2
    go_ret
    exact ⟨ret_int ((tmod5 K).2.1 h), (Below.refl _ w).alloc (Nat.le_refl _) _⟩

def numOf (n : Int) : Int := if n < 0 then -(n + 1) else n
theorem numOf_neg {n : Int} (h : n < 0) : -(n + 1) = numOf n := by unfold numOf; rw [if_pos h]
theorem numOf_pos {n : Int} (h : 0 ≤ n) : n = numOf n := by unfold numOf; rw [if_neg (by omega)]
theorem number_any (n : Int) (h0 : -9223372036854775808 ≤ n) (h1 : n ≤ 9223372036854775807) (w : World) :
    Calls Tryd.prog 57 #[.int .i64 n] w fun e w' => e = .returned (.int .i64 (numOf n)) ∧ w = w' := by
  by_cases h : n < 0
  · go_enter Tryd.func57, Tryd.ntmps57
    go_wp2
    go_ret
    exact ⟨ret_int (numOf_neg h), rfl⟩
  · go_enter Tryd.func57, Tryd.ntmps57
    go_wp2
    go_ret
    exact ⟨ret_int (numOf_pos (by omega)), rfl⟩
end Go.Proofs.YtenlbohacgamlaaDoor
