/-
  The statements' own helper small: it returns true.
-/
import Derived.Test.YteccccpjhpbebaaGreatDoorSn
namespace Go.Proofs.YteccccpjhpbebaaGreatDoor
open Go.RowKit WireM
set_option linter.unusedVariables false
set_option linter.unusedSimpArgs false

def b_m0 : ByteArray := ⟨#[45, 48]⟩
def b_007 : ByteArray := ⟨#[48, 48, 55]⟩
theorem row_at {w wr w2 : World} {L : List (List UInt8)} {a : Option Addr} {n cap k : Nat} {x : List UInt8} (h : RowAt w L (.slice a n cap) wr) (hk : Below wr.heap.size wr w2) (hlt : k < L.length) (hx : L.getD k [] = x) :
    ∃ b o, a = some ⟨b, o, none⟩ ∧ w2.cell? ⟨b, o + k, none⟩ = some (.string (bs x)) := by
  obtain ⟨_, b, o, ha, hc⟩ := row_cell h (StrKept.below hk) hlt
  exact ⟨b, o, ha, by rw [← hx]; exact hc⟩
set_option maxHeartbeats 2000000 in
set_option maxRecDepth 100000 in
theorem small_any (w : World) (ht : Glob w) :
    Calls Tryz.prog 4 #[] w fun e w' => e = .returned (.bool true) ∧ Below w.heap.size w w' := by
  go_enter Tryz.func4, Tryz.ntmps4
  go_wp2_with fail
  go_at_call 5
  refine (int_any ⟨#[45, 48]⟩ (by decide) _ ht).mono ?_
  rintro e w1 ⟨rfl, b1⟩
  rw [show (⟨#[45, 48]⟩ : ByteArray).data.toList = [45, 48] from rfl, dec_m0]
  go_wp2_with fail
  go_at_call 5
  refine (int_any ⟨#[48, 48, 55]⟩ (by decide) _ (ht.of b1)).mono ?_
  rintro e w2 ⟨rfl, b2⟩
  rw [show (⟨#[48, 48, 55]⟩ : ByteArray).data.toList = [48, 48, 55] from rfl, dec_007]
  replace b2 := below_step b1 b2
  clear b1
  go_wp2_with fail
  go_at_call 5
  refine (int_any ⟨#[45, 57, 50, 50, 51, 51, 55, 50, 48, 51, 54, 56, 53, 52, 55, 55, 53, 56, 48, 56]⟩ (by decide) _ (ht.of b2)).mono ?_
  rintro e w3 ⟨rfl, b3⟩
  rw [show (⟨#[45, 57, 50, 50, 51, 51, 55, 50, 48, 51, 54, 56, 53, 52, 55, 55, 53, 56, 48, 56]⟩ : ByteArray).data.toList = [45, 57, 50, 50, 51, 51, 55, 50, 48, 51, 54, 56, 53, 52, 55, 55, 53, 56, 48, 56] from rfl, dec_min]
  replace b3 := below_step b2 b3
  clear b2
  go_wp2_with fail
  go_at_call 14
  refine (lines_any ⟨#[97, 10, 10, 98]⟩ (by decide) _ (ht.of b3)).mono ?_
  rintro e w4 ⟨v4, rfl, row4⟩
  rw [show (⟨#[97, 10, 10, 98]⟩ : ByteArray).data.toList = [97, 10, 10, 98] from rfl, lines_ex] at row4
  obtain ⟨a4, c4, rfl⟩ := row_form row4
  have b4 := below_step b3 row4.2
  clear b3
  go_wp2_with fail
  go_at_call 18
  refine (fields_any ⟨#[32, 97, 32, 32, 98, 10]⟩ (by decide) _).mono ?_
  rintro e w5 ⟨v5, rfl, row5⟩
  rw [show (⟨#[32, 97, 32, 32, 98, 10]⟩ : ByteArray).data.toList = [32, 97, 32, 32, 98, 10] from rfl, fields_ex] at row5
  obtain ⟨a5, c5, rfl⟩ := row_form row5
  have b5 := below_step b4 row5.2
  clear b4
  have r5 := row5.2
  rw [show ([ [97], [], [98] ] : List (List UInt8)).length = 3 from rfl, show ([ [97], [98] ] : List (List UInt8)).length = 2 from rfl] at *
  go_wp2_with fail
  go_at_call 11
  refine (quote_any ⟨#[97, 34, 10, 200]⟩ (by decide) _).mono ?_
  rintro e w6 ⟨rfl, b6⟩
  rw [show (⟨#[97, 34, 10, 200]⟩ : ByteArray).data.toList = [97, 34, 10, 200] from rfl, quote_ex, show bs [34, 97, 92, 34, 92, 110, 92, 120, 99, 56, 34] = ⟨#[34, 97, 92, 34, 92, 110, 92, 120, 99, 56, 34]⟩ from rfl]
  obtain ⟨p4, o4, rfl, k1⟩ := row_at (k := 1) (x := []) row4 (below_step r5 b6) (by decide) rfl
  obtain ⟨_, _, e4, k2⟩ := row_at (k := 2) (x := [98]) row4 (below_step r5 b6) (by decide) rfl
  injection e4 with e4
  injection e4 with e41 e42
  subst e41; subst e42
  obtain ⟨p5, o5, rfl, k3⟩ := row_at (k := 1) (x := [98]) row5 b6 (by decide) rfl
  rw [show bs [] = ⟨#[]⟩ from rfl] at k1
  rw [show bs [98] = ⟨#[98]⟩ from rfl] at k2 k3
  replace b6 := below_step b5 b6
  clear b5 r5 row4 row5
  go_wp2_with fail
  go_at_call 20
  refine (pattern_any ⟨#[97, 42, 91, 33, 120, 45, 122, 93, 63]⟩ ⟨#[97, 98, 99, 100]⟩ (by decide) (by decide) _).mono ?_
  rintro e w7 ⟨rfl, b7⟩
  rw [show (⟨#[97, 42, 91, 33, 120, 45, 122, 93, 63]⟩ : ByteArray).data.toList = [97, 42, 91, 33, 120, 45, 122, 93, 63] from rfl, show (⟨#[97, 98, 99, 100]⟩ : ByteArray).data.toList = [97, 98, 99, 100] from rfl, pat_1]
  replace b7 := below_step b6 b7
  clear b6
  go_wp2_with fail
  go_at_call 20
  refine (pattern_any ⟨#[91, 93, 93]⟩ ⟨#[93]⟩ (by decide) (by decide) _).mono ?_
  rintro e w8 ⟨rfl, b8⟩
  rw [show (⟨#[91, 93, 93]⟩ : ByteArray).data.toList = [91, 93, 93] from rfl, show (⟨#[93]⟩ : ByteArray).data.toList = [93] from rfl, pat_2]
  replace b8 := below_step b7 b8
  clear b7
  go_wp2_with fail
  go_at_call 20
  refine (pattern_any ⟨#[91, 97]⟩ ⟨#[91, 97]⟩ (by decide) (by decide) _).mono ?_
  rintro e w9 ⟨rfl, b9⟩
  rw [show (⟨#[91, 97]⟩ : ByteArray).data.toList = [91, 97] from rfl, pat_3]
  replace b9 := below_step b8 b9
  clear b8
  go_wp2_with fail
  go_at_call 20
  refine (pattern_any ⟨#[92, 42]⟩ ⟨#[42]⟩ (by decide) (by decide) _).mono ?_
  rintro e w10 ⟨rfl, b10⟩
  rw [show (⟨#[92, 42]⟩ : ByteArray).data.toList = [92, 42] from rfl, show (⟨#[42]⟩ : ByteArray).data.toList = [42] from rfl, pat_4]
  replace b10 := below_step b9 b10
  clear b9
  go_wp2_with fail
  go_at_call 20
  refine (pattern_any ⟨#[92, 42]⟩ ⟨#[97, 98]⟩ (by decide) (by decide) _).mono ?_
  rintro e w11 ⟨rfl, b11⟩
  rw [show (⟨#[92, 42]⟩ : ByteArray).data.toList = [92, 42] from rfl, show (⟨#[97, 98]⟩ : ByteArray).data.toList = [97, 98] from rfl, pat_5]
  replace b11 := below_step b10 b11
  clear b10
  go_wp2_with fail
  go_ret
  exact ⟨rfl, b11⟩
end Go.Proofs.YteccccpjhpbebaaGreatDoor
