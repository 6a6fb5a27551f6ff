/-
  THE STATEMENTS' OWN HELPERS: small, kind, number.
-/
import Derived.Test.YtenlbohacgamlaaDoorRl
namespace Go.Proofs.YtenlbohacgamlaaDoor
open Go.RowKit WireM
set_option linter.unusedVariables false
set_option linter.unusedSimpArgs false

theorem dd1 (u : Nat) (h : u < 10) : Lib.decDigits u = [UInt8.ofNat (48 + u)] := Lib.decDigits_one h
theorem enc_0 : bs (encInt 0) = ⟨#[48, 59]⟩ := by
  unfold encInt Lib.itoa; simp [Lib.decDigits_one]; rfl
theorem enc_300 : bs (encInt 300) = ⟨#[51, 48, 48, 59]⟩ := by
  have h : Lib.decDigits 300 = [51, 48, 48] := by
    rw [Lib.decDigits, dif_neg (by omega), Lib.decDigits_two (by omega) (by omega)]; rfl
  unfold encInt Lib.itoa; simp [h]; rfl
theorem enc_m7 : bs (encInt (-7)) = ⟨#[45, 55, 59]⟩ := by
  unfold encInt Lib.itoa; simp [Lib.decDigits_one]; rfl
theorem enc_7 : bs (encInt 7) = ⟨#[55, 59]⟩ := by
  unfold encInt Lib.itoa; simp [Lib.decDigits_one]; rfl
theorem enc_t : bs (encText [97, 44, 98]) = ⟨#[51, 58, 97, 44, 98, 44]⟩ := by
  unfold encText Lib.itoa; simp [Lib.decDigits_one]; rfl
theorem enc_l : bs (encNums [1, -1]) = ⟨#[50, 91, 49, 59, 45, 49, 59, 93]⟩ := by
  unfold encNums encList encInt Lib.itoa; simp [Lib.decDigits_one]; rfl
theorem enc_n : bs (encTexts []) = ⟨#[48, 91, 93]⟩ := by
  unfold encTexts encList Lib.itoa; simp [Lib.decDigits_one]; rfl
theorem rd_007 : rdNum [48, 48, 55, 59] = none := by
  simp [rdNum, dgMax, scan]

theorem below_step {w w1 w2 : World} (b : Below w.heap.size w w1) (c : Below w1.heap.size w1 w2) : Below w.heap.size w w2 := b.trans (c.mono b.size)
theorem tab_step {w w1 : World} (ht : Tab w) (b : Below w.heap.size w w1) : Tab w1 := ht.below b ht.2

set_option maxHeartbeats 1000000 in
theorem small_any (w : World) (ht : Tab w) :
    Calls Tryd.prog 9 #[] w fun e w' => e = .returned (.bool true) ∧ Below w.heap.size w w' := by
  go_enter Tryd.func9, Tryd.ntmps9
  go_wp2_with fail
  go_at_call 11
  refine (num_any 0 (by omega) (by omega) _ ht).mono ?_
  rintro e w1 ⟨rfl, b1⟩
  rw [enc_0]
  go_wp2_with fail
  go_at_call 11
  refine (num_any 300 (by omega) (by omega) _ (tab_step ht b1)).mono ?_
  rintro e w2 ⟨rfl, c⟩
  rw [enc_300]
  replace b1 := below_step b1 c
  clear c
  go_wp2_with fail
  go_at_call 11
  refine (num_neg (-1) (by omega) _).mono ?_
  rintro e w3 ⟨rfl, rfl⟩
  rw [show bs [] = ⟨#[]⟩ from rfl]
  go_wp2_with fail
  go_at_call 13
  refine (int_any (-7) (by omega) (by omega) _ (tab_step ht b1)).mono ?_
  rintro e w3 ⟨rfl, c⟩
  rw [enc_m7]
  replace b1 := below_step b1 c
  clear c
  go_wp2_with fail
  go_at_call 13
  refine (int_any 7 (by omega) (by omega) _ (tab_step ht b1)).mono ?_
  rintro e w4 ⟨rfl, c⟩
  rw [enc_7]
  replace b1 := below_step b1 c
  clear c
  go_wp2_with fail
  go_at_call 15
  refine (text_any _ (by decide) _ (tab_step ht b1)).mono ?_
  rintro e w5 ⟨rfl, c⟩
  rw [show encText _ = encText [97, 44, 98] from rfl, enc_t]
  replace b1 := below_step b1 c
  clear c
  go_wp2_with fail
  go_at_call 17
  have b6 : Below w.heap.size w (w5.alloc (.cells #[.int .i64 1, .int .i64 (-1)] 3)) := b1.alloc b1.size _
  have hc : CellsAt (w5.alloc (.cells #[.int .i64 1, .int .i64 (-1)] 3)) (some ⟨w5.heap.size, 0, none⟩) ([1, -1].map (Value.int .i64)) := by
    refine .inr ⟨w5.heap.size, 0, rfl, by simp, fun i hi => ?_⟩
    match i, hi with
    | 0, _ => simp
    | 1, _ => simp
  refine (nums_any (some ⟨w5.heap.size, 0, none⟩) 2 [1, -1] _ (tab_step ht b6) (by decide) (by intro z hz; simp at hz; omega) hc).mono ?_
  rintro e w6 ⟨rfl, c⟩
  rw [enc_l]
  replace b1 := below_step b6 c
  clear c b6 hc
  go_wp2_with fail
  go_at_call 19
  refine (texts_any none 0 [] _ (tab_step ht b1) (by decide +kernel) (.inl rfl)).mono ?_
  rintro e w7 ⟨rfl, c⟩
  rw [enc_n]
  replace b1 := below_step b1 c
  clear c
  go_wp2_with fail
  go_at_call 21
  refine (open_any _ _).mono ?_
  rintro e w8 ⟨rfl, hr, c⟩
  have hlt := hr.lt
  have b7 := b1.size
  replace b1 := below_step b1 c
  clear c
  go_wp2_with fail
  go_at_call 24
  refine (rNum_any w7.heap.size _ _ _ hr (by decide)).mono ?_
  rintro e w9 hp
  rw [show rdNum _ = none from rd_007] at hp
  obtain ⟨rfl, hr2, hg⟩ := hp
  replace b1 := b1.trans (below_of_grownBy hg b7 hlt)
  clear hg hr hlt
  go_wp2_with fail
  go_at_call 36
  refine (left_any w7.heap.size _ _ _ hr2).mono ?_
  rintro e w10 ⟨rfl, rfl⟩
  have hz : (bs []).size = 0 := rfl
  go_wp2_with fail
  go_at_call 38
  refine (done_any w7.heap.size _ _ _ hr2).mono ?_
  rintro e w10 ⟨rfl, rfl⟩
  go_wp2_with fail
  go_ret
  exact ⟨rfl, b1⟩
end Go.Proofs.YtenlbohacgamlaaDoor
