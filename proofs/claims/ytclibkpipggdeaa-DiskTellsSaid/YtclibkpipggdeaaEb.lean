/-
  The statements' own helper small: it returns true.
-/
import Derived.Test.YtclibkpipggdeaaEa
namespace Go.Proofs.Ytclibkpipggdeaa
open Go.RowKit Go.Maps WireM DiskM
set_option linter.unusedVariables false
set_option linter.unusedSimpArgs false
namespace Sml
def s1 : St := (St.new.write 0 0 [97, 98, 99]).1
def s2 : St := (s1.sync 0).1
def s3 : St := (s2.write 0 1 [88, 89]).1
def s4 : St := s3.crash [1]
def s5 : St := s4.start
def c1 : St := s3.crash [0]
def c2 : St := c1.start
def c3 : St := (c2.write 1 62 [97, 98, 99, 100]).1
def c4 : St := c3.crash [0, 1]
def c5 : St := c4.start
def c6 : St := (c5.write 16 0 []).1
theorem r1 : (St.new.write 0 0 [97, 98, 99]).2 = 0 := by decide +kernel
theorem r2 : (s1.sync 0).2 = 0 := by decide +kernel
theorem r3 : (s2.write 0 1 [88, 89]).2 = 0 := by decide +kernel
theorem r4 : s4.down = true := by decide +kernel
theorem r5 : (s4.read 0 0 9).2 = 9 := by decide +kernel
theorem r6 : (s5.read 0 0 9) = ([97, 88, 89], 0) := by decide +kernel
theorem r7 : (c2.read 0 1 9) = ([98, 99], 0) := by decide +kernel
theorem r8 : (c2.write 1 62 [97, 98, 99, 100]).2 = 0 := by decide +kernel
theorem r9 : (c5.read 1 60 100) = ([0, 0, 0, 0, 99, 100], 0) := by decide +kernel
theorem r10 : c5.size 1 = 66 := by decide +kernel
theorem r11 : (c5.write 16 0 []).2 = 1 := by decide +kernel
theorem r12 : (c6.write 1 16777216 [97]).2 = 6 := by decide +kernel
end Sml
open Sml in
set_option maxHeartbeats 4000000 in
set_option maxRecDepth 100000 in
theorem small_any (w : World) : Calls Try.prog 4 #[] w fun e w' => e = .returned (.bool true) ∧ Below w.heap.size w w' := by
  have e1 : (bs [97, 88, 89]).toList = [97, 88, 89] := by decide +kernel
  have e2 : (bs [98, 99]).toList = [98, 99] := by decide +kernel
  have e3 : (bs [0, 0, 0, 0, 99, 100]).toList = [0, 0, 0, 0, 99, 100] := by decide +kernel
  have D0 := Lib.hid (Below.refl w.heap.size w)
  go_enter Try.func4, Try.ntmps4
  go_wp2_with (first
    | (go_at_call 6; refine (new_any _).mono ?_; rintro e w1 ⟨p, rfl, hf⟩; have D1 := Lib.hid (S1.made (w0 := w) hf D0.out (by simp [St.new])); clear hf D0)
    | (go_at_call 18; refine ((D1.out.write 0 0 ⟨#[97, 98, 99]⟩ (by decide) : Calls Try.prog _ _ _ _)).mono ?_; rintro e w2 ⟨rfl, hs⟩; rw [show (St.new.write 0 0 (⟨#[97, 98, 99]⟩ : ByteArray).data.toList).2 = 0 from r1]; have D2 := Lib.hid (show S1 w w2 p s1 from hs); clear hs D1)
    | (go_at_call 15; refine ((D2.out.sync 0 : Calls Try.prog _ _ _ _)).mono ?_; rintro e w3 ⟨rfl, hs⟩; rw [show (s1.sync 0).2 = 0 from r2]; have D3 := Lib.hid (show S1 w w3 p s2 from hs); clear hs D2)
    | (go_at_call 18; refine ((D3.out.write 0 1 ⟨#[88, 89]⟩ (by decide) : Calls Try.prog _ _ _ _)).mono ?_; rintro e w4 ⟨rfl, hs⟩; have D4 := Lib.hid (show S1 w w4 p s3 from hs); clear hs D3)
    | (go_at_call 14; refine (D4.out.copy).mono ?_; rintro e w5 ⟨p', rfl, hs⟩; have D5 := Lib.hid hs; clear hs D4)
    | (go_at_call 19; refine ((D5.out.crashL [1] 1 (by decide) : Calls Try.prog _ _ _ _)).mono ?_; rintro e w6 ⟨rfl, hs⟩; have D6 := Lib.hid (show S2 w w6 p s4 p' s3 from hs); clear hs D5)
    | (go_at_call 10; refine (D6.out.fst.isDown).mono ?_; rintro e w7 ⟨rfl, rfl⟩; rw [r4]; have D7 := D6; clear D6)
    | (go_at_call 16; refine (D7.out.fst.read 0 0 9 (by unfold InI; omega) (by unfold InI; omega) (by unfold InI; omega)).mono ?_; rintro e w8 ⟨rfl, rfl⟩; rw [r5]; have D8 := D7; clear D7)
    | (go_at_call 20; refine ((D8.out.start : Calls Try.prog _ _ _ _)).mono ?_; rintro e w9 ⟨rfl, hs⟩; have D9 := Lib.hid (show S2 w w9 p s5 p' s3 from hs); clear hs D8)
    | (go_at_call 16; refine (D9.out.fst.read 0 0 9 (by unfold InI; omega) (by unfold InI; omega) (by unfold InI; omega)).mono ?_; rintro e w10 ⟨rfl, rfl⟩; rw [r6]; have D10 := D9; clear D9)
    | (go_at_call 19; refine ((D10.out.swap.crashL [0] 1 (by decide) : Calls Try.prog _ _ _ _)).mono ?_; rintro e w11 ⟨rfl, hs⟩; have D11 := Lib.hid (show S2 w w11 p' c1 p s5 from hs); clear hs D10)
    | (go_at_call 20; refine ((D11.out.start : Calls Try.prog _ _ _ _)).mono ?_; rintro e w12 ⟨rfl, hs⟩; have D12 := Lib.hid (show S2 w w12 p' c2 p s5 from hs); clear hs D11)
    | (go_at_call 16; refine (D12.out.fst.read 0 1 9 (by unfold InI; omega) (by unfold InI; omega) (by unfold InI; omega)).mono ?_; rintro e w13 ⟨rfl, rfl⟩; rw [r7]; have D13 := D12; clear D12)
    | (go_at_call 18; refine ((D13.out.write 1 62 ⟨#[97, 98, 99, 100]⟩ (by decide) : Calls Try.prog _ _ _ _)).mono ?_; rintro e w14 ⟨rfl, hs⟩; rw [show (c2.write 1 62 (⟨#[97, 98, 99, 100]⟩ : ByteArray).data.toList).2 = 0 from r8]; have D14 := Lib.hid (show S2 w w14 p' c3 p s5 from hs); clear hs D13)
    | (go_at_call 19; refine ((D14.out.crashL [0, 1] 2 (by decide) : Calls Try.prog _ _ _ _)).mono ?_; rintro e w15 ⟨rfl, hs⟩; have D15 := Lib.hid (show S2 w w15 p' c4 p s5 from hs); clear hs D14)
    | (go_at_call 20; refine ((D15.out.start : Calls Try.prog _ _ _ _)).mono ?_; rintro e w16 ⟨rfl, hs⟩; have D16 := Lib.hid (show S2 w w16 p' c5 p s5 from hs); clear hs D15)
    | (go_at_call 16; refine (D16.out.fst.read 1 60 100 (by unfold InI; omega) (by unfold InI; omega) (by unfold InI; omega)).mono ?_; rintro e w17 ⟨rfl, rfl⟩; rw [r9]; have D17 := D16; clear D16)
    | (go_at_call 12; refine (D17.out.fst.size 1 (by unfold InI; omega)).mono ?_; rintro e w18 ⟨rfl, rfl⟩; rw [r10]; have D18 := D17; clear D17)
    | (go_at_call 18; refine ((D18.out.write 16 0 ⟨#[]⟩ (by decide) : Calls Try.prog _ _ _ _)).mono ?_; rintro e w19 ⟨rfl, hs⟩; rw [show (c5.write 16 0 (⟨#[]⟩ : ByteArray).data.toList).2 = 1 from r11]; have D19 := Lib.hid (show S2 w w19 p' c6 p s5 from hs); clear hs D18)
    | (go_at_call 18; refine (D19.out.write 1 16777216 ⟨#[97]⟩ (by decide)).mono ?_; rintro e w20 ⟨rfl, hs⟩; rw [show (c6.write 1 16777216 (⟨#[97]⟩ : ByteArray).data.toList).2 = 6 from r12]; have D20 := Lib.hid hs.fst.bel; clear hs D19))
  go_ret
  exact ⟨rfl, D20.out⟩
end Go.Proofs.Ytclibkpipggdeaa
