/-
  DiskSurvives: the walk.
-/
import Derived.Test.YtgebfhikahjahaaEk
namespace Go.Proofs.Ytgebfhikahjahaa
open Go.RowKit Go.Maps WireM DiskM
set_option linter.unusedVariables false
set_option linter.unusedSimpArgs false

set_option maxHeartbeats 4000000 in
set_option maxRecDepth 100000 in
theorem survives_few {w : World} {a ka : Option Addr} {c kc : Nat} {l : List ActV} {k : List Int} (h : ActsAt w.heap.size w a l) (f : Int) (hk : k.length ≤ maxLen) (hg : ¬ (Few l ∧ k.length ≤ 60)) :
    Calls Try.prog 4 #[.slice a l.length c, .int .i64 f, .slice ka k.length kc] w fun e w' => e = .returned (.bool true) ∧ Below w.heap.size w w' := by
  have H := Lib.hid h
  have D0 := Lib.hid (Below.refl w.heap.size w)
  clear h
  unfold maxLen at hk
  by_cases hf : Few l
  · have FD := Lib.hid (decide_eq_true hf)
    have hg' : (60 : Int) < (k.length : Int) := by
      have : ¬ k.length ≤ 60 := fun h => hg ⟨hf, h⟩
      omega
    clear hg hf
    go_enter Try.func4, Try.ntmps4
    go_wp2_with (first
      | (go_at_call 8; refine (small_at D0.out).mono ?_; rintro e w1 ⟨rfl, b1⟩; have D1 := Lib.hid b1; clear b1 D0)
      | (go_at_call 9; refine (few_at H.out D1.out FD.out).mono ?_; rintro e w1 ⟨rfl, rfl⟩; clear FD))
    all_goals (go_ret; exact ⟨rfl, D1.out⟩)
  · have FD := Lib.hid (decide_eq_false hf)
    clear hg hf
    go_enter Try.func4, Try.ntmps4
    go_wp2_with (first
      | (go_at_call 8; refine (small_at D0.out).mono ?_; rintro e w1 ⟨rfl, b1⟩; have D1 := Lib.hid b1; clear b1 D0)
      | (go_at_call 9; refine (few_at H.out D1.out FD.out).mono ?_; rintro e w1 ⟨rfl, rfl⟩; clear FD))
    all_goals (go_ret; exact ⟨rfl, D1.out⟩)
set_option maxHeartbeats 4000000 in
set_option maxRecDepth 100000 in
theorem survives_bad {w : World} {a ka : Option Addr} {c kc : Nat} {l : List ActV} {k : List Int} (h : ActsAt w.heap.size w a l) (f : Int) (hfI : InI f) (hf : Few l) (hk : k.length ≤ 60) (hb : (runActs St.new l).down = true ∨ ¬ isF f ∨ 100000 < ((runActs St.new l).now f).length) :
    Calls Try.prog 4 #[.slice a l.length c, .int .i64 f, .slice ka k.length kc] w fun e w' => e = .returned (.bool true) ∧ Below w.heap.size w w' := by
  have H := Lib.hid h
  have HF := Lib.hid hf
  have D0 := Lib.hid (Below.refl w.heap.size w)
  have FD := Lib.hid (decide_eq_true hf)
  have hk' : (k.length : Int) ≤ 60 := by omega
  have HFI := Lib.hid hfI
  generalize hst : runActs St.new l = st at *
  have HST := Lib.hid hst
  clear h hf hst hfI
  have walk : ∀ (dn : Bool) (Z : Int), st.down = dn → (st.size f : Int) = Z → (dn = true ∨ (f < 0 ∨ 15 < f) ∨ 100000 < Z) → Calls Try.prog 4 #[.slice a l.length c, .int .i64 f, .slice ka k.length kc] w fun e w' => e = .returned (.bool true) ∧ Below w.heap.size w w' := by
    intro dn Z hdn hZ hor
    have HDN := Lib.hid hdn
    have HZ := Lib.hid hZ
    clear hdn hb hZ
    cases dn
    all_goals
      go_enter Try.func4, Try.ntmps4
      go_wp2_with (first
        | (go_at_call 8; refine (small_at D0.out).mono ?_; rintro e w1 ⟨rfl, b1⟩; have D1 := Lib.hid b1; clear b1 D0)
        | (go_at_call 9; refine (few_at H.out D1.out FD.out).mono ?_; rintro e w1 ⟨rfl, rfl⟩; clear FD)
        | (go_at_call 22; refine (played_S1 H.out D1.out HF.out).mono ?_; rintro e w2 ⟨p, rfl, hs⟩; rw [HST.out] at hs; have D2 := Lib.hid hs; have B2 := Lib.hid hs.bel; clear hs D1)
        | (go_at_call 14; refine (D2.out.isDown).mono ?_; rintro e w4 ⟨rfl, rfl⟩; rw [HDN.out]; have D3 := D2; clear D2)
        | (go_at_call 16; refine (D3.out.size f HFI.out).mono ?_; rintro e w5 ⟨rfl, rfl⟩; rw [HZ.out]; have D4 := D3; clear D3)
        | (exfalso; rcases hor with h | h | h <;> first | omega | cases h))
      all_goals (go_ret; exact ⟨rfl, B2.out⟩)
  rcases hb with hb | hb | hb
  · exact walk true _ hb rfl (.inl rfl)
  · refine walk _ _ rfl rfl (.inr (.inl ?_))
    unfold isF at hb
    omega
  · exact walk _ _ rfl rfl (.inr (.inr (by show (100000 : Int) < (((st.now f).length : Nat) : Int); omega)))
end Go.Proofs.Ytgebfhikahjahaa
