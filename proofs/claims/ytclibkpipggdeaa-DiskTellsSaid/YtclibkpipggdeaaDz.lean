/-
  PACKAGE disk: Truncate, the walk.
-/
import Derived.Test.YtclibkpipggdeaaDy
import Derived.Deep.RegionHeld3
namespace Go.Proofs.Ytclibkpipggdeaa
open Go.RowKit Go.Maps WireM DiskM
set_option linter.unusedVariables false
set_option linter.unusedSimpArgs false
set_option maxRecDepth 100000

set_option maxHeartbeats 8000000 in
set_option maxRecDepth 100000 in
theorem trunc_any {w : World} {p : Nat} {s : St} {q : Parts} (h : DiskIs w p s q) (hk : s.keep.length ≤ 1099511627776) (f n : Int) (hfI : InI f) :
    Calls Try.prog 21 #[.pointer (some ⟨p, 0, none⟩), .int .i64 f, .int .i64 n] w fun e w' => e = .returned (.int .i64 (s.trunc f n).2) ∧ Turn w p q (s.trunc f n).1 w' := by
  have BG := Lib.hid (begin_any h hk f)
  clear h
  by_cases h0 : (s.begin f).2 = 0
  · have hf : isF f := begin_file h0
    have HF := Lib.hid hf
    have HFI := Lib.hid hfI
    have EE := Lib.hid (show s.trunc f n = if n < 0 ∨ ((s.begin f).1.size f : Int) < n then ((s.begin f).1, 1) else ((s.begin f).1.cut f n.toNat, 0) by unfold St.trunc; rw [if_neg (by simp [h0])])
    rw [h0] at BG
    generalize (s.begin f).1 = s1 at *
    by_cases hn : n < 0
    · have E := EE.out
      rw [if_pos (.inl hn)] at E
      rw [E]
      clear E h0 hf EE hfI
      go_enter Try.func21, Try.ntmps21
      go_wp2_with (go_at_call 36; refine BG.out.mono ?_; rintro e w1 ⟨rfl, ht⟩; have HT := Lib.hid ht; clear ht)
      go_ret
      exact ⟨rfl, HT.out⟩
    by_cases hs : (s1.size f : Int) < n
    · have E := EE.out
      rw [if_pos (.inr hs)] at E
      rw [E]
      clear E h0 hf EE hfI
      go_enter Try.func21, Try.ntmps21
      go_wp2_with (first
        | (go_at_call 36; refine BG.out.mono ?_; rintro e w1 ⟨rfl, ht⟩; have HT := Lib.hid ht; obtain ⟨q1, h1, m1, k1⟩ := ht; have H1 := Lib.hid h1; clear h1 m1 k1)
        | (go_at_call 12; refine (size_any H1.out f HFI.out).mono ?_; rintro e w2 ⟨rfl, rfl⟩))
      go_ret
      exact ⟨rfl, HT.out⟩
    · have E := EE.out
      rw [if_neg (by rintro (h | h); exact hn h; exact hs h)] at E
      rw [E]
      obtain ⟨m, rfl⟩ : ∃ m : Nat, n = m := ⟨n.toNat, by omega⟩
      rw [Int.toNat_natCast]
      have hms : m ≤ (s1.now f).length := by have : s1.size f = (s1.now f).length := rfl; omega
      have HMS := Lib.hid hms
      clear E h0 hf EE hfI hms
      go_enter Try.func21, Try.ntmps21
      go_wp2_with (first
        | (go_at_call 36; refine BG.out.mono ?_; rintro e w1 ⟨rfl, ht⟩; obtain ⟨q1, h1, m1, k1⟩ := ht; have d0 := h1.c0; obtain ⟨a, c, t1, a2, c2, w2, t2, t3, t4, t5, t6, CL⟩ := trunc_steps h1 HF.out HMS.out; have H1 := Lib.hid h1; have M1 := Lib.hid m1; have K1 := Lib.hid k1; clear h1 m1 k1)
        | (go_at_call 12; refine (size_any H1.out f HFI.out).mono ?_; rintro e w2 ⟨rfl, rfl⟩))
      have FIN := Lib.hid (fun x (ht : Turn w1 p q1 (s1.cut f m) x) => Turn.step M1.out K1.out ht)
      clear H1 M1 K1
      go_region
      go_wp2
      have t5d : w2.drew.cell? ⟨p, 0, none⟩ = some (.map (some q1.bf)) ∧ w2.drew.cell? ⟨p, 1, none⟩ = some (.map (some q1.bd)) := ⟨t4, t5⟩
      go_region_held3 (fun w' => w'.cell? ⟨p, 0, none⟩ = some (.map (some q1.bf)) ∧ w'.cell? ⟨p, 1, none⟩ = some (.map (some q1.bd))) (first | exact t5d | exact b1 | exact b3) (first | (go_at_call 45; refine CL.out.mono ?_; rintro e w3 ⟨v', rfl, b1, w4, b2, b3, CU⟩; have b10 := b1.1; have b11 := b1.2))
      go_wp2_with (go_at_call 38; refine CU.out.mono ?_; rintro e w5 ⟨rfl, ht⟩; have HT := Lib.hid (FIN.out w5 ht); clear ht)
      go_ret
      exact ⟨rfl, HT.out⟩
  · have E : s.trunc f n = s.begin f := by unfold St.trunc; rw [if_pos (by simpa using h0)]
    rw [E]
    have n0 : ((s.begin f).2 == 0) = false := by rw [beq_eq_false_iff_ne]; exact h0
    generalize s.begin f = r at *
    obtain ⟨s1, c⟩ := r
    simp only at n0 BG ⊢
    clear E h0
    go_enter Try.func21, Try.ntmps21
    go_wp2_with (go_at_call 36; refine BG.out.mono ?_; rintro e w1 ⟨rfl, ht⟩; have HT := Lib.hid ht; clear ht)
    go_ret
    exact ⟨rfl, HT.out⟩
end Go.Proofs.Ytclibkpipggdeaa
