/-
  DiskArms: same.
-/
import Derived.Test.YtgebfhikahjahaaEc
import Derived.Deep.QuietTactic
import Derived.BigQuiet
namespace Go.Proofs.Ytgebfhikahjahaa
open Go.RowKit Go.Maps WireM DiskM
set_option linter.unusedVariables false
set_option linter.unusedSimpArgs false

theorem below_drews {B : Nat} {a w : World} (h : Below B a w) (n : Nat) : Below B a (w.drewN n) := h.trans ⟨rfl, rfl, rfl, Nat.le_refl _, fun _ _ => rfl⟩
theorem S2.drewN {w0 w : World} {p : Nat} {s : St} {p' : Nat} {s' : St} (h : S2 w0 w p s p' s') (n : Nat) : S2 w0 (w.drewN n) p s p' s' := h.on (below_drews (Below.refl _ w) n)
theorem read_like {s s' : St} (hd : s.down = s'.down) (hn : s.now = s'.now) (f a n : Int) : s'.read f a n = s.read f a n := by unfold St.read; rw [hd, hn]
theorem both_read {w0 w : World} {p : Nat} {s : St} {p' : Nat} {s' : St} (h : S2 w0 w p s p' s') (hd : s.down = s'.down) (hn : s.now = s'.now) (f a n : Int) (hf : InI f) (ha : InI a) (hi : InI n) :
    ∀ x, x = p ∨ x = p' → Calls Try.prog 20 #[.pointer (some ⟨x, 0, none⟩), .int .i64 f, .int .i64 a, .int .i64 n] w fun e w' => e = .returned (.tuple #[.string (bs (s.read f a n).1), .int .i64 (s.read f a n).2]) ∧ w' = w := by
  rintro x (rfl | rfl)
  · exact (h.fst.read f a n hf ha hi).mono (fun _ _ hh => ⟨hh.1, hh.2.symm⟩)
  · have := h.swap.fst.read f a n hf ha hi
    rw [read_like hd hn] at this
    exact this.mono (fun _ _ hh => ⟨hh.1, hh.2.symm⟩)
theorem both_size {w0 w : World} {p : Nat} {s : St} {p' : Nat} {s' : St} (h : S2 w0 w p s p' s') (hn : s.now = s'.now) (f : Int) (hf : InI f) :
    ∀ x, x = p ∨ x = p' → Calls Try.prog 16 #[.pointer (some ⟨x, 0, none⟩), .int .i64 f] w fun e w' => e = .returned (.int .i64 (s.size f)) ∧ w' = w := by
  rintro x (rfl | rfl)
  · exact (h.fst.size f hf).mono (fun _ _ hh => ⟨hh.1, hh.2.symm⟩)
  · have := h.swap.fst.size f hf
    rw [show s'.size f = s.size f by unfold St.size; rw [hn]] at this
    exact this.mono (fun _ _ hh => ⟨hh.1, hh.2.symm⟩)
theorem both_down {w0 w : World} {p : Nat} {s : St} {p' : Nat} {s' : St} (h : S2 w0 w p s p' s') {b : Bool} (h1 : s.down = b) (h2 : s'.down = b) :
    ∀ x, x = p ∨ x = p' → Calls Try.prog 14 #[.pointer (some ⟨x, 0, none⟩)] w fun e w' => e = .returned (.bool b) ∧ w' = w := by
  rintro x (rfl | rfl)
  · have := h.fst.isDown
    rw [h1] at this
    exact this.mono (fun _ _ hh => ⟨hh.1, hh.2.symm⟩)
  · have := h.swap.fst.isDown
    rw [h2] at this
    exact this.mono (fun _ _ hh => ⟨hh.1, hh.2.symm⟩)
set_option maxHeartbeats 4000000 in
set_option maxRecDepth 100000 in
theorem same_any {w0 w : World} {p : Nat} {s : St} {p' : Nat} {s' : St} (h : S2 w0 w p s p' s') {a : Option Addr} {c : Nat} {l : List ActV} (ha : ActsAt w0.heap.size w0 a l) (hl : l.length ≤ 40) (hd : s.down = s'.down) (hn : s.now = s'.now) :
    Calls Try.prog 28 #[.pointer (some ⟨p, 0, none⟩), .pointer (some ⟨p', 0, none⟩), .slice a l.length c] w fun e w' => e = .returned (.bool true) ∧ S2 w0 w' p s p' s' := by
  have H := Lib.hid h
  have HA := Lib.hid ha
  have HD := Lib.hid hd
  have HN := Lib.hid hn
  have DN := Lib.hid (both_down h rfl hd.symm)
  generalize hdn : s.down = dn at DN
  clear h ha hd hn hdn
  cases dn
  all_goals
    go_enter Try.func28, Try.ntmps28
    go_wp2_with (go_at_call 14; refine (DN.out _ (by first | exact .inl rfl | exact .inr rfl)).mono ?_; rintro e w1 ⟨rfl, rfl⟩)
    go_loopw [7] (fun i wr => ∃ j : Nat, j ≤ l.length ∧ i = .int .i64 (j : Int) ∧ Hid (S2 w0 wr p s p' s')) (fun i _ => l.length - (intOf i).toNat)
    case atStart => exact ⟨0, Nat.zero_le _, rfl, H⟩
    case round =>
      obtain ⟨j, hj, rfl, HR⟩ := hrel
      by_cases hlt : j < l.length
      · obtain ⟨A, hA⟩ : ∃ A, l[j]? = some A := ⟨_, List.getElem?_eq_getElem hlt⟩
        have hacts := HA.out.below HR.out.fst.bel
        rcases hacts.cells with e | ⟨b, o, rfl, hb, hc⟩
        · rw [e] at hlt; simp at hlt
        obtain ⟨c0, c1, c2, c3, c4⟩ := hc j A hA
        have hI := (HA.out.ok A (List.mem_of_getElem? hA)).f
        have g0 : (0 : Int) ≤ (j : Int) := by omega
        have g1 : (j : Int) < (l.length : Int) := by omega
        have w1' : wrap64 ((j : Int) + 1) = (j : Int) + 1 := by unfold wrap64; omega
        have W1 := Lib.hid w1'
        have NX := Lib.hid (show ∀ w', S2 w0 w' p s p' s' → ∃ j' : Nat, j' ≤ l.length ∧ Value.int .i64 ((j : Int) + 1) = .int .i64 (j' : Int) ∧ Hid (S2 w0 w' p s p' s') from fun w' h => ⟨j + 1, hlt, rfl, Lib.hid h⟩)
        have MEAS := Lib.hid (show l.length - (intOf (.int .i64 ((j : Int) + 1))).toNat < l.length - (intOf (.int .i64 (j : Int))).toNat by simp [intOf]; omega)
        have RD := Lib.hid (both_read HR.out HD.out HN.out A.f 0 16777216 hI (by unfold InI; omega) (by unfold InI; omega))
        have SZ := Lib.hid (fun n => both_size (HR.out.drewN n) HN.out A.f hI)
        have GO := Lib.hid (fun n => NX.out _ (HR.out.drewN n))
        generalize s.read A.f 0 16777216 = r at *
        obtain ⟨X, z⟩ := r
        generalize s.size A.f = K at *
        have ne1 : ((bs X).toList != (bs X).toList) = false := by simp
        have ne2 : (z != z) = false := by simp
        clear hacts hc hA hlt hj w1' NX HR hI c0 c2 c3 c4
        go_wp2_with (go_at_call 20; refine (RD.out _ (by first | exact .inl rfl | exact .inr rfl)).mono ?_; rintro e w1 ⟨rfl, rfl⟩)
        go_quiet ((go_at_call 16; exact Calls.quiet_of_same (SZ.out _ _ (by first | exact .inl rfl | exact .inr rfl))))
        go_wp2_with (fail)
        go_roundw
        case rel => first | exact GO.out _ | (rw [W1.out]; exact GO.out _)
        case measure => first | exact MEAS.out | (rw [W1.out]; exact MEAS.out)
      · have g1 : ¬ (j : Int) < (l.length : Int) := by omega
        clear hlt hj
        go_wp2
        go_ret
        exact ⟨rfl, HR.out⟩
end Go.Proofs.Ytgebfhikahjahaa
