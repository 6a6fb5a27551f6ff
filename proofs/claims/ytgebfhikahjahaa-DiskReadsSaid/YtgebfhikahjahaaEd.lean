/-
  DiskReads: the walk.
-/
import Derived.Test.YtgebfhikahjahaaEc
namespace Go.Proofs.Ytgebfhikahjahaa
open Go.RowKit Go.Maps WireM DiskM
set_option linter.unusedVariables false
set_option linter.unusedSimpArgs false

set_option maxHeartbeats 4000000 in
set_option maxRecDepth 100000 in
theorem slice_two (s : ByteArray) (i j : Nat) (I J : Int) (hI : I = i) (hJ : J = j) (hij : i ≤ j) (hj : j ≤ s.size) (W : World) : (Instr.slice 9 (.string s) (some (.int .i64 I)) (some (.int .i64 J)) none).run Try.prog W = .ok (.string (s.extract i j)) W := by
  subst hJ; subst hI
  rw [run_slice_string W 9 s .i64 .i64 (i : Int) (j : Int) Try.underlying9 (by omega) (by omega) (by omega)]; rfl
theorem slice_upto (s : ByteArray) (j : Nat) (J : Int) (hJ : J = j) (hj : j ≤ s.size) (W : World) : (Instr.slice 9 (.string s) none (some (.int .i64 J)) none).run Try.prog W = .ok (.string (s.extract 0 j)) W := by
  subst hJ
  rw [run_slice_string_to_if W 9 s .i64 (j : Int) Try.underlying9, if_pos ⟨by omega, by omega⟩]; rfl
set_option maxHeartbeats 4000000 in
set_option maxRecDepth 100000 in
theorem reads_few {w : World} {a : Option Addr} {c : Nat} {l : List ActV} (h : ActsAt w.heap.size w a l) (f m : Int) (s : ByteArray) (n : Int) (hs : s.size ≤ maxLen) (hg : ¬ (Few l ∧ s.size ≤ 300 ∧ 0 ≤ m ∧ m ≤ 3000 ∧ 0 ≤ n)) :
    Calls Try.prog 7 #[.slice a l.length c, .int .i64 f, .int .i64 m, .string s, .int .i64 n] w fun e w' => e = .returned (.bool true) ∧ Below w.heap.size w w' := by
  have H := Lib.hid h
  have D0 := Lib.hid (Below.refl w.heap.size w)
  clear h
  unfold maxLen at hs
  by_cases hf : Few l
  · have FD := Lib.hid (decide_eq_true hf)
    have hg' : ¬ ((s.size : Int) ≤ 300 ∧ 0 ≤ m ∧ m ≤ 3000 ∧ 0 ≤ n) := fun h => hg ⟨hf, by omega, h.2⟩
    clear hg hf
    go_enter Try.func7, Try.ntmps7
    go_wp2_with (first
      | (go_at_call 8; refine (small_at D0.out).mono ?_; rintro e w1 ⟨rfl, b1⟩; have D1 := Lib.hid b1; clear b1 D0)
      | (go_at_call 9; refine (few_at H.out D1.out FD.out).mono ?_; rintro e w1 ⟨rfl, rfl⟩)
      | (exfalso; omega))
    all_goals (go_ret; exact ⟨rfl, D1.out⟩)
  · have FD := Lib.hid (decide_eq_false hf)
    clear hg hf
    go_enter Try.func7, Try.ntmps7
    go_wp2_with (first
      | (go_at_call 8; refine (small_at D0.out).mono ?_; rintro e w1 ⟨rfl, b1⟩; have D1 := Lib.hid b1; clear b1 D0)
      | (go_at_call 9; refine (few_at H.out D1.out FD.out).mono ?_; rintro e w1 ⟨rfl, rfl⟩))
    all_goals (go_ret; exact ⟨rfl, D1.out⟩)
set_option maxHeartbeats 4000000 in
set_option maxRecDepth 100000 in
theorem reads_bad {w : World} {a : Option Addr} {c : Nat} {l : List ActV} (h : ActsAt w.heap.size w a l) (f m : Int) (s : ByteArray) (n : Int) (hf : Few l) (hs : s.size ≤ 300) (h0 : 0 ≤ m) (h1 : m ≤ 3000) (h2 : 0 ≤ n) (hfI : InI f) (hb : (runActs St.new l).down = true ∨ ¬ isF f) :
    Calls Try.prog 7 #[.slice a l.length c, .int .i64 f, .int .i64 m, .string s, .int .i64 n] w fun e w' => e = .returned (.bool true) ∧ Below w.heap.size w w' := by
  have H := Lib.hid h
  have HF := Lib.hid hf
  have D0 := Lib.hid (Below.refl w.heap.size w)
  have FD := Lib.hid (decide_eq_true hf)
  have NE := Lib.hid (write_bad (s := (runActs St.new l).arm 0 []) (f := f) (a := m) (t := s.data.toList) rfl hb)
  have i1 : (s.size : Int) ≤ 300 := by omega
  generalize hst : runActs St.new l = st at *
  have HST := Lib.hid hst
  clear h hf hst
  have walk : ∀ dn : Bool, st.down = dn → (dn = true ∨ f < 0 ∨ 15 < f) → Calls Try.prog 7 #[.slice a l.length c, .int .i64 f, .int .i64 m, .string s, .int .i64 n] w fun e w' => e = .returned (.bool true) ∧ Below w.heap.size w w' := by
    intro dn hdn hor
    have HDN := Lib.hid hdn
    clear hdn hb
    rcases hor with rfl | hor | hor
    all_goals
      go_enter Try.func7, Try.ntmps7
      go_wp2_with (first
        | (go_at_call 8; refine (small_at D0.out).mono ?_; rintro e w1 ⟨rfl, b1⟩; have D1 := Lib.hid b1; clear b1 D0)
        | (go_at_call 9; refine (few_at H.out D1.out FD.out).mono ?_; rintro e w1 ⟨rfl, rfl⟩)
        | (go_at_call 22; refine (played_S1 H.out D1.out HF.out).mono ?_; rintro e w2 ⟨p, rfl, hs⟩; rw [HST.out] at hs; have D2 := Lib.hid hs; clear hs D1)
        | (go_at_call 27; refine (D2.out.arm (ListAt.nil w) 0 (by omega)).mono ?_; rintro e w3 ⟨rfl, hs⟩; have D3 := Lib.hid hs; clear hs D2)
        | (go_at_call 14; refine (D3.out.isDown).mono ?_; rintro e w4 ⟨rfl, rfl⟩; rw [show (st.arm 0 []).down = _ from HDN.out]; have D4 := D3; clear D3)
        | (go_at_call 29; refine (D4.out.write f m s (by omega)).mono ?_; rintro e w5 ⟨rfl, hs⟩; have hne := NE.out; have D5 := Lib.hid hs.bel; clear hs D4 NE; generalize ((st.arm 0 []).write f m s.data.toList).2 = z at *))
      all_goals (go_ret; first | exact ⟨rfl, D5.out⟩ | exact ⟨by simp [hne], D5.out⟩)
  rcases hb with hb | hb
  · exact walk true hb (.inl rfl)
  · refine walk _ rfl (.inr ?_)
    unfold isF at hb
    omega
end Go.Proofs.Ytgebfhikahjahaa
