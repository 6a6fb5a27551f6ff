/-
  THE LAWS OF LAYER 3: few, played, after, byteAt.
-/
import Derived.Test.YtclibkpipggdeaaDb
namespace Go.Proofs.Ytclibkpipggdeaa
open Go.RowKit Go.Maps WireM DiskM
set_option linter.unusedVariables false
set_option linter.unusedSimpArgs false

theorem ActOk.mono {B B' : Nat} {w : World} {A : ActV} (h : ActOk B w A) (hB : B ≤ B') : ActOk B' w A := ⟨h.d, h.f, h.n, h.s, h.keep, fun hne b e => Nat.lt_of_lt_of_le (h.low hne b e) hB⟩
/-- The cells of an act. -/
structure ActCells (w : World) (b o : Nat) (A : ActV) : Prop where
  c0 : w.cell? ⟨b, o, none⟩ = some (.int .i64 A.d)
  c1 : w.cell? ⟨b, o + 1, none⟩ = some (.int .i64 A.f)
  c2 : w.cell? ⟨b, o + 2, none⟩ = some (.int .i64 A.n)
  c3 : w.cell? ⟨b, o + 3, none⟩ = some (.string A.s)
  c4 : w.cell? ⟨b, o + 4, none⟩ = some (.slice A.ka A.keep.length A.kc)
structure ActsAt (B : Nat) (w : World) (a : Option Addr) (l : List ActV) : Prop where
  cells : l = [] ∨ ∃ b o, a = some ⟨b, o, none⟩ ∧ b < B ∧ ∀ i A, l[i]? = some A → ActCells w b (o + i * 5) A
  ok : ∀ A ∈ l, ActOk B w A
  len : l.length ≤ maxLen
theorem ActsAt.below {B : Nat} {w w' : World} {a : Option Addr} {l : List ActV} (h : ActsAt B w a l) (hb : Below B w w') : ActsAt B w' a l := by
  refine ⟨h.cells.imp id ?_, fun A hA => (h.ok A hA).below hb, h.len⟩
  rintro ⟨b, o, e, hlt, hc⟩
  refine ⟨b, o, e, hlt, fun i A hA => ?_⟩
  have k := hc i A hA
  exact ⟨(hb.cell (p := ⟨b, _, none⟩) hlt).trans k.c0, (hb.cell (p := ⟨b, _, none⟩) hlt).trans k.c1, (hb.cell (p := ⟨b, _, none⟩) hlt).trans k.c2, (hb.cell (p := ⟨b, _, none⟩) hlt).trans k.c3, (hb.cell (p := ⟨b, _, none⟩) hlt).trans k.c4⟩
def okAct (A : ActV) : Prop := A.s.size ≤ 300 ∧ A.keep.length ≤ 60 ∧ (A.n ≤ 3000 ∨ 16776916 ≤ A.n)
instance (A : ActV) : Decidable (okAct A) := by unfold okAct; infer_instance
def Few (l : List ActV) : Prop := (∀ A ∈ l, okAct A) ∧ l.length ≤ 40
instance (l : List ActV) : Decidable (Few l) := by unfold Few; infer_instance
set_option maxHeartbeats 4000000 in
set_option maxRecDepth 100000 in
theorem few_any {B : Nat} {w : World} {a : Option Addr} {c : Nat} {l : List ActV} (h : ActsAt B w a l) :
    Calls Try.prog 5 #[.slice a l.length c] w fun e w' => e = .returned (.bool (decide (Few l))) ∧ w = w' := by
  have H := Lib.hid h
  have hlen := h.len
  unfold maxLen at hlen
  clear h
  go_enter Try.func5, Try.ntmps5
  go_wp2_with fail
  go_loopw [3] (fun i wr => ∃ j : Nat, j ≤ l.length ∧ i = .int .i64 (j : Int) ∧ wr = w ∧ Hid (∀ m A, m < j → l[m]? = some A → okAct A)) (fun i _ => l.length - (intOf i).toNat)
  case atStart => exact ⟨0, Nat.zero_le _, rfl, rfl, Lib.hid (fun m A hm => by omega)⟩
  case round =>
    obtain ⟨j, hj, rfl, rfl, HO⟩ := hrel
    by_cases hlt : j < l.length
    · obtain ⟨A, hA⟩ : ∃ A, l[j]? = some A := ⟨_, List.getElem?_eq_getElem hlt⟩
      rcases H.out.cells with e | ⟨b, o, rfl, hb, hc⟩
      · rw [e] at hlt; simp at hlt
      obtain ⟨c0, c1, c2, c3, c4⟩ := hc j A hA
      have g0 : (0 : Int) ≤ (j : Int) := by omega
      have g1 : (j : Int) < (l.length : Int) := by omega
      have w1 : wrap64 ((j : Int) + 1) = (j : Int) + 1 := by unfold wrap64; omega
      have W1 := Lib.hid w1
      have BAD := Lib.hid (show ¬ okAct A → decide (Few l) = false from fun hn => by
        refine decide_eq_false (fun hf => hn (hf.1 A (List.mem_of_getElem? hA))))
      have GOOD := Lib.hid (show okAct A → ∃ j' : Nat, j' ≤ l.length ∧ Value.int .i64 ((j : Int) + 1) = .int .i64 (j' : Int) ∧ True ∧ Hid (∀ m A, m < j' → l[m]? = some A → okAct A) from fun hok => ⟨j + 1, hlt, rfl, trivial, Lib.hid (fun m A' hm hA' => by
        by_cases e : m = j
        · subst e; rw [hA] at hA'; cases hA'; exact hok
        · exact HO.out m A' (by omega) hA')⟩)
      have MEAS := Lib.hid (show l.length - (intOf (.int .i64 ((j : Int) + 1))).toNat < l.length - (intOf (.int .i64 (j : Int))).toNat by simp [intOf]; omega)
      clear hc hA hlt hj w1
      by_cases h1 : 300 < A.s.size
      · have B1 := BAD.out (fun hn => by have := hn.1; omega)
        have B2 := Lib.hid B1
        have i1 : (300 : Int) < (A.s.size : Int) := by omega
        clear BAD GOOD h1 B1
        go_wp2
        go_ret
        exact ⟨by rw [B2.out]; rfl, rfl⟩
      have i1 : ¬ (300 : Int) < (A.s.size : Int) := by omega
      by_cases h2 : 60 < A.keep.length
      · have B1 := BAD.out (fun hn => by have := hn.2.1; omega)
        have B2 := Lib.hid B1
        have i2 : (60 : Int) < (A.keep.length : Int) := by omega
        clear BAD GOOD h1 h2 B1
        go_wp2
        go_ret
        exact ⟨by rw [B2.out]; rfl, rfl⟩
      have i2 : ¬ (60 : Int) < (A.keep.length : Int) := by omega
      by_cases h3 : 3000 < A.n
      · by_cases h4 : A.n < 16776916
        · have B1 := BAD.out (fun hn => by have := hn.2.2; omega)
          have B2 := Lib.hid B1
          clear BAD GOOD h1 h2 B1
          go_wp2
          go_ret
          exact ⟨by rw [B2.out]; rfl, rfl⟩
        · have G := Lib.hid (GOOD.out ⟨by omega, by omega, .inr (by omega)⟩)
          clear BAD GOOD h1 h2
          go_wp2
          go_roundw
          case rel => first | exact G.out | (rw [W1.out]; exact G.out)
          case measure => first | exact MEAS.out | (rw [W1.out]; exact MEAS.out)
      · have G := Lib.hid (GOOD.out ⟨by omega, by omega, .inl (by omega)⟩)
        clear BAD GOOD h1 h2
        go_wp2
        go_roundw
        case rel => first | exact G.out | (rw [W1.out]; exact G.out)
        case measure => first | exact MEAS.out | (rw [W1.out]; exact MEAS.out)
    · have g1 : ¬ (j : Int) < (l.length : Int) := by omega
      have hall : ∀ A ∈ l, okAct A := fun A hA => by
        obtain ⟨m, hm⟩ := List.getElem?_of_mem hA
        exact HO.out m A (by have := (List.getElem?_eq_some_iff.1 hm).1; omega) hm
      have E : decide (Few l) = decide ((l.length : Int) ≤ 40) := by
        by_cases h4 : l.length ≤ 40
        · rw [decide_eq_true (show Few l from ⟨hall, h4⟩), decide_eq_true (by omega)]
        · rw [decide_eq_false (fun hf : Few l => h4 hf.2), decide_eq_false (by omega)]
      have E2 := Lib.hid E
      clear E hall hlt hj HO
      go_wp2
      go_ret
      refine ⟨?_, rfl⟩
      rw [E2.out]
      first | rfl | (congr 2; simp; try omega)
end Go.Proofs.Ytclibkpipggdeaa
