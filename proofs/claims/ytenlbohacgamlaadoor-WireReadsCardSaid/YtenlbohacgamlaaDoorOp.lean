/-
  THE ARGUMENTS OF TYPE Value AND []Value, OPENED TO THEIR CELLS.
-/
import Derived.Test.YtenlbohacgamlaaDoorFw
import Derived.ProofKit
import Derived.OpenShut
import Derived.Deep.Slices
import Derived.SliceStrings
namespace Go.Proofs.YtenlbohacgamlaaDoor
open Go.ChangeShapes Go.WideShapes Go.RowKit Go.Deep
set_option linter.unusedVariables false
set_option linter.unusedSimpArgs false

section
variable {H : Type} {enc : TypeId × Value → H} {w : World} {base : Nat} {spare : Nat → Bool} {held : Bool}

theorem wf_range {z : Int} (h : (Lit.int .i64 z).wf = true) : -9223372036854775808 ≤ z ∧ z ≤ 9223372036854775807 := by
  simp only [Lit.wf, IntKind.min, IntKind.max, IntKind.signed, IntKind.bits, Bool.and_eq_true, decide_eq_true_eq, if_true] at h
  omega

theorem add_eq {a : Addr} {j : Nat} {v : Value} (h : w.cell? (a.add j) = some v) : a.add j = ⟨a.block, a.off + j, none⟩ ∧ a.block < w.heap.size := by
  have hs := World.cell?_spot h
  have hb : (a.add j).block = a.block := by unfold Addr.add; split <;> rfl
  have e : a.add j = ⟨a.block, a.off + j, none⟩ := by
    obtain ⟨x, y, z⟩ := a
    by_cases h0 : j = 0
    · subst h0
      simp only [Addr.add, if_true] at hs ⊢
      subst hs
      rfl
    · simp only [Addr.add, if_neg h0]
  refine ⟨e, ?_⟩
  rcases Nat.lt_or_ge a.block w.heap.size with h' | h'
  · exact h'
  · rw [e] at h
    simp [World.cell?, Array.getElem?_eq_none h'] at h

theorem vals_ints {n : Nat} {v : Value} {x : DataW H × List MemPlace} (h : DataW.trod enc Tryd.prog w base spare held n 22 [v] = some x) :
    ∃ (a : Option Addr) (cap : Nat) (L : List Int), v = .slice a L.length cap ∧ CellsIn w.heap.size w a (L.map (Value.int .i64)) ∧ ∀ z ∈ L, -9223372036854775808 ≤ z ∧ z ≤ 9223372036854775807 := by
  rcases open_ints Tryd.underlying22 Tryd.underlying3 (by kernel_rfl) h with ⟨hcs, _⟩ | ⟨a, len, cap, zs, hcs, _, hl, hm, hz, _, hcell, hwf⟩
  · simp at hcs
    exact ⟨none, 0, [], hcs, .inl rfl, by simp⟩
  · simp at hcs
    have hle : len ≤ zs.length := by rw [hz]; split <;> omega
    refine ⟨some a, cap, zs.take len, by rw [List.length_take, Nat.min_eq_left hle]; exact hcs, ?_, fun z hz' => wf_range (hwf z (List.mem_of_mem_take hz'))⟩
    by_cases h0 : len = 0
    · left; simp [h0]
    · right
      obtain ⟨e0, hb⟩ := add_eq (hcell 0 (by omega))
      refine ⟨a.block, a.off, ?_, hb, fun i hi => ?_⟩
      · have : a.add 0 = a := by unfold Addr.add; simp
        rw [← this, e0]
      · have hi' : i < len := by simpa [Nat.min_eq_left hle] using hi
        have hc := hcell i (by omega)
        rw [(add_eq hc).1] at hc
        rw [hc, List.getElem?_map, List.getElem?_take_of_lt hi', List.getElem?_eq_getElem (by omega)]
        simp [List.getD, show i < zs.length by omega]

theorem vals_texts {n : Nat} {v : Value} {x : DataW H × List MemPlace} (h : DataW.trod enc Tryd.prog w base spare held n 23 [v] = some x) :
    ∃ (a : Option Addr) (cap : Nat) (T : List ByteArray), v = .slice a T.length cap ∧ CellsIn w.heap.size w a (T.map Value.string) := by
  rcases open_strings Tryd.underlying23 Tryd.underlying9 (by kernel_rfl) h with ⟨hcs, _⟩ | ⟨a, len, cap, zs, hcs, _, hl, hm, hz, _, hcell, hwf⟩
  · simp at hcs
    exact ⟨none, 0, [], hcs, .inl rfl⟩
  · simp at hcs
    have hle : len ≤ zs.length := by rw [hz]; split <;> omega
    refine ⟨some a, cap, zs.take len, by rw [List.length_take, Nat.min_eq_left hle]; exact hcs, ?_⟩
    by_cases h0 : len = 0
    · left; simp [h0]
    · right
      obtain ⟨e0, hb⟩ := add_eq (hcell 0 (by omega))
      refine ⟨a.block, a.off, ?_, hb, fun i hi => ?_⟩
      · have : a.add 0 = a := by unfold Addr.add; simp
        rw [← this, e0]
      · have hi' : i < len := by simpa [Nat.min_eq_left hle] using hi
        have hc := hcell i (by omega)
        rw [(add_eq hc).1] at hc
        rw [hc, List.getElem?_map, List.getElem?_take_of_lt hi', List.getElem?_eq_getElem (by omega)]
        simp [List.getD, show i < zs.length by omega]

/-- The five cells of a value, and what they read as. -/
theorem vals_struct {n : Nat} {cs : List Value} {x : DataW H × List MemPlace} (h : DataW.trod enc Tryd.prog w base spare held n 25 cs = some x) :
    ∃ v : V, cs = v.cells.toList ∧ v.Ok w.heap.size w ∧ v.S.size ≤ maxLen := by
  obtain ⟨xs, m, _, _, hlen, hxl, hg⟩ := DataW.trod_struct Tryd.underlying25 h
  have c5 : Tryd.prog.cellsOf 25 = 5 := by kernel_rfl
  have ci : Tryd.prog.cellsOf 3 = 1 := by kernel_rfl
  have cs1 : Tryd.prog.cellsOf 9 = 1 := by kernel_rfl
  have cl : Tryd.prog.cellsOf 22 = 1 := by kernel_rfl
  have ct : Tryd.prog.cellsOf 23 = 1 := by kernel_rfl
  rw [c5] at hlen
  match cs, hlen, xs, hxl with
  | [v0, v1, v2, v3, v4], _, [y0, y1, y2, y3, y4], _ =>
    have h0 : DataW.trod enc Tryd.prog w base spare held m 3 (List.take (Tryd.prog.cellsOf 3) [v0, v1, v2, v3, v4]) = some y0 := hg 0 _ rfl
    rw [ci] at h0
    have h1 : DataW.trod enc Tryd.prog w base spare held m 3 (List.take (Tryd.prog.cellsOf 3) [v1, v2, v3, v4]) = some y1 := hg 1 _ rfl
    rw [ci] at h1
    have h2 : DataW.trod enc Tryd.prog w base spare held m 9 (List.take (Tryd.prog.cellsOf 9) [v2, v3, v4]) = some y2 := hg 2 _ rfl
    rw [cs1] at h2
    have h3 : DataW.trod enc Tryd.prog w base spare held m 22 (List.take (Tryd.prog.cellsOf 22) [v3, v4]) = some y3 := hg 3 _ rfl
    rw [cl] at h3
    have h4 : DataW.trod enc Tryd.prog w base spare held m 23 (List.take (Tryd.prog.cellsOf 23) [v4]) = some y4 := hg 4 _ rfl
    rw [ct] at h4
    obtain ⟨K, e0, _, wk⟩ := DataW.trod_int Tryd.underlying3 h0
    obtain ⟨N, e1, _, wn⟩ := DataW.trod_int Tryd.underlying3 h1
    obtain ⟨S, e2, _, ws⟩ := DataW.trod_string Tryd.underlying9 h2
    have h3' : DataW.trod enc Tryd.prog w base spare held m 22 [v3] = some y3 := h3
    have h4' : DataW.trod enc Tryd.prog w base spare held m 23 [v4] = some y4 := h4
    obtain ⟨la, lc, L, e3, hl, hr⟩ := vals_ints h3'
    obtain ⟨ta, tc, T, e4, ht⟩ := vals_texts h4'
    have e0' : v0 = .int .i64 K := by simpa using e0
    have e1' : v1 = .int .i64 N := by simpa using e1
    have e2' : v2 = .string S := by simpa using e2
    subst e0' e1' e2' e3 e4
    exact ⟨⟨K, N, S, la, lc, L, ta, tc, T⟩, rfl, ⟨(wf_range wn).1, (wf_range wn).2, hr, hl, ht⟩, ws⟩

/-- An argument that is a slice of values. -/
theorem open_vals {n : Nat} {a : Option Addr} {len cap : Nat} {x : DataW H × List MemPlace} (h : DataW.trod enc Tryd.prog w base spare held n 28 [.slice a len cap] = some x) :
    ∃ vs : List V, len = vs.length ∧ len ≤ maxLen ∧ ValsIn w.heap.size w a vs := by
  have c5 : Tryd.prog.cellsOf 25 = 5 := by kernel_rfl
  rcases open_slice Tryd.underlying28 h with ⟨hcs, _⟩ | ⟨a', len', cap', m, n', D, Pl, hcs, hb, hl, hm, hmm, hx, hi⟩
  · simp at hcs
    obtain ⟨rfl, rfl, rfl⟩ := hcs
    exact ⟨[], rfl, by simp, .inl rfl⟩
  · simp at hcs
    obtain ⟨rfl, rfl, rfl⟩ := hcs
    have hle : len ≤ m := by rw [hmm]; split <;> omega
    have each : ∀ i, i < len → ∃ v : V, (∀ j, j < 5 → w.cell? ⟨a'.block, a'.off + i * 5 + j, none⟩ = v.cells[j]?) ∧ v.Ok w.heap.size w ∧ a'.block < w.heap.size := fun i hil => by
      obtain ⟨cs', hc, ht⟩ := hi i (by omega)
      rw [c5] at hc
      obtain ⟨v, rfl, hok, _⟩ := vals_struct ht
      obtain ⟨_, _, hat⟩ := World.cells?_some hc
      have hat' : ∀ j, j < 5 → w.cell? (a'.add (i * 5 + j)) = v.cells[j]? := fun j hj => by
        rw [← add_add, hat j hj]; simp
      have h0 : w.cell? (a'.add (i * 5 + 0)) = some (.int .i64 v.K) := hat' 0 (by omega)
      have e0 := add_eq h0
      refine ⟨v, fun j hj => ?_, hok, e0.2⟩
      · have hj2 := hat' j hj
        have hsome : ∃ u, v.cells[j]? = some u := ⟨v.cells[j]'(by simpa [V.cells] using hj), by simp⟩
        obtain ⟨u, hu⟩ := hsome
        rw [hu] at hj2 ⊢
        rw [(add_eq hj2).1, ← Nat.add_assoc] at hj2
        exact hj2
    obtain ⟨f, hf⟩ : ∃ f : Nat → V, ∀ i, i < len → (∀ j, j < 5 → w.cell? ⟨a'.block, a'.off + i * 5 + j, none⟩ = (f i).cells[j]?) ∧ (f i).Ok w.heap.size w ∧ a'.block < w.heap.size := by
      have : Inhabited V := ⟨⟨0, 0, .empty, none, 0, [], none, 0, []⟩⟩
      exact choose_lt each
    refine ⟨(List.range len).map f, by simp, by omega, ?_⟩
    by_cases h0 : len = 0
    · left; simp [h0]
    · right
      have hz := hf 0 (by omega)
      have hsp : a' = ⟨a'.block, a'.off, none⟩ := by
        obtain ⟨cs', hc, ht⟩ := hi 0 (by omega)
        rw [c5] at hc
        obtain ⟨v, rfl, _, _⟩ := vals_struct ht
        obtain ⟨_, _, hat⟩ := World.cells?_some hc
        have h1 := hat 0 (by omega)
        have h2 : w.cell? a' = some (.int .i64 v.K) := by simpa [Addr.add, V.cells] using h1
        have h3 := World.cell?_spot h2
        obtain ⟨b, o, sp⟩ := a'
        simp only at h3
        rw [h3]
      refine ⟨a'.block, a'.off, congrArg some hsp, hz.2.2, fun i hi' j hj => ?_, fun v hv => ?_⟩
      · have hil : i < len := by simpa using hi'
        rw [(hf i hil).1 j hj]
        simp
      · obtain ⟨i, hi', rfl⟩ := List.mem_map.1 hv
        exact (hf i (List.mem_range.1 hi')).2.1
/-- An argument that is a value. -/
theorem open_val {r : Reach} {b0 : Nat} {W : World} {v : Value} {d : DataW H} {ps : List MemPlace} {sp : Nat → Bool} {hd : Bool} {b1 : Nat} (hv : Value.okWide Tryd.prog W r b0 25 v) (h : DataW.Trod enc Tryd.prog W b1 sp hd 25 v d ps) :
    ∃ x : V, v = .agg x.cells ∧ x.Ok W.heap.size W := by
  obtain ⟨cs, rfl, _⟩ := okWide_struct Tryd.underlying25 hv
  obtain ⟨fuel, hf⟩ := h
  obtain ⟨x, hx, hok, _⟩ := vals_struct hf
  refine ⟨x, ?_, hok⟩
  congr 1
  exact Array.toList_inj.1 hx

end

end Go.Proofs.YtenlbohacgamlaaDoor
