/-
  THE ARGUMENTS OF TYPE []Act AND []int, OPENED TO THEIR CELLS.
-/
import Derived.Test.YtclibkpipggdeaaEc
import Derived.ProofKit
import Derived.OpenShut
import Derived.Deep.Slices
import Derived.SliceStrings
namespace Go.Proofs.Ytclibkpipggdeaa
open Go.ChangeShapes Go.WideShapes Go.RowKit Go.Deep DiskM WireM
set_option linter.unusedVariables false
set_option linter.unusedSimpArgs false

section
variable {H : Type} {enc : TypeId × Value → H} {w : World} {base : Nat} {spare : Nat → Bool} {held : Bool}
theorem choose_lt' {α : Type} [Inhabited α] {P : Nat → α → Prop} {n : Nat} (h : ∀ i, i < n → ∃ x, P i x) : ∃ f : Nat → α, ∀ i, i < n → P i (f i) := by
  refine ⟨fun i => if hi : i < n then Classical.choose (h i hi) else default, fun i hi => ?_⟩
  simp only [dif_pos hi]
  exact Classical.choose_spec (h i hi)
theorem wf_range {z : Int} (h : (Lit.int .i64 z).wf = true) : -9223372036854775808 ≤ z ∧ z ≤ 9223372036854775807 := by
  simp only [Lit.wf, IntKind.min, IntKind.max, IntKind.signed, IntKind.bits, Bool.and_eq_true, decide_eq_true_eq, if_true] at h
  omega

theorem add_eq {a : Addr} {j : Nat} {v : Value} (h : w.cell? (a.add j) = some v) : a.add j = ⟨a.block, a.off + j, none⟩ ∧ a.block < w.heap.size := by
  have hs := World.cell?_spot h
  have hb : (a.add j).block = a.block := by unfold Addr.add; split <;> rfl
  have e : a.add j = ⟨a.block, a.off + j, none⟩ := by
    obtain ⟨x, y, z⟩ := a
    by_cases h0 : j = 0
    · subst h0
      simp only [Addr.add, if_true] at hs ⊢
      subst hs
      rfl
    · simp only [Addr.add, if_neg h0]
  refine ⟨e, ?_⟩
  rcases Nat.lt_or_ge a.block w.heap.size with h' | h'
  · exact h'
  · rw [e] at h
    simp [World.cell?, Array.getElem?_eq_none h'] at h

theorem add_add' (a : Addr) (i j : Nat) : (a.add i).add j = a.add (i + j) := by
  obtain ⟨x, y, z⟩ := a
  by_cases hi : i = 0
  · subst hi; simp [Addr.add]
  · by_cases hj : j = 0
    · subst hj; simp [Addr.add]
    · simp only [Addr.add, if_neg hi]
      by_cases hz : z = none <;> simp_all [Addr.add, Nat.add_assoc] <;> omega
theorem keep_ints {n : Nat} {v : Value} {x : DataW H × List MemPlace} (h : DataW.trod enc Try.prog w base spare held n 31 [v] = some x) :
    ∃ (a : Option Addr) (cap : Nat) (L : List Int), v = .slice a L.length cap ∧ SrcAt w (.slice a L.length cap) L.length (intCells L) ∧ L.length ≤ maxLen ∧ (L ≠ [] → ∀ b, (Value.slice a L.length cap).ownBlock = some b → b < w.heap.size) := by
  rcases open_ints Try.underlying31 Try.underlying3 (by kernel_rfl) h with ⟨hcs, _⟩ | ⟨a, len, cap, zs, hcs, _, hl, hm, hz, _, hcell, hwf⟩
  · simp at hcs
    exact ⟨none, 0, [], hcs, .inl ⟨⟨none, 0, rfl⟩, rfl, rfl⟩, by simp, fun h => absurd rfl h⟩
  · simp at hcs
    have hle : len ≤ zs.length := by rw [hz]; split <;> omega
    have hlen : (zs.take len).length = len := by rw [List.length_take, Nat.min_eq_left hle]
    refine ⟨some a, cap, zs.take len, by rw [hlen]; exact hcs, ?_, by omega, fun hne b hb => ?_⟩
    · by_cases h0 : len = 0
      · subst h0
        exact .inl ⟨⟨some a, cap, rfl⟩, rfl, rfl⟩
      · obtain ⟨e0, hb⟩ := add_eq (hcell 0 (by omega))
        have ea : a = ⟨a.block, a.off, none⟩ := by
          have : a.add 0 = a := by unfold Addr.add; simp
          rw [this] at e0
          simpa using e0
        refine .inr ⟨a.block, a.off, cap, ?_, fun i u hu => ?_⟩
        · exact congrArg (fun z => Value.slice (some z) _ _) ea
        · have hi' : i < len := by
            have := (List.getElem?_eq_some_iff.1 hu).1
            simp [intCells] at this; omega
          have hc := hcell i (by omega)
          rw [(add_eq hc).1] at hc
          rw [hc, ← hu]
          simp [intCells, List.getElem?_take_of_lt hi', List.getD, List.getElem?_eq_getElem (show i < zs.length by omega), show i < zs.length by omega, hi']
    · have h0 : 0 < len := by
        rcases Nat.eq_zero_or_pos len with e | e
        · subst e; exact absurd rfl hne
        · exact e
      obtain ⟨e0, hb'⟩ := add_eq (hcell 0 (by omega))
      have : a.block = b := by simpa [Value.ownBlock] using hb
      omega
/-- The five cells of an act, and what they read as. -/
theorem act_struct {n : Nat} {cs : List Value} {x : DataW H × List MemPlace} (h : DataW.trod enc Try.prog w base spare held n 33 cs = some x) :
    ∃ A : ActV, cs = A.cells.toList ∧ ActOk w.heap.size w A := by
  obtain ⟨xs, m, _, _, hlen, hxl, hg⟩ := DataW.trod_struct Try.underlying33 h
  have c5 : Try.prog.cellsOf 33 = 5 := by kernel_rfl
  have ci : Try.prog.cellsOf 3 = 1 := by kernel_rfl
  have cs1 : Try.prog.cellsOf 9 = 1 := by kernel_rfl
  have cl : Try.prog.cellsOf 31 = 1 := by kernel_rfl
  rw [c5] at hlen
  match cs, hlen, xs, hxl with
  | [v0, v1, v2, v3, v4], _, [y0, y1, y2, y3, y4], _ =>
    have h0 : DataW.trod enc Try.prog w base spare held m 3 (List.take (Try.prog.cellsOf 3) [v0, v1, v2, v3, v4]) = some y0 := hg 0 _ rfl
    rw [ci] at h0
    have h1 : DataW.trod enc Try.prog w base spare held m 3 (List.take (Try.prog.cellsOf 3) [v1, v2, v3, v4]) = some y1 := hg 1 _ rfl
    rw [ci] at h1
    have h2 : DataW.trod enc Try.prog w base spare held m 3 (List.take (Try.prog.cellsOf 3) [v2, v3, v4]) = some y2 := hg 2 _ rfl
    rw [ci] at h2
    have h3 : DataW.trod enc Try.prog w base spare held m 9 (List.take (Try.prog.cellsOf 9) [v3, v4]) = some y3 := hg 3 _ rfl
    rw [cs1] at h3
    have h4 : DataW.trod enc Try.prog w base spare held m 31 (List.take (Try.prog.cellsOf 31) [v4]) = some y4 := hg 4 _ rfl
    rw [cl] at h4
    obtain ⟨D, e0, _, wd⟩ := DataW.trod_int Try.underlying3 h0
    obtain ⟨F, e1, _, wf⟩ := DataW.trod_int Try.underlying3 h1
    obtain ⟨N, e2, _, wn⟩ := DataW.trod_int Try.underlying3 h2
    obtain ⟨S, e3, _, ws⟩ := DataW.trod_string Try.underlying9 h3
    have h4' : DataW.trod enc Try.prog w base spare held m 31 [v4] = some y4 := h4
    obtain ⟨ka, kc, K, e4, hk, hkl, hlow⟩ := keep_ints h4'
    have e0' : v0 = .int .i64 D := by simpa using e0
    have e1' : v1 = .int .i64 F := by simpa using e1
    have e2' : v2 = .int .i64 N := by simpa using e2
    have e3' : v3 = .string S := by simpa using e3
    subst e0' e1' e2' e3' e4
    exact ⟨⟨D, F, N, S, K, ka, kc⟩, rfl, ⟨wf_range wd, wf_range wf, wf_range wn, ws, hk, hlow⟩⟩
/-- An argument that is a slice of acts. -/
theorem open_acts {n : Nat} {a : Option Addr} {len cap : Nat} {x : DataW H × List MemPlace} (h : DataW.trod enc Try.prog w base spare held n 22 [.slice a len cap] = some x) :
    ∃ l : List ActV, len = l.length ∧ ActsAt w.heap.size w a l := by
  have c5 : Try.prog.cellsOf 33 = 5 := by kernel_rfl
  rcases open_slice Try.underlying22 h with ⟨hcs, _⟩ | ⟨a', len', cap', m, n', D, Pl, hcs, hb, hl, hm, hmm, hx, hi⟩
  · simp at hcs
    obtain ⟨rfl, rfl, rfl⟩ := hcs
    exact ⟨[], rfl, .inl rfl, by simp, by simp⟩
  · simp at hcs
    obtain ⟨rfl, rfl, rfl⟩ := hcs
    have hle : len ≤ m := by rw [hmm]; split <;> omega
    have each : ∀ i, i < len → ∃ v : ActV, (∀ j, j < 5 → w.cell? ⟨a'.block, a'.off + i * 5 + j, none⟩ = v.cells[j]?) ∧ ActOk w.heap.size w v ∧ a'.block < w.heap.size := fun i hil => by
      obtain ⟨cs', hc, ht⟩ := hi i (by omega)
      rw [c5] at hc
      obtain ⟨v, rfl, hok⟩ := act_struct ht
      obtain ⟨_, _, hat⟩ := World.cells?_some hc
      have hat' : ∀ j, j < 5 → w.cell? (a'.add (i * 5 + j)) = v.cells[j]? := fun j hj => by
        rw [← add_add', hat j hj]; simp
      have h0 : w.cell? (a'.add (i * 5 + 0)) = some (.int .i64 v.d) := hat' 0 (by omega)
      have e0 := add_eq h0
      refine ⟨v, fun j hj => ?_, hok, e0.2⟩
      · have hj2 := hat' j hj
        have hsome : ∃ u, v.cells[j]? = some u := ⟨v.cells[j]'(by simpa [ActV.cells] using hj), by simp⟩
        obtain ⟨u, hu⟩ := hsome
        rw [hu] at hj2 ⊢
        rw [(add_eq hj2).1, ← Nat.add_assoc] at hj2
        exact hj2
    obtain ⟨f, hf⟩ : ∃ f : Nat → ActV, ∀ i, i < len → (∀ j, j < 5 → w.cell? ⟨a'.block, a'.off + i * 5 + j, none⟩ = (f i).cells[j]?) ∧ ActOk w.heap.size w (f i) ∧ a'.block < w.heap.size := by
      have : Inhabited ActV := ⟨⟨0, 0, 0, .empty, [], none, 0⟩⟩
      exact choose_lt' each
    refine ⟨(List.range len).map f, by simp, ?_, fun A hA => ?_, by simp; omega⟩
    · by_cases h0 : len = 0
      · left; simp [h0]
      · right
        have hz := hf 0 (by omega)
        have hsp : a' = ⟨a'.block, a'.off, none⟩ := by
          have h1 := add_eq (a := a') (j := 0 * 5 + 0) (v := .int .i64 (f 0).d) (by
            obtain ⟨cs', hc, ht⟩ := hi 0 (by omega)
            rw [c5] at hc
            obtain ⟨v, rfl, _⟩ := act_struct ht
            obtain ⟨_, _, hat⟩ := World.cells?_some hc
            have h1 := hat 0 (by omega)
            have h2 : w.cell? a' = some (.int .i64 v.d) := by simpa [Addr.add, ActV.cells] using h1
            have h3 := World.cell?_spot h2
            have h4 := hz.1 0 (by omega)
            have h5 : a'.add (0 * 5 + 0) = ⟨a'.block, a'.off + 0 * 5 + 0, none⟩ := by
              obtain ⟨b, o, sp⟩ := a'
              simp only at h3
              subst h3
              simp [Addr.add]
            rw [h5, h4]; rfl)
          have e : a'.add (0 * 5 + 0) = a' := by simp [Addr.add]
          rw [e] at h1
          simpa using h1.1
        refine ⟨a'.block, a'.off, congrArg some hsp, hz.2.2, fun i A hA => ?_⟩
        have hil : i < len := by
          have := (List.getElem?_eq_some_iff.1 hA).1
          simpa using this
        have eA : A = f i := by
          rw [List.getElem?_map, List.getElem?_range hil] at hA
          simpa using hA.symm
        subst eA
        have hj := (hf i hil).1
        exact ⟨hj 0 (by omega), hj 1 (by omega), hj 2 (by omega), hj 3 (by omega), hj 4 (by omega)⟩
    · obtain ⟨i, hi', rfl⟩ := List.mem_map.1 hA
      exact (hf i (List.mem_range.1 hi')).2.1
end
end Go.Proofs.Ytclibkpipggdeaa
