/-
  ARGUMENTS OPENED: []int, and the operations of layer 4's laws.
-/
import Derived.Test.YtdejajpmebgidaaDoorJa
import Derived.ProofKit
import Derived.OpenShut
import Derived.Deep.Slices
import Derived.SliceStrings
namespace Go.Proofs.YtdejajpmebgidaaDoor
open Go.ChangeShapes Go.WideShapes Go.RowKit Go.Deep DiskM WireM
set_option linter.unusedVariables false
set_option linter.unusedSimpArgs false
set_option maxRecDepth 100000

/-- An operation of layer 4's laws. -/
structure OpV where
  d : Int
  s : ByteArray
  n : Int
  keep : List Int
  ka : Option Addr
  kc : Nat
def OpV.cells (A : OpV) : Array Value := #[.int .i64 A.d, .string A.s, .int .i64 A.n, .slice A.ka A.keep.length A.kc]
structure OpOk (B : Nat) (w : World) (A : OpV) : Prop where
  d : InI A.d
  n : InI A.n
  s : A.s.size ≤ maxLen
  keep : SrcAt w (.slice A.ka A.keep.length A.kc) A.keep.length (intCells A.keep)
  low : A.keep ≠ [] → ∀ b, (Value.slice A.ka A.keep.length A.kc).ownBlock = some b → b < B
structure OpCells (w : World) (b o : Nat) (A : OpV) : Prop where
  c0 : w.cell? ⟨b, o, none⟩ = some (.int .i64 A.d)
  c1 : w.cell? ⟨b, o + 1, none⟩ = some (.string A.s)
  c2 : w.cell? ⟨b, o + 2, none⟩ = some (.int .i64 A.n)
  c3 : w.cell? ⟨b, o + 3, none⟩ = some (.slice A.ka A.keep.length A.kc)
structure OpsAt (B : Nat) (w : World) (a : Option Addr) (l : List OpV) : Prop where
  cells : l = [] ∨ ∃ b o, a = some ⟨b, o, none⟩ ∧ b < B ∧ ∀ i A, l[i]? = some A → OpCells w b (o + i * 4) A
  ok : ∀ A ∈ l, OpOk B w A
  len : l.length ≤ maxLen
section
variable {H : Type} {enc : TypeId × Value → H} {w : World} {base : Nat} {spare : Nat → Bool} {held : Bool}
theorem choose_lt' {α : Type} [Inhabited α] {P : Nat → α → Prop} {n : Nat} (h : ∀ i, i < n → ∃ x, P i x) : ∃ f : Nat → α, ∀ i, i < n → P i (f i) := by
  refine ⟨fun i => if hi : i < n then Classical.choose (h i hi) else default, fun i hi => ?_⟩
  simp only [dif_pos hi]
  exact Classical.choose_spec (h i hi)
theorem wf_range {z : Int} (h : (Lit.int .i64 z).wf = true) : -9223372036854775808 ≤ z ∧ z ≤ 9223372036854775807 := by
  simp only [Lit.wf, IntKind.min, IntKind.max, IntKind.signed, IntKind.bits, Bool.and_eq_true, decide_eq_true_eq, if_true] at h
  omega

theorem add_eq {a : Addr} {j : Nat} {v : Value} (h : w.cell? (a.add j) = some v) : a.add j = ⟨a.block, a.off + j, none⟩ ∧ a.block < w.heap.size := by
  have hs := World.cell?_spot h
  have hb : (a.add j).block = a.block := by unfold Addr.add; split <;> rfl
  have e : a.add j = ⟨a.block, a.off + j, none⟩ := by
    obtain ⟨x, y, z⟩ := a
    by_cases h0 : j = 0
    · subst h0
      simp only [Addr.add, if_true] at hs ⊢
      subst hs
      rfl
    · simp only [Addr.add, if_neg h0]
  refine ⟨e, ?_⟩
  rcases Nat.lt_or_ge a.block w.heap.size with h' | h'
  · exact h'
  · rw [e] at h
    simp [World.cell?, Array.getElem?_eq_none h'] at h

theorem add_add' (a : Addr) (i j : Nat) : (a.add i).add j = a.add (i + j) := by
  obtain ⟨x, y, z⟩ := a
  by_cases hi : i = 0
  · subst hi; simp [Addr.add]
  · by_cases hj : j = 0
    · subst hj; simp [Addr.add]
    · simp only [Addr.add, if_neg hi]
      by_cases hz : z = none <;> simp_all [Addr.add, Nat.add_assoc] <;> omega
theorem keep_ints {n : Nat} {v : Value} {x : DataW H × List MemPlace} (h : DataW.trod enc Tryd.prog w base spare held n 36 [v] = some x) :
    ∃ (a : Option Addr) (cap : Nat) (L : List Int), v = .slice a L.length cap ∧ SrcAt w (.slice a L.length cap) L.length (intCells L) ∧ L.length ≤ maxLen ∧ (L ≠ [] → ∀ b, (Value.slice a L.length cap).ownBlock = some b → b < w.heap.size) := by
  rcases open_ints Tryd.underlying36 Tryd.underlying3 (by kernel_rfl) h with ⟨hcs, _⟩ | ⟨a, len, cap, zs, hcs, _, hl, hm, hz, _, hcell, hwf⟩
  · simp at hcs
    exact ⟨none, 0, [], hcs, .inl ⟨⟨none, 0, rfl⟩, rfl, rfl⟩, by simp, fun h => absurd rfl h⟩
  · simp at hcs
    have hle : len ≤ zs.length := by rw [hz]; split <;> omega
    have hlen : (zs.take len).length = len := by rw [List.length_take, Nat.min_eq_left hle]
    refine ⟨some a, cap, zs.take len, by rw [hlen]; exact hcs, ?_, by omega, fun hne b hb => ?_⟩
    · by_cases h0 : len = 0
      · subst h0
        exact .inl ⟨⟨some a, cap, rfl⟩, rfl, rfl⟩
      · obtain ⟨e0, hb⟩ := add_eq (hcell 0 (by omega))
        have ea : a = ⟨a.block, a.off, none⟩ := by
          have : a.add 0 = a := by unfold Addr.add; simp
          rw [this] at e0
          simpa using e0
        refine .inr ⟨a.block, a.off, cap, ?_, fun i u hu => ?_⟩
        · exact congrArg (fun z => Value.slice (some z) _ _) ea
        · have hi' : i < len := by
            have := (List.getElem?_eq_some_iff.1 hu).1
            simp [intCells] at this; omega
          have hc := hcell i (by omega)
          rw [(add_eq hc).1] at hc
          rw [hc, ← hu]
          simp [intCells, List.getElem?_take_of_lt hi', List.getD, List.getElem?_eq_getElem (show i < zs.length by omega), show i < zs.length by omega, hi']
    · have h0 : 0 < len := by
        rcases Nat.eq_zero_or_pos len with e | e
        · subst e; exact absurd rfl hne
        · exact e
      obtain ⟨e0, hb'⟩ := add_eq (hcell 0 (by omega))
      have : a.block = b := by simpa [Value.ownBlock] using hb
      omega
/-- The cells of an operation, and what they read as. -/
theorem op_struct {n : Nat} {cs : List Value} {x : DataW H × List MemPlace} (h : DataW.trod enc Tryd.prog w base spare held n 38 cs = some x) :
    ∃ A : OpV, cs = A.cells.toList ∧ OpOk w.heap.size w A := by
  obtain ⟨xs, m, _, _, hlen, hxl, hg⟩ := DataW.trod_struct Tryd.underlying38 h
  have c4 : Tryd.prog.cellsOf 38 = 4 := by kernel_rfl
  have ci : Tryd.prog.cellsOf 3 = 1 := by kernel_rfl
  have cs1 : Tryd.prog.cellsOf 9 = 1 := by kernel_rfl
  have cl : Tryd.prog.cellsOf 36 = 1 := by kernel_rfl
  rw [c4] at hlen
  match cs, hlen, xs, hxl with
  | [v0, v1, v2, v3], _, [y0, y1, y2, y3], _ =>
    have h0 : DataW.trod enc Tryd.prog w base spare held m 3 (List.take (Tryd.prog.cellsOf 3) [v0, v1, v2, v3]) = some y0 := hg 0 _ rfl
    rw [ci] at h0
    have h1 : DataW.trod enc Tryd.prog w base spare held m 9 (List.take (Tryd.prog.cellsOf 9) [v1, v2, v3]) = some y1 := hg 1 _ rfl
    rw [cs1] at h1
    have h2 : DataW.trod enc Tryd.prog w base spare held m 3 (List.take (Tryd.prog.cellsOf 3) [v2, v3]) = some y2 := hg 2 _ rfl
    rw [ci] at h2
    have h3 : DataW.trod enc Tryd.prog w base spare held m 36 (List.take (Tryd.prog.cellsOf 36) [v3]) = some y3 := hg 3 _ rfl
    rw [cl] at h3
    obtain ⟨D, e0, _, wd⟩ := DataW.trod_int Tryd.underlying3 h0
    obtain ⟨S, e1, _, ws⟩ := DataW.trod_string Tryd.underlying9 h1
    obtain ⟨N, e2, _, wn⟩ := DataW.trod_int Tryd.underlying3 h2
    have h3' : DataW.trod enc Tryd.prog w base spare held m 36 [v3] = some y3 := h3
    obtain ⟨ka, kc, K, e3, hk, hkl, hlow⟩ := keep_ints h3'
    have e0' : v0 = .int .i64 D := by simpa using e0
    have e1' : v1 = .string S := by simpa using e1
    have e2' : v2 = .int .i64 N := by simpa using e2
    subst e0' e1' e2' e3
    exact ⟨⟨D, S, N, K, ka, kc⟩, rfl, ⟨wf_range wd, wf_range wn, ws, hk, hlow⟩⟩
/-- An argument that is a slice of operations. -/
theorem open_ops {n : Nat} {a : Option Addr} {len cap : Nat} {x : DataW H × List MemPlace} (h : DataW.trod enc Tryd.prog w base spare held n 22 [.slice a len cap] = some x) :
    ∃ l : List OpV, len = l.length ∧ OpsAt w.heap.size w a l := by
  have c4 : Tryd.prog.cellsOf 38 = 4 := by kernel_rfl
  rcases open_slice Tryd.underlying22 h with ⟨hcs, _⟩ | ⟨a', len', cap', m, n', D, Pl, hcs, hb, hl, hm, hmm, hx, hi⟩
  · simp at hcs
    obtain ⟨rfl, rfl, rfl⟩ := hcs
    exact ⟨[], rfl, .inl rfl, by simp, by simp⟩
  · simp at hcs
    obtain ⟨rfl, rfl, rfl⟩ := hcs
    have hle : len ≤ m := by rw [hmm]; split <;> omega
    have each : ∀ i, i < len → ∃ v : OpV, (∀ j, j < 4 → w.cell? ⟨a'.block, a'.off + i * 4 + j, none⟩ = v.cells[j]?) ∧ OpOk w.heap.size w v ∧ a'.block < w.heap.size := fun i hil => by
      obtain ⟨cs', hc, ht⟩ := hi i (by omega)
      rw [c4] at hc
      obtain ⟨v, rfl, hok⟩ := op_struct ht
      obtain ⟨_, _, hat⟩ := World.cells?_some hc
      have hat' : ∀ j, j < 4 → w.cell? (a'.add (i * 4 + j)) = v.cells[j]? := fun j hj => by
        rw [← add_add', hat j hj]; simp
      have h0 : w.cell? (a'.add (i * 4 + 0)) = some (.int .i64 v.d) := hat' 0 (by omega)
      have e0 := add_eq h0
      refine ⟨v, fun j hj => ?_, hok, e0.2⟩
      · have hj2 := hat' j hj
        have hsome : ∃ u, v.cells[j]? = some u := ⟨v.cells[j]'(by simpa [OpV.cells] using hj), by simp⟩
        obtain ⟨u, hu⟩ := hsome
        rw [hu] at hj2 ⊢
        rw [(add_eq hj2).1, ← Nat.add_assoc] at hj2
        exact hj2
    obtain ⟨f, hf⟩ : ∃ f : Nat → OpV, ∀ i, i < len → (∀ j, j < 4 → w.cell? ⟨a'.block, a'.off + i * 4 + j, none⟩ = (f i).cells[j]?) ∧ OpOk w.heap.size w (f i) ∧ a'.block < w.heap.size := by
      have : Inhabited OpV := ⟨⟨0, .empty, 0, [], none, 0⟩⟩
      exact choose_lt' each
    refine ⟨(List.range len).map f, by simp, ?_, fun A hA => ?_, by simp; omega⟩
    · by_cases h0 : len = 0
      · left; simp [h0]
      · right
        have hz := hf 0 (by omega)
        have hsp : a' = ⟨a'.block, a'.off, none⟩ := by
          have h1 := add_eq (a := a') (j := 0 * 4 + 0) (v := .int .i64 (f 0).d) (by
            obtain ⟨cs', hc, ht⟩ := hi 0 (by omega)
            rw [c4] at hc
            obtain ⟨v, rfl, _⟩ := op_struct ht
            obtain ⟨_, _, hat⟩ := World.cells?_some hc
            have h1 := hat 0 (by omega)
            have h2 : w.cell? a' = some (.int .i64 v.d) := by simpa [Addr.add, OpV.cells] using h1
            have h3 := World.cell?_spot h2
            have h4 := hz.1 0 (by omega)
            have h5 : a'.add (0 * 4 + 0) = ⟨a'.block, a'.off + 0 * 4 + 0, none⟩ := by
              obtain ⟨b, o, sp⟩ := a'
              simp only at h3
              subst h3
              simp [Addr.add]
            rw [h5, h4]; rfl)
          have e : a'.add (0 * 4 + 0) = a' := by simp [Addr.add]
          rw [e] at h1
          simpa using h1.1
        refine ⟨a'.block, a'.off, congrArg some hsp, hz.2.2, fun i A hA => ?_⟩
        have hil : i < len := by
          have := (List.getElem?_eq_some_iff.1 hA).1
          simpa using this
        have eA : A = f i := by
          rw [List.getElem?_map, List.getElem?_range hil] at hA
          simpa using hA.symm
        subst eA
        have hj := (hf i hil).1
        exact ⟨hj 0 (by omega), hj 1 (by omega), hj 2 (by omega), hj 3 (by omega)⟩
    · obtain ⟨i, hi', rfl⟩ := List.mem_map.1 hA
      exact (hf i (List.mem_range.1 hi')).2.1
end
end Go.Proofs.YtdejajpmebgidaaDoor
