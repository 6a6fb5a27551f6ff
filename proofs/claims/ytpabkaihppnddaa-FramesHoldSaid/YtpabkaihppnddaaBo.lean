/-
  ARGUMENTS OPENED TO THEIR CELLS: rows of structs, []int, []string (no name of the program but int's and string's types).
-/
import Derived.Test.YtpabkaihppnddaaBa
import Derived.ProofKit
import Derived.OpenShut
import Derived.Deep.Slices
import Derived.SliceStrings
namespace Go.Proofs.Ytpabkaihppnddaa
open Go.ChangeShapes Go.WideShapes Go.RowKit Go.Deep
set_option linter.unusedVariables false
set_option linter.unusedSimpArgs false
set_option maxRecDepth 100000

/-- A slice of elements of k cells each, that lies in a block below B. -/
structure RowsAt {α : Type} (cells : α → Array Value) (ok : α → Prop) (k B : Nat) (w : World) (a : Option Addr) (l : List α) : Prop where
  cells : l = [] ∨ ∃ b o, a = some ⟨b, o, none⟩ ∧ b < B ∧ ∀ i A, l[i]? = some A → ∀ j u, (cells A)[j]? = some u → w.cell? ⟨b, o + i * k + j, none⟩ = some u
  ok : ∀ A ∈ l, ok A
  len : l.length ≤ maxLen
section
variable {H : Type} {enc : TypeId × Value → H} {w : World} {base : Nat} {spare : Nat → Bool} {held : Bool}
theorem choose_lt' {α : Type} [Inhabited α] {P : Nat → α → Prop} {n : Nat} (h : ∀ i, i < n → ∃ x, P i x) : ∃ f : Nat → α, ∀ i, i < n → P i (f i) := by
  refine ⟨fun i => if hi : i < n then Classical.choose (h i hi) else default, fun i hi => ?_⟩
  simp only [dif_pos hi]
  exact Classical.choose_spec (h i hi)
theorem wf_range {z : Int} (h : (Lit.int .i64 z).wf = true) : InI z := by
  simp only [Lit.wf, IntKind.min, IntKind.max, IntKind.signed, IntKind.bits, Bool.and_eq_true, decide_eq_true_eq, if_true] at h
  unfold InI; omega
theorem add_eq {a : Addr} {j : Nat} {v : Value} (h : w.cell? (a.add j) = some v) : a.add j = ⟨a.block, a.off + j, none⟩ ∧ a.block < w.heap.size := by
  have hs := World.cell?_spot h
  have hb : (a.add j).block = a.block := by unfold Addr.add; split <;> rfl
  have e : a.add j = ⟨a.block, a.off + j, none⟩ := by
    obtain ⟨x, y, z⟩ := a
    by_cases h0 : j = 0
    · subst h0
      simp only [Addr.add, if_true] at hs ⊢
      subst hs
      rfl
    · simp only [Addr.add, if_neg h0]
  refine ⟨e, ?_⟩
  rcases Nat.lt_or_ge a.block w.heap.size with h' | h'
  · exact h'
  · rw [e] at h
    simp [World.cell?, Array.getElem?_eq_none h'] at h
theorem add_add' (a : Addr) (i j : Nat) : (a.add i).add j = a.add (i + j) := by
  obtain ⟨x, y, z⟩ := a
  by_cases hi : i = 0
  · subst hi; simp [Addr.add]
  · by_cases hj : j = 0
    · subst hj; simp [Addr.add]
    · simp only [Addr.add, if_neg hi]
      by_cases hz : z = none <;> simp_all [Addr.add, Nat.add_assoc] <;> omega
/-- An argument that is a slice of structs: what one element's cells read as is given. -/
theorem open_rows {Ts Te : TypeId} (hu : Try.prog.underlying Ts = some (.slice Te)) {α : Type} [Inhabited α] (cells : α → Array Value) (ok : α → Prop) (k : Nat) (hk0 : 0 < k) (hk : Try.prog.cellsOf Te = k) (hsz : ∀ A, (cells A).size = k)
    (hs : ∀ n cs x, DataW.trod enc Try.prog w base spare held n Te cs = some x → ∃ A, cs = (cells A).toList ∧ ok A)
    {n : Nat} {a : Option Addr} {len cap : Nat} {x : DataW H × List MemPlace} (h : DataW.trod enc Try.prog w base spare held n Ts [.slice a len cap] = some x) :
    ∃ l : List α, len = l.length ∧ RowsAt cells ok k w.heap.size w a l := by
  rcases open_slice hu h with ⟨hcs, _⟩ | ⟨a', len', cap', m, n', D, Pl, hcs, hb, hl, hm, hmm, hx, hi⟩
  · simp at hcs
    obtain ⟨rfl, rfl, rfl⟩ := hcs
    exact ⟨[], rfl, .inl rfl, by simp, by simp⟩
  · simp at hcs
    obtain ⟨rfl, rfl, rfl⟩ := hcs
    have hle : len ≤ m := by rw [hmm]; split <;> omega
    have each : ∀ i, i < len → ∃ v : α, (∀ j, j < k → w.cell? (a'.add (i * k + j)) = (cells v)[j]?) ∧ ok v := fun i hil => by
      obtain ⟨cs', hc, ht⟩ := hi i (by omega)
      rw [hk] at hc
      obtain ⟨v, rfl, hok⟩ := hs _ _ _ ht
      obtain ⟨_, _, hat⟩ := World.cells?_some hc
      exact ⟨v, fun j hj => by rw [← add_add', hat j hj]; simp, hok⟩
    obtain ⟨f, hf⟩ := choose_lt' each
    have some_of : ∀ v : α, ∀ j, j < k → ∃ u, (cells v)[j]? = some u := fun v j hj => ⟨(cells v)[j]'(by rw [hsz]; exact hj), by simp⟩
    refine ⟨(List.range len).map f, by simp, ?_, fun A hA => ?_, by simp; omega⟩
    · by_cases h0 : len = 0
      · left; simp [h0]
      · right
        obtain ⟨u0, hu0⟩ := some_of (f 0) 0 hk0
        have hz := (hf 0 (by omega)).1 0 hk0
        rw [hu0] at hz
        have e : a'.add (0 * k + 0) = a' := by simp [Addr.add]
        have h1 := add_eq hz
        rw [e] at h1
        refine ⟨a'.block, a'.off, ?_, h1.2, fun i A hA j u hj => ?_⟩
        · have := h1.1
          simp only [Nat.zero_mul, Nat.add_zero] at this
          exact congrArg some this
        · have hil : i < len := by
            have := (List.getElem?_eq_some_iff.1 hA).1
            simpa using this
          have eA : A = f i := by
            rw [List.getElem?_map, List.getElem?_range hil] at hA
            simpa using hA.symm
          subst eA
          have hjk : j < k := by rw [← hsz (f i)]; exact (Array.getElem?_eq_some_iff.1 hj).1
          have h2 := (hf i hil).1 j hjk
          rw [hj] at h2
          have h3 := (add_eq h2).1
          rw [h3] at h2
          rw [Nat.add_assoc]; exact h2
    · obtain ⟨i, hi', rfl⟩ := List.mem_map.1 hA
      exact (hf i (List.mem_range.1 hi')).2
def intCells1 (n : Int) : Array Value := #[.int .i64 n]
def strCells1 (s : ByteArray) : Array Value := #[.string s]
theorem int_one {n : Nat} {cs : List Value} {x : DataW H × List MemPlace} (h : DataW.trod enc Try.prog w base spare held n 3 cs = some x) : ∃ D : Int, cs = (intCells1 D).toList ∧ InI D := by
  obtain ⟨D, e0, _, wd⟩ := DataW.trod_int Try.underlying3 h
  exact ⟨D, e0, wf_range wd⟩
theorem str_one {n : Nat} {cs : List Value} {x : DataW H × List MemPlace} (h : DataW.trod enc Try.prog w base spare held n 9 cs = some x) : ∃ D : ByteArray, cs = (strCells1 D).toList ∧ D.size ≤ maxLen := by
  obtain ⟨D, e0, _, wd⟩ := DataW.trod_string Try.underlying9 h
  exact ⟨D, e0, wd⟩
theorem open_intRow {n : Nat} {a : Option Addr} {len cap : Nat} {x : DataW H × List MemPlace} (h : DataW.trod enc Try.prog w base spare held n 49 [.slice a len cap] = some x) :
    ∃ l : List Int, len = l.length ∧ RowsAt intCells1 InI 1 w.heap.size w a l := open_rows Try.underlying49 intCells1 InI 1 (by decide) (by kernel_rfl) (fun _ => rfl) (fun _ _ _ h => int_one h) h
theorem open_strRow {n : Nat} {a : Option Addr} {len cap : Nat} {x : DataW H × List MemPlace} (h : DataW.trod enc Try.prog w base spare held n 39 [.slice a len cap] = some x) :
    ∃ l : List ByteArray, len = l.length ∧ RowsAt strCells1 (fun s => s.size ≤ maxLen) 1 w.heap.size w a l := open_rows Try.underlying39 strCells1 _ 1 (by decide) (by kernel_rfl) (fun _ => rfl) (fun _ _ _ h => str_one h) h
end
/-- One element of an argument, in a later world of which what was there below B is as it was. -/
theorem RowsAt.one {α : Type} {cells : α → Array Value} {ok : α → Prop} {k B : Nat} {w w' : World} {a : Option Addr} {l : List α} (h : RowsAt cells ok k B w a l) (hb : Below B w w') {i : Nat} {A : α} (hA : l[i]? = some A) :
    ∃ b o, a = some ⟨b, o, none⟩ ∧ b < B ∧ ∀ j u, (cells A)[j]? = some u → w'.cell? ⟨b, o + i * k + j, none⟩ = some u := by
  rcases h.cells with h0 | ⟨b, o, ha, hlt, hc⟩
  · rw [h0] at hA; simp at hA
  · exact ⟨b, o, ha, hlt, fun j u hj => (hb.cell (p := ⟨b, o + i * k + j, none⟩) hlt).trans (hc i A hA j u hj)⟩
end Go.Proofs.Ytpabkaihppnddaa
