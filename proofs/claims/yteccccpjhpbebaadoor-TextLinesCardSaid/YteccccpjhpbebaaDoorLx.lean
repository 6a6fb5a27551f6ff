/-
  TextLines: what its walk asks.
-/
import Derived.Test.YteccccpjhpbebaaDoorSo
import Derived.Test.YteccccpjhpbebaaDoorTg
import Derived.Test.YteccccpjhpbebaaDoorLu
namespace Go.Proofs.YteccccpjhpbebaaDoor
open Go.RowKit WireM
set_option linter.unusedVariables false
set_option linter.unusedSimpArgs false

def noLf (l : List UInt8) : Bool := l.all fun c => c.toNat != 10
def noLfTo (T : List ByteArray) (k : Nat) : Bool := (T.take k).all fun t => noLf t.data.toList
theorem noLf_succ (t : ByteArray) (j : Nat) (h : j < t.size) : noLf (t.data.toList.take (j + 1)) = (noLf (t.data.toList.take j) && (t[j].toNat != 10)) := by
  have hl : j < t.data.toList.length := by simpa using h
  have e : t.data.toList[j] = t[j] := by simp; rfl
  unfold noLf
  rw [List.take_succ_eq_append_getElem hl, List.all_append, e]
  simp
theorem noLfTo_succ (T : List ByteArray) (k : Nat) (h : k < T.length) : noLfTo T (k + 1) = (noLfTo T k && noLf (T.getD k .empty).data.toList) := by
  unfold noLfTo
  rw [List.take_succ_eq_append_getElem h, List.all_append]
  simp [List.getD, h]
theorem noLf_all (T : List ByteArray) (h : noLfTo T T.length = true) : ∀ x ∈ T.map (·.data.toList), ∀ c ∈ x, c.toNat ≠ 10 := by
  intro x hx c hc
  obtain ⟨t, ht, rfl⟩ := List.mem_map.1 hx
  unfold noLfTo at h
  rw [List.take_length, List.all_eq_true] at h
  have := h t ht
  unfold noLf at this
  rw [List.all_eq_true] at this
  simpa using this c hc
theorem unl_size (T : List ByteArray) (h : ∀ t ∈ T, t.size ≤ 100) : (unl (T.map (·.data.toList))).length ≤ 101 * T.length := by
  induction T with
  | nil => simp [unl]
  | cons t T ih =>
    have h1 := ih fun x hx => h x (.tail _ hx)
    have h2 := h t (.head _)
    rw [List.map_cons, unl_cons, List.length_append, List.length_cons, List.length_cons]
    have e : t.data.toList.length = t.size := by simp
    omega
theorem sum_mem {l : List Nat} {n : Nat} (h : n ∈ l) : n ≤ l.sum := by
  induction l with
  | nil => cases h
  | cons a l ih =>
    rw [List.sum_cons]
    cases h with
    | head => omega
    | tail _ h => have := ih h; omega
theorem want_len (l : List UInt8) : (wantOf l).length ≤ l.length + 1 := by
  unfold wantOf; split <;> simp
theorem lines_each (l x : List UInt8) (h : x ∈ linesOf l) : x.length ≤ l.length + 1 := by
  have h1 := lines_sum (linesOf l)
  rw [unl_lines] at h1
  have h2 := sum_mem (List.mem_map.2 ⟨x, h, rfl⟩ : x.length ∈ (linesOf l).map List.length)
  have h3 := want_len l
  omega
def fldTo (L : List (List UInt8)) (k : Nat) : List (List UInt8) := (L.take k).flatMap fieldsOf
theorem fldTo_succ (L : List (List UInt8)) (k : Nat) (h : k < L.length) : fldTo L (k + 1) = fldTo L k ++ fieldsOf (L.getD k []) := by
  unfold fldTo
  rw [List.take_succ_eq_append_getElem h, List.flatMap_append]
  simp [List.getD, h]
theorem fldTo_len (L : List (List UInt8)) (k : Nat) : (fldTo L k).length ≤ (L.flatMap fieldsOf).length := by
  unfold fldTo
  conv => rhs; rw [← List.take_append_drop k L, List.flatMap_append, List.length_append]
  omega
theorem fldTo_all (l : List UInt8) : fldTo (linesOf l) (linesOf l).length = fieldsOf l := by
  unfold fldTo; rw [List.take_length, fields_lines]
theorem fields_each (l x : List UInt8) (h : x ∈ fieldsOf l) : x.length ≤ l.length := by
  have := (fieldsGo_len l []).2 x h
  simpa using this
theorem cells_bs (T : List ByteArray) : cellsS (T.map (·.data.toList)) = T.map Value.string := by
  unfold cellsS; rw [List.map_map]; rfl
theorem unlines_rows (a : Option Addr) (cap : Nat) (L : List (List UInt8)) (w : World) (hr : (unl L).length ≤ 1000000000) (hc : CellsAt w a (cellsS L)) :
    Calls Tryd.prog 14 #[.slice a L.length cap] w fun e w' => e = .returned (.string (bs (unl L))) ∧ Below w.heap.size w w' := by
  have e1 : (L.map bs).map (·.data.toList) = L := by
    rw [List.map_map]; conv => rhs; rw [← List.map_id L]
    exact List.map_congr_left fun x _ => bs_data x
  have h := unlines_any a cap (L.map bs) w (by rw [e1]; exact hr) (by rw [List.map_map]; exact hc)
  rw [e1, List.length_map] at h
  exact h
theorem same_self (a1 a2 : Option Addr) (c1 c2 n1 n2 : Nat) (A : List (List UInt8)) (w : World) (hA : CellsAt w a1 (cellsS A)) (hB : CellsAt w a2 (cellsS A)) (hz : A.length ≤ 1000000000) (e1 : n1 = A.length) (e2 : n2 = A.length) :
    Calls Tryd.prog 12 #[.slice a1 n1 c1, .slice a2 n2 c2] w fun e w' => e = .returned (.bool true) ∧ Below w.heap.size w w' := by
  subst e1; subst e2
  refine (same_any a1 a2 c1 c2 A A w hA hB hz hz).mono ?_
  rintro e w' ⟨rfl, n, rfl⟩
  exact ⟨by simp, Go.below_drewN (Below.refl _ _) n⟩
theorem row_cells {w wr w2 : World} {L : List (List UInt8)} {a : Option Addr} {n cap : Nat} (h : RowAt w L (.slice a n cap) wr) (hk : StrKept wr w2) : n = L.length ∧ CellsAt w2 a (cellsS L) := by
  have hr := hk.row h.1
  obtain ⟨a', cap', e, hc⟩ := own_cells hr (cellsS_len L).symm
  injection e with e1 e2 e3
  subst e1
  exact ⟨e2, hc⟩
theorem t_cell {w : World} {a : Option Addr} {T : List ByteArray} {k : Nat} (hc : CellsAt w a (T.map Value.string)) (hlt : k < T.length) : ∃ b o, a = some ⟨b, o, none⟩ ∧ w.cell? ⟨b, o + k, none⟩ = some (.string (T.getD k .empty)) := by
  rcases hc with hc | ⟨b, o, ha, _, hc⟩
  · simp at hc; subst hc; simp at hlt
  · refine ⟨b, o, ha, ?_⟩
    rw [hc k (by simpa using hlt)]
    simp [List.getD, hlt]
theorem want_empty : wantOf [] = [] := rfl
theorem want_cat (s : ByteArray) (h : 0 < s.size) (h2 : s[s.size - 1].toNat ≠ 10) : wantOf s.data.toList = s.data.toList ++ [10] := by
  have hl : s.data.toList.length = s.size := by simp
  unfold wantOf
  rw [if_neg]
  rintro (h' | h')
  · rw [h'] at hl; simp at hl; omega
  · rw [List.getLast?_eq_getElem?, hl, List.getElem?_eq_getElem (by omega)] at h'
    have e : s.data.toList[s.size - 1]'(by omega) = s[s.size - 1] := by simp; rfl
    rw [e] at h'
    exact h2 (by rw [Option.some.inj h']; rfl)
theorem want_keep (s : ByteArray) (h : 0 < s.size) (h2 : s[s.size - 1].toNat = 10) : wantOf s.data.toList = s.data.toList := by
  have hl : s.data.toList.length = s.size := by simp
  unfold wantOf
  rw [if_pos]
  right
  rw [List.getLast?_eq_getElem?, hl, List.getElem?_eq_getElem (by omega)]
  have e : s.data.toList[s.size - 1]'(by omega) = s[s.size - 1] := by simp; rfl
  rw [e]
  congr 1
  exact UInt8.toNat_inj.1 h2
end Go.Proofs.YteccccpjhpbebaaDoor
