/-
  PACKAGE text: Lines.
-/
import Derived.Test.YteccccpjhpbebaaGreatDoorTm
import Derived.Lib.SplitLaws
namespace Go.Proofs.YteccccpjhpbebaaGreatDoor
open Go.RowKit WireM
set_option linter.unusedVariables false
set_option linter.unusedSimpArgs false

def lf : ByteArray := ⟨#[10]⟩
theorem lf_list : lf.data.toList = [10] := rfl
theorem count_pieces : ∀ (n : Nat) (s : ByteArray), s.size ≤ n → Lib.countB s lf + 1 = (pieces s.data.toList).length := by
  intro n
  induction n with
  | zero =>
    intro s h
    have h0 : s.data.toList = [] := List.eq_nil_of_length_eq_zero (by simpa using h)
    have : Lib.countB s lf = 0 := Lib.countB_miss s lf (by
      show Lib.index s.data.toList lf.data.toList = -1
      rw [h0, lf_list]; rfl)
    rw [this, h0]; rfl
  | succ n ih =>
    intro s h
    rcases lf_cases s.data.toList with h1 | ⟨a, b, e, h1, h2⟩
    · have : Lib.countB s lf = 0 := Lib.countB_miss s lf (by
        show Lib.index s.data.toList lf.data.toList = -1
        rw [lf_list]; exact index_lf h1)
      rw [this, pieces_none h1]; rfl
    · have hi : Lib.indexB s lf = (a.length : Nat) := by
        show Lib.index s.data.toList lf.data.toList = _
        rw [lf_list, e]; exact index_lf_at h1
      have hx : s.extract (a.length + lf.size) s.size = bs b := by
        rw [extract_end, e]
        show bs ((a ++ 10 :: b).drop (a.length + 1)) = bs b
        simp
      have hb : (bs b).size ≤ n := by
        rw [bs_size]
        have e2 := congrArg List.length e
        simp at e2
        omega
      rw [Lib.countB_hit s lf a.length (by decide) hi, hx, e, pieces_cat h1, List.length_cons]
      have := ih (bs b) hb
      rw [bs_data] at this
      omega
theorem split_pieces (s : ByteArray) : (Lib.splitB lf 0 (Lib.countB s lf) s).map Value.string = cellsS (pieces s.data.toList) := by
  have h1 := Lib.splitB_data lf 0 (Lib.countB s lf) s
  rw [lf_list, splitK_pieces _ _ (by rw [count_pieces _ s (Nat.le_refl _)]; exact Nat.le_refl _)] at h1
  unfold cellsS
  rw [← h1, List.map_map]
  apply List.map_congr_left
  intro x _
  rfl
theorem split_any' (s : ByteArray) (hs : s.size ≤ 1000000000) (w : World) (ht : Glob w) :
    Calls Tryz.prog 32 #[.string s, .string lf] w fun e w' => ∃ n, e = .returned (.slice (some ⟨w.heap.size, 0, none⟩) (n + 1) (n + 1)) ∧ n + 1 = (pieces s.data.toList).length ∧ RowAt w (pieces s.data.toList) (.slice (some ⟨w.heap.size, 0, none⟩) (n + 1) (n + 1)) w' := by
  obtain ⟨m, hm⟩ := ht.max
  refine (Tryz.strings_Split s lf m w (by omega) hm (by decide)).mono ?_
  rintro e w' ⟨rfl, rfl⟩
  have hc := count_pieces _ s (Nat.le_refl _)
  have hl := pieces_len s.data.toList
  have es : s.data.toList.length = s.size := by simp
  refine ⟨_, rfl, hc, ?_, (Below.refl _ w).alloc (Nat.le_refl _) _⟩
  rw [split_pieces, ← hc]
  have := World.ownsRow_lit (base := w.heap.size) (e := 9) (size := 1) w (cellsS (pieces s.data.toList)).toArray (Lib.countB s lf + 1) (Nat.le_refl _) (by unfold maxLen; omega) (by simp [cellsS_len]; omega)
  simpa using this
theorem row_last {w wr : World} {L : List (List UInt8)} {g n c : Nat} (h : RowAt w L (.slice (some ⟨g, 0, none⟩) (n + 1) c) wr) (hn : n + 1 = L.length) : RowAt w L.dropLast (.slice (some ⟨g, 0, none⟩) n c) wr := by
  obtain ⟨h1, h2⟩ := h
  refine ⟨⟨?_, ?_⟩, h2⟩
  · rw [cellsS_len]; simp
  · rcases h1.2 with ⟨a, b⟩ | ⟨g', cap, cur, a, b, hg, x1, x2, x3, x4⟩
    · simp at a
    · simp only [Value.slice.injEq, Option.some.injEq, Addr.mk.injEq, and_true, true_and] at a
      obtain ⟨rfl, _, rfl⟩ := a
      refine .inr ⟨g, c, cur, ?_, b, hg, ?_, x2, x3, ?_⟩
      · simp; omega
      · simp; omega
      · have e : L.dropLast.length * 1 = n := by simp; omega
        have e2 : L.length * 1 = n + 1 := by omega
        rw [e2] at x4
        rw [e]
        have : cellsS L.dropLast = (cellsS L).take n := by
          unfold cellsS
          rw [List.dropLast_eq_take, List.map_take]
          congr 1; omega
        rw [this, ← x4, List.take_take]; congr 1; omega
set_option maxHeartbeats 1000000 in
set_option maxRecDepth 100000 in
theorem lines_any (s : ByteArray) (hs : s.size ≤ 1000000000) (w : World) (ht : Glob w) :
    Calls Tryz.prog 14 #[.string s] w fun e w' => ∃ v, e = .returned v ∧ RowAt w (linesOf s.data.toList) v w' := by
  have hl := pieces_len s.data.toList
  have es : s.data.toList.length = s.size := by simp
  rw [es] at hl
  clear es
  go_enter Tryz.func14, Tryz.ntmps14
  go_wp2_with fail
  go_at_call 32
  refine (split_any' s hs _ ht).mono ?_
  rintro e w1 ⟨n, rfl, hn, hrow⟩
  obtain ⟨-, b, o, hb, hcell⟩ := row_cell (k := n) hrow (StrKept.refl _) (by omega)
  injection hb with hb
  injection hb with hb1 hb2 _
  subst hb1; subst hb2
  rw [Nat.zero_add] at hcell
  have hlast : (pieces s.data.toList).getD n [] = (pieces s.data.toList).getLast (pieces_ne _) := by
    rw [List.getLast_eq_getElem]
    simp [List.getD, show n < (pieces s.data.toList).length by omega]
    congr 1; omega
  rw [hlast] at hcell
  have HD := Lib.hid (show (pieces s.data.toList).getLast (pieces_ne _) = [] → linesOf s.data.toList = (pieces s.data.toList).dropLast from fun h => by unfold linesOf; rw [if_pos h])
  have HE := Lib.hid (show (pieces s.data.toList).getLast (pieces_ne _) ≠ [] → linesOf s.data.toList = pieces s.data.toList from fun h => by unfold linesOf; rw [if_neg h])
  have HN := Lib.hid hn
  generalize (pieces s.data.toList).getLast (pieces_ne _) = q at *
  have h63 : (n : Int) ≤ 2000000000 := by omega
  clear hlast hn hl
  have hn2 : (n : Int) < n + 1 := by omega
  by_cases hq : q = []
  · have f : ((bs q).toList == []) = true := by rw [isStar_eq, bs_data]; simp [hq]
    have HR := Lib.hid (HD.out hq)
    clear hq
    go_wp2_with fail
    go_ret
    exact ⟨_, rfl, by rw [HR.out]; exact row_last hrow HN.out⟩
  · have f : ((bs q).toList == []) = false := by rw [isStar_eq, bs_data]; simp [hq]
    have HR := Lib.hid (HE.out hq)
    clear hq
    go_wp2_with fail
    go_ret
    exact ⟨_, rfl, by rw [HR.out]; exact hrow⟩
end Go.Proofs.YteccccpjhpbebaaGreatDoor
