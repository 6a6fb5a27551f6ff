/-
  PACKAGE frames: Alloc, New.
-/
import Derived.Test.YtpabkaihppnddaaCc
namespace Go.Proofs.Ytpabkaihppnddaa
open Go.RowKit
set_option linter.unusedVariables false
set_option linter.unusedSimpArgs false
set_option maxRecDepth 100000
section
variable {w0 w : World} {S : Nat → Prop} {l : List Kd}
theorem infoPage : (Try.prog.info? 64).map (·.size) = some 64 := by kernel_rfl
theorem zcells_size : zcells.size = 64 := by rfl
theorem zcells_all : zcells.all (·.oneCell') = true := by decide +kernel
/-- A frame's bit and its page are written. -/
theorem Tog.newPage (h : Tog w0 S w l) {i p : Nat} {L : Fm} (hi : l[i]? = some (kFr p L)) {m : Nat} (hm : m < L.length) {V : List UInt8} (hV : V.length = 64) : ∃ g g' c c', w.cell? ⟨p, 0, none⟩ = some (.slice (some ⟨g, 0, none⟩) L.length c) ∧ w.cell? ⟨p, 1, none⟩ = some (.slice (some ⟨g', 0, none⟩) L.length c') ∧
    (∃ v, w.cell? ⟨g', m, none⟩ = some v) ∧ w.frozen? ⟨g', m, none⟩ = false ∧ (w.setCell ⟨g', m, none⟩ (.bool true)).cell? ⟨p, 0, none⟩ = some (.slice (some ⟨g, 0, none⟩) L.length c) ∧ (w.setCell ⟨g', m, none⟩ (.bool true)).there g (m * 64) 64 ∧
    Tog w0 S ((w.setCell ⟨g', m, none⟩ (.bool true)).setCells g (m * 64) (byteCells V)) (l.set i (kFr p (L.set m (some V)))) := by
  have okL := h.okFr hi
  obtain ⟨M, h2, CL⟩ := h.inner hi
  obtain ⟨ok, B, ⟨a, c⟩, ⟨a', c'⟩, hB, h2⟩ := h2.openFr
  obtain ⟨g, c2, e, _⟩ := row_pos (h2.rowAt (j := 1) rfl) (by omega)
  obtain ⟨g', c3, e', _⟩ := row_pos (h2.rowAt (j := 2) rfl) (by omega)
  obtain ⟨rfl, rfl⟩ : a = some ⟨g, 0, none⟩ ∧ c = c2 := by simpa [Sl.val] using e
  obtain ⟨rfl, rfl⟩ : a' = some ⟨g', 0, none⟩ ∧ c' = c3 := by simpa [Sl.val] using e'
  have hlB := hB.len
  obtain ⟨o, ho⟩ : ∃ o, L[m]? = some o := ⟨_, List.getElem?_eq_getElem hm⟩
  have h3 := h2.setOne (i := 2) rfl m (.bool (some V : Option (List UInt8)).isSome)
  rw [boolCells_set] at h3
  have h4 := h3.setRow (i := 1) rfl (o := m * 64) (vs := byteCells V) (by rw [byteCells_len, byteCells_len]; omega)
  refine ⟨g, g', c, c', h2.cellAt (j := 0) rfl 0 rfl, h2.cellAt (j := 0) rfl 1 rfl, ⟨_, h2.rowCell (i := 2) rfl (boolCells_at ho)⟩, h2.rowFz (i := 2) rfl m, h3.cellAt (j := 0) rfl 0 rfl, h3.thereRow (i := 1) rfl (by rw [byteCells_len]; omega), ?_⟩
  rw [byteCells_len, hV, byteCells_take, byteCells_drop, ← byteCells_app, ← byteCells_app] at h4
  have := CL _ _ [] (Tog.shutFr (x := (some ⟨g, 0, none⟩, c)) (y := (some ⟨g', 0, none⟩, c')) (B := B.take (m * 64) ++ V ++ B.drop (m * 64 + 64)) (L := L.set m (some V)) (n := L.length) h4 (by simp) (okL.set m (fun q e => by cases e; exact hV)) (hB.page hm hV))
  rwa [List.append_nil] at this
set_option maxHeartbeats 1000000 in
theorem Tog.xalloc (h : Tog w0 S w l) {i p : Nat} {L : Fm} (hi : l[i]? = some (kFr p L)) : Calls Try.prog 25 #[.pointer (some ⟨p, 0, none⟩)] w fun e w' => e = .returned (.tuple #[.int .i64 L.alloc.2.1, .bool L.alloc.2.2]) ∧ Tog w0 S w' (l.set i (kFr p L.alloc.1)) := by
  have hle := (h.okFr hi).len
  by_cases hm : L.hole < L.length
  · have E : L.alloc = (L.set L.hole (some zpage), (L.hole : Int), true) := by unfold Fm.alloc; rw [if_pos hm]
    rw [E]
    obtain ⟨g, g', c, c', c0, c1, ⟨v, cb⟩, fb, c0', th, FN⟩ := h.newPage hi hm (V := zpage) rfl
    have IX := h.xindex hi c1
    rw [if_pos hm] at IX
    have IX := Lib.hid IX
    have FIN := Lib.hid FN
    generalize L.hole = m at *
    have g0 : (0 : Int) ≤ (m : Int) := by omega
    have g1 : (m : Int) < (L.length : Int) := by omega
    have TH := Lib.hid (show (w.setCell ⟨g', m, none⟩ (.bool true)).there g (m * 64) zcells.size by rw [zcells_size]; exact th)
    clear h hi E hm th FN
    go_enter Try.func25, Try.ntmps25
    go_wp2_with (first
      | (go_at_call 35; refine IX.out.mono ?_; rintro e w' ⟨rfl, rfl⟩)
      | (refine wpList_store_mid rfl 64 _ _ rfl g (m * 64) zcells rfl rfl TH.out infoPage zcells_all ?_; rw [zcells_eq]))
    go_ret2
    exact ⟨rfl, FIN.out⟩
  · have E : L.alloc = (L, 0, false) := by unfold Fm.alloc; rw [if_neg hm]
    rw [E]
    obtain ⟨B, a, c, a', c', _, c0, c1, _⟩ := h.frAt hi
    have IX := h.xindex hi c1
    rw [if_neg hm] at IX
    have IX := Lib.hid IX
    have FIN := Lib.hid (show Tog w0 S w (l.set i (kFr p L)) by rw [Tog.sameAt hi]; exact h)
    clear h hi E hm
    go_enter Try.func25, Try.ntmps25
    go_wp2_with (go_at_call 35; refine IX.out.mono ?_; rintro e w' ⟨rfl, rfl⟩)
    go_ret2
    exact ⟨rfl, FIN.out⟩
end
end Go.Proofs.Ytpabkaihppnddaa
