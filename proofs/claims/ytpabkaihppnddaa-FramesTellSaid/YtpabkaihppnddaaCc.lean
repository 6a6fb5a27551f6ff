/-
  PACKAGE frames: Free, Set, Alloc, New.
-/
import Derived.Test.YtpabkaihppnddaaCb
namespace Go.Proofs.Ytpabkaihppnddaa
open Go.RowKit
set_option linter.unusedVariables false
set_option linter.unusedSimpArgs false
set_option maxRecDepth 100000
section
variable {w0 w : World} {S : Nat → Prop} {l : List Kd}
theorem Tog.sameAt {k : Kd} {i : Nat} (hi : l[i]? = some k) : l.set i k = l := by
  have il : i < l.length := (List.getElem?_eq_some_iff.1 hi).1
  have e : l[i] = k := (List.getElem?_eq_some_iff.1 hi).2
  rw [← e]; exact List.set_getElem_self il
/-- A bit of a memory is written: a frame is freed, or (its page to be written next) allocated. -/
theorem Tog.xfree (h : Tog w0 S w l) {i p : Nat} {L : Fm} (hi : l[i]? = some (kFr p L)) (f : Int) (hf : InI f) : Calls Try.prog 27 #[.pointer (some ⟨p, 0, none⟩), .int .i64 f] w fun e w' => e = .returned (.int .i64 (L.free f).2) ∧ Tog w0 S w' (l.set i (kFr p (L.free f).1)) := by
  have HAS := Lib.hid (h.xhas hi f hf)
  by_cases g : L.has f = true
  · obtain ⟨q, hp⟩ : ∃ q, L.pg f = some q := Option.isSome_iff_exists.1 g
    obtain ⟨m, rfl, hm, hq⟩ := Fm.pg_some hp
    have E : L.free (m : Int) = (L.set m none, 0) := by unfold Fm.free; rw [if_pos g, Int.toNat_natCast]
    have ok2 := (h.okFr hi).free (m : Int)
    have hle := (h.okFr hi).len
    rw [E] at ok2 ⊢
    obtain ⟨M, h1, CL⟩ := h.inner hi
    obtain ⟨ok, B, ⟨a, c⟩, ⟨a', c'⟩, hB, h2⟩ := h1.openFr
    obtain ⟨g', c3, e', _⟩ := row_pos (h2.rowAt (j := 2) rfl) (by omega)
    obtain ⟨rfl, rfl⟩ : a' = some ⟨g', 0, none⟩ ∧ c' = c3 := by simpa [Sl.val] using e'
    have c1 := h2.cellAt (j := 0) rfl 1 rfl
    have cb := h2.rowCell (i := 2) rfl (boolCells_at hq)
    have fb := h2.rowFz (i := 2) rfl m
    have h3 := h2.setOne (i := 2) rfl m (.bool (none : Option (List UInt8)).isSome)
    rw [boolCells_set] at h3
    have FIN := Lib.hid (show Tog w0 S (w.setCell ⟨g', m, none⟩ (.bool false)) (l.set i (kFr p (L.set m none))) from by
      have := CL _ _ [] (Tog.shutFr (x := (a, c)) (y := (some ⟨g', 0, none⟩, c')) (B := B) h3 (by simp) ok2 (hB.free m))
      rwa [List.append_nil] at this)
    have g0 : (0 : Int) ≤ (m : Int) := by omega
    have g1 : (m : Int) < (L.length : Int) := by omega
    rw [g] at HAS
    simp only [Sl.val] at c1
    clear h hi CL h1 h2 h3 hp hq E g ok ok2 hB
    go_enter Try.func27, Try.ntmps27
    go_wp2_with (go_at_call 15; refine HAS.out.mono ?_; rintro e w' ⟨rfl, rfl⟩)
    go_ret
    exact ⟨rfl, FIN.out⟩
  · have E : L.free f = (L, 4) := by unfold Fm.free; rw [if_neg g]
    have FIN := Lib.hid (show Tog w0 S w (l.set i (kFr p L)) by rw [Tog.sameAt hi]; exact h)
    rw [E]
    rw [Bool.not_eq_true] at g
    rw [g] at HAS
    clear h hi E g
    go_enter Try.func27, Try.ntmps27
    go_wp2_with (go_at_call 15; refine HAS.out.mono ?_; rintro e w' ⟨rfl, rfl⟩)
    go_ret
    exact ⟨rfl, FIN.out⟩
theorem Tog.xset (h : Tog w0 S w l) {i p : Nat} {L : Fm} (hi : l[i]? = some (kFr p L)) (f at' : Int) (b : UInt8) (hf : InI f) : Calls Try.prog 29 #[.pointer (some ⟨p, 0, none⟩), .int .i64 f, .int .i64 at', .int .u8 (b.toNat : Int)] w fun e w' => e = .returned (.int .i64 (L.put f at' b).2) ∧ Tog w0 S w' (l.set i (kFr p (L.put f at' b).1)) := by
  have HAS := Lib.hid (h.xhas hi f hf)
  have INP := Lib.hid (inPage_any at' w)
  cases hp : L.pg f with
  | none =>
    have E : L.put f at' b = (L, 4) := by unfold Fm.put; rw [hp]
    have FIN := Lib.hid (show Tog w0 S w (l.set i (kFr p L)) by rw [Tog.sameAt hi]; exact h)
    have e1 : L.has f = false := by unfold Fm.has; rw [hp]; rfl
    rw [E]
    rw [e1] at HAS
    clear h hi E e1 hp INP
    go_enter Try.func29, Try.ntmps29
    go_wp2_with (go_at_call 15; refine HAS.out.mono ?_; rintro e w' ⟨rfl, rfl⟩)
    go_ret
    exact ⟨rfl, FIN.out⟩
  | some q =>
    have e1 : L.has f = true := by unfold Fm.has; rw [hp]; rfl
    rw [e1] at HAS
    obtain ⟨m, rfl, hm, hq⟩ := Fm.pg_some hp
    cases hin : Fm.inP at' with
    | false =>
      rw [hin] at INP
      have E : L.put (m : Int) at' b = (L, 3) := by unfold Fm.put; rw [hp]; exact if_neg (fun e => by rw [Fm.inP_iff.2 e] at hin; cases hin)
      have FIN := Lib.hid (show Tog w0 S w (l.set i (kFr p L)) by rw [Tog.sameAt hi]; exact h)
      rw [E]
      clear h hi E e1 hp hq
      go_enter Try.func29, Try.ntmps29
      go_wp2_with (first
        | (go_at_call 15; refine HAS.out.mono ?_; rintro e w' ⟨rfl, rfl⟩)
        | (go_at_call 34; refine INP.out.mono ?_; rintro e w' ⟨rfl, rfl⟩))
      go_ret
      exact ⟨rfl, FIN.out⟩
    | true =>
      rw [hin] at INP
      obtain ⟨h0, h1⟩ := Fm.inP_iff.1 hin
      obtain ⟨k, rfl⟩ : ∃ k : Nat, at' = k := ⟨at'.toNat, by omega⟩
      have E : L.put (m : Int) (k : Int) b = (L.set m (some (q.set k b)), 0) := by unfold Fm.put; rw [hp]; simp only [Int.toNat_natCast]; rw [if_pos ⟨h0, h1⟩]
      have ok2 := (h.okFr hi).put (m : Int) (k : Int) b
      have hql := (h.okFr hi).sz m q hq
      have hle := (h.okFr hi).len
      rw [E] at ok2 ⊢
      obtain ⟨M, h2, CL⟩ := h.inner hi
      obtain ⟨ok, B, ⟨a, c⟩, ⟨a', c'⟩, hB, h2⟩ := h2.openFr
      obtain ⟨g', c3, e', _⟩ := row_pos (h2.rowAt (j := 1) rfl) (by omega)
      obtain ⟨rfl, rfl⟩ : a = some ⟨g', 0, none⟩ ∧ c = c3 := by simpa [Sl.val] using e'
      have hlB := hB.len
      obtain ⟨b0, hb0⟩ : ∃ b0, B[m * 64 + k]? = some b0 := ⟨_, List.getElem?_eq_getElem (by omega)⟩
      have c0 := h2.cellAt (j := 0) rfl 0 rfl
      have cb := h2.rowCell (i := 1) rfl (byteCells_at hb0)
      have fb := h2.rowFz (i := 1) rfl (m * 64 + k)
      have h3 := h2.setOne (i := 1) rfl (m * 64 + k) (.int .u8 (b.toNat : Int))
      have FIN := Lib.hid (show Tog w0 S (w.setCell ⟨g', m * 64 + k, none⟩ (.int .u8 (b.toNat : Int))) (l.set i (kFr p (L.set m (some (q.set k b))))) from by
        have bl : boolCells (L.set m (some (q.set k b))) = boolCells L := by
          rw [← boolCells_set]
          apply List.ext_getElem?
          intro j
          rw [List.getElem?_set]
          split
          · rename_i e; subst e; rw [if_pos (by simpa [boolCells_len] using hm), boolCells_at hq]; rfl
          · rfl
        have by' : (byteCells B).set (m * 64 + k) (.int .u8 (b.toNat : Int)) = byteCells (B.set (m * 64 + k) b) := by simp [byteCells, List.map_set]
        rw [by'] at h3
        have := CL _ _ [] (Tog.shutFr (x := (some ⟨g', 0, none⟩, c)) (y := (a', c')) (B := B.set (m * 64 + k) b) (L := L.set m (some (q.set k b))) (n := L.length) (by rw [bl]; exact h3) (by simp) ok2 (hB.set1 hq hql (by omega) b))
        rwa [List.append_nil] at this)
      have g0 : (0 : Int) ≤ (m : Int) := by omega
      have g1 : (m : Int) < (L.length : Int) := by omega
      simp only [Sl.val] at c0
      clear h hi CL h2 h3 hp hq E e1 ok ok2 hB hb0 hin
      go_enter Try.func29, Try.ntmps29
      go_wp2_with (first
        | (go_at_call 15; refine HAS.out.mono ?_; rintro e w' ⟨rfl, rfl⟩)
        | (go_at_call 34; refine INP.out.mono ?_; rintro e w' ⟨rfl, rfl⟩))
      go_ret
      exact ⟨rfl, FIN.out⟩
end
end Go.Proofs.Ytpabkaihppnddaa
