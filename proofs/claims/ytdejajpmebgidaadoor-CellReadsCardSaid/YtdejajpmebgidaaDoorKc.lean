/-
  PACKAGE cell: Get, secure, Set.
-/
import Derived.Test.YtdejajpmebgidaaDoorKb
import Derived.Deep.RegionHeld3
namespace Go.Proofs.YtdejajpmebgidaaDoor
open Go.RowKit Go.Maps WireM DiskM CellM
set_option linter.unusedVariables false
set_option linter.unusedSimpArgs false
set_option maxRecDepth 100000

theorem cget_any {w0 w : World} {l : List Kd} (h : Tog w0 w l) {j z p : Nat} {f : Int} {c : CS} (hj : l[j]? = some (kCell 61 z p f c)) :
    Calls Tryd.prog 20 #[.pointer (some ⟨z, 0, none⟩)] w fun e w' => e = .returned (.tuple #[.string (bs c.val), .bool (decide (c.slot ≠ 0))]) ∧ Tog w0 w' l := by
  have F := h.cellF hj
  have c2 := F.c2
  have c3 := F.c3
  have H := Lib.hid h
  obtain ⟨R, hR⟩ : ∃ R, R = decide (c.slot ≠ 0) := ⟨_, rfl⟩
  rw [← hR]
  have q0 : ((c.slot : Int) != 0) = R := by
    rw [hR]
    by_cases e : c.slot = 0
    · rw [e]; rfl
    · rw [decide_eq_true e]; simpa using e
  clear hR h F
  go_enter Tryd.func20, Tryd.ntmps20
  go_wp2
  go_quiet (fail)
  go_wp2
  go_ret2
  exact ⟨by first | rfl | rw [q0], H.out.on (below_drewN _ _)⟩
set_option maxHeartbeats 4000000 in
theorem secure_any {w0 w : World} {l : List Kd} (h : Tog w0 w l) {i j z p : Nat} {f : Int} {c : CS} {s : St} (hi : l[i]? = some (kDisk p s)) (hj : l[j]? = some (kCell 61 z p f c)) (hij : i ≠ j) :
    Calls Tryd.prog 32 #[.pointer (some ⟨z, 0, none⟩)] w fun e w' => e = .returned (.int .i64 (s.sync f).2) ∧ Tog w0 w' ((l.set i (kDisk p (s.sync f).1)).set j (kCell 61 z p f { c with sure := decide ((s.sync f).2 = 0) })) := by
  have F := h.cellF hj
  have c0 := F.c0
  have c1 := F.c1
  have SY := Lib.hid (fun W (hW : Tog w0 W l) => hW.sync hi f)
  have hj2 : ∀ x, (l.set i x)[j]? = some (kCell 61 z p f c) := fun x => by rw [List.getElem?_set_ne hij]; exact hj
  have NX := Lib.hid (fun W (hW : Tog w0 W (l.set i (kDisk p (s.sync f).1))) => And.intro (hW.cellF (hj2 _)).c4 (And.intro ((hW.cellF (hj2 _)).fz 4) (Lib.hid (fun b => hW.cset (hj2 _) 4 (.bool b) { c with sure := b } rfl))))
  have H := Lib.hid h
  have d0 : w.drew.cell? ⟨z, 0, none⟩ = some (.pointer (some ⟨p, 0, none⟩)) := c0
  have d1 : w.drew.cell? ⟨z, 1, none⟩ = some (.int .i64 f) := c1
  have hdec : ((s.sync f).2 == 0) = decide ((s.sync f).2 = 0) := by
    by_cases e : (s.sync f).2 = 0 <;> simp [e]
  have HDEC := Lib.hid hdec
  generalize decide ((s.sync f).2 = 0) = D at *
  generalize (s.sync f).2 = r at *
  clear h F hi hj hj2 hij
  go_enter Tryd.func32, Tryd.ntmps32
  go_wp2
  go_region_with (first | (go_at_call 33; refine (SY.out _ (by exact H.out.on ⟨rfl, rfl, rfl, Nat.le_refl _, fun _ _ => rfl⟩)).mono ?_; rintro e w3 ⟨rfl, t3⟩; obtain ⟨y4, f4, N3⟩ := NX.out w3 t3; clear t3))
  all_goals
    go_wp2
    go_ret
    exact ⟨rfl, by first | exact N3.out _ | (have := N3.out (r == 0); rw [HDEC.out] at this; exact this)⟩
end Go.Proofs.YtdejajpmebgidaaDoor
