/-
  THE REFERENCE: Fill.
-/
import Derived.Test.YtpabkaihppnddaaCj
namespace Go.Proofs.Ytpabkaihppnddaa
open Go.RowKit
set_option linter.unusedVariables false
set_option linter.unusedSimpArgs false
set_option maxRecDepth 100000
section
variable {w0 w : World} {S : Nat → Prop} {l : List Kd}
set_option maxHeartbeats 1000000 in
theorem Tog.rfill (h : Tog w0 S w l) {i p : Nat} {L : Fm} (hi : l[i]? = some (kRef p L)) (f : Int) (s : ByteArray) (hf : InI f) (hs : s.size ≤ maxLen) : Calls Try.prog 33 #[.pointer (some ⟨p, 0, none⟩), .int .i64 f, .string s] w fun e w' => e = .returned (.int .i64 (L.fill f s).2) ∧ Tog w0 S w' (l.set i (kRef p (L.fill f s).1)) := by
  have HAS := Lib.hid (h.rhas hi f hf)
  have hle := (h.okRef hi).len
  by_cases e1 : L.has f = true
  · obtain ⟨q, hp⟩ : ∃ q, L.pg f = some q := Option.isSome_iff_exists.1 e1
    obtain ⟨m, rfl, hm, hq⟩ := Fm.pg_some hp
    have E : L.fill (m : Int) s = (L.set m (some (fillOf s)), 0) := by unfold Fm.fill; rw [if_pos e1, Int.toNat_natCast]
    have ok2 := (h.okRef hi).fill (m : Int) s
    rw [E] at ok2 ⊢
    rw [e1] at HAS
    obtain ⟨k, hk⟩ : ∃ k, k = min s.size 64 := ⟨_, rfl⟩
    have fs := fill_string s
    rw [← hk] at fs
    obtain ⟨r, hr⟩ : ∃ r, r = 64 - k := ⟨_, rfl⟩
    rw [← hr] at fs
    have HA := (h.alloc (.cells (byteCells (List.replicate r 0)).toArray 5)).drew
    obtain ⟨a, c, c0, H⟩ := h.refAt hi
    obtain ⟨g, rfl, cb, fb, _⟩ := H m _ hq
    obtain ⟨a2, c2, d0, H2⟩ := HA.refAt hi
    obtain ⟨g2, rfl, d1, f1, ST⟩ := H2 m _ hq
    have dd0 : (w.alloc (.cells (byteCells (List.replicate r 0)).toArray 5)).drew.cell? ⟨p, 0, none⟩ = w.cell? ⟨p, 0, none⟩ := (Lib.cell?_alloc_some _ c0).trans c0.symm
    rw [dd0, c0] at d0
    simp at d0
    obtain ⟨rfl, rfl⟩ := d0
    rw [c0] at dd0
    have CV : (convert 46 9 (.slice (some ⟨w.heap.size, 0, none⟩) r r)).run Try.prog (w.alloc (.cells (byteCells (List.replicate r 0)).toArray 5)).drew = .ok (.string (bs (List.replicate r 0))) (w.alloc (.cells (byteCells (List.replicate r 0)).toArray 5)).drew := by
      have := freshString w (List.replicate r 0)
      rw [List.length_replicate] at this
      exact this
    have k1 := fun W => madeByte r W (by omega)
    have FIN := ST (some (fillOf s)) ok2
    rw [Option.getD_some, ← fs] at FIN
    have FIN := Lib.hid FIN
    have zs : (bs (List.replicate r 0)).size = r := by rw [bs_size, List.length_replicate]
    generalize bs (List.replicate r 0) = zz at *
    generalize (byteCells (List.replicate r 0)).toArray = Z at *
    have g0 : (0 : Int) ≤ (m : Int) := by omega
    have g1 : (m : Int) < (L.length : Int) := by omega
    have e2 : (if (64 : Int) < (s.size : Int) then (64 : Int) else (s.size : Int)) = (k : Int) := by split <;> omega
    have e3 : (if (s.size : Int) < 64 then (s.size : Int) else (64 : Int)) = (k : Int) := by split <;> omega
    have e4 : min (s.size : Int) 64 = (k : Int) := by omega
    have w1 : wrap64 (64 - (k : Int)) = (r : Int) := by unfold wrap64; omega
    have w2 : (64 - (k : Int)) = (r : Int) := by omega
    have hk0 : (0 : Int) ≤ (k : Int) := by omega
    have hk1 : (k : Int) ≤ (s.size : Int) := by omega
    have hr0 : (0 : Int) ≤ (r : Int) := by omega
    clear h hi hp hq E e1 ok2 HA H H2 ST fs hr hk
    go_enter Try.func33, Try.ntmps33
    go_upto_region 4 with (go_at_call 16; refine HAS.out.mono ?_; rintro e w' ⟨rfl, hw⟩; subst w')
    go_region
    all_goals
      go_wp2
      go_ret
      exact ⟨rfl, FIN.out⟩
  · have E : L.fill f s = (L, 4) := by unfold Fm.fill; rw [if_neg e1]
    have FIN := Lib.hid (show Tog w0 S w (l.set i (kRef p L)) by rw [Tog.sameAt hi]; exact h)
    rw [E]
    rw [Bool.not_eq_true] at e1
    rw [e1] at HAS
    clear h hi E e1
    go_enter Try.func33, Try.ntmps33
    go_wp2_with (go_at_call 16; refine HAS.out.mono ?_; rintro e w' ⟨rfl, rfl⟩)
    go_ret
    exact ⟨rfl, FIN.out⟩
end
end Go.Proofs.Ytpabkaihppnddaa
