/-
  PACKAGE disk: list, the walk.
-/
import Derived.Test.YtdejajpmebgidaaDoorDo
import Derived.Deep.RegionLaw
namespace Go.Proofs.YtdejajpmebgidaaDoor
open Go.RowKit Go.Maps WireM DiskM
set_option linter.unusedVariables false
set_option linter.unusedSimpArgs false
set_option maxRecDepth 100000

/-- list on its way: j sectors have been looked at. -/
structure Listing (w : World) (p : Nat) (s : St) (q : Parts) (f : Int) (a j : Nat) (v : Value) (x : World) : Prop where
  disk : Dk0 x p { s with pend := addp s.pend f a j } { q with vp := v }
  loc : v.ownBlock = q.vp.ownBlock ∨ ∃ k, v.ownBlock = some k ∧ w.heap.size ≤ k
  chg : Chg (fun b => b = p ∨ b = q.bl ∨ q.vp.ownBlock = some b) w x
theorem listing_skip {w x x' : World} {p : Nat} {s : St} {q : Parts} {f : Int} {a j : Nat} {v : Value} (h : Listing w p s q f a j v x) (hm : (f, a + j) ∈ addp s.pend f a j) (hb : Below x.heap.size x x') : Listing w p s q f a (j + 1) v x' := by
  have e : addp s.pend f a (j + 1) = addp s.pend f a j := by rw [addp, if_pos hm]
  exact ⟨by rw [e]; exact h.disk.below hb, h.loc, h.chg.trans (Chg.of_below (S := fun _ => False) hb) (fun i hi => hi.elim)⟩
theorem listing_add {w x x1 x' : World} {p : Nat} {s : St} {q : Parts} {f : Int} {a j : Nat} {v v' : Value} (h : Listing w p s q f a j v x) (hm : (f, a + j) ∉ addp s.pend f a j) (hb : Below x.heap.size x x1)
    (hD : Dk0 x' p { s with pend := addp s.pend f a j ++ [(f, a + j)] } { q with vp := v' }) (hl : v'.ownBlock = v.ownBlock ∨ ∃ k, v'.ownBlock = some k ∧ w.heap.size ≤ k) (hc : Chg (fun b => b = p ∨ b = q.bl ∨ v.ownBlock = some b) x1 x') : Listing w p s q f a (j + 1) v' x' := by
  have e : addp s.pend f a (j + 1) = addp s.pend f a j ++ [(f, a + j)] := by rw [addp, if_neg hm]
  refine ⟨by rw [e]; exact hD, ?_, (h.chg.trans (Chg.of_below (S := fun _ => False) hb) (fun i hi => hi.elim)).trans hc (fun i hi => ?_)⟩
  · rcases hl with h1 | h1
    · rw [h1]; exact h.loc
    · exact .inr h1
  · rcases hi with h1 | h1 | h1
    · exact .inl (.inl h1)
    · exact .inl (.inr (.inl h1))
    · rcases h.loc with h2 | ⟨k, h2, h3⟩
      · rw [h2] at h1; exact .inl (.inr (.inr h1))
      · rw [h2] at h1; cases h1; exact .inr h3
set_option maxHeartbeats 4000000 in
set_option maxRecDepth 100000 in
theorem list0 {w : World} {p : Nat} {s : St} {q : Parts} (h : Dk0 w p s q) (hin : InS s.pend) (f : Int) (hf : InI f) (a k : Nat) (ha : a + k ≤ 1099511627776) (hlen : (addp s.pend f a k).length ≤ 1099511627776) (last : Int) (hlast : last + 1 = (a + k : Nat)) :
    Calls Tryd.prog 45 #[.pointer (some ⟨p, 0, none⟩), .int .i64 f, .int .i64 a, .int .i64 last] w fun e w' => e = .returned (.tuple #[]) ∧ ∃ v, Listing w p s q f a k v w' := by
  have hst : Listing w p s q f a 0 q.vp w := ⟨h, .inl rfl, Chg.refl _ _⟩
  have HIN := Lib.hid hin
  have HF := Lib.hid hf
  have HL := Lib.hid hlen
  have HA := Lib.hid ha
  clear h hin hlen
  go_enter Tryd.func45, Tryd.ntmps45
  go_wp2_with fail
  go_loopw [8] (fun i wr => ∃ j : Nat, j ≤ k ∧ i = .int .i64 ((a : Int) + (j : Int)) ∧ ∃ v, Listing w p s q f a j v wr) (fun i _ => a + k - (intOf i).toNat)
  case atStart => exact ⟨0, Nat.zero_le _, by simp, q.vp, hst⟩
  case round =>
    obtain ⟨j, hj, rfl, v, hr⟩ := hrel
    clear hst
    have HR := Lib.hid hr
    have HJ := Lib.hid hj
    have eaj : ((a + j : Nat) : Int) = (a : Int) + (j : Int) := by omega
    clear hr
    by_cases hlt : j < k
    · have hin2 : InS (addp s.pend f a j) := addp_in HIN.out HF.out (by have := HA.out; omega)
      have hnI : InI ((a + j : Nat) : Int) := by have := HA.out; unfold InI; omega
      have z1 := (HR.out.disk.alloc (.cells #[.int .i64 f, .int .i64 ((a + j : Nat) : Int)] 78))
      have k1 := z1.drew.list.look HF.out hnI
      have c3 := z1.c3
      have kc0 : (wr.alloc (.cells #[.int .i64 f, .int .i64 ((a + j : Nat) : Int)] 78)).cell? ⟨wr.heap.size, 0, none⟩ = some (.int .i64 f) := by rw [Lib.cell_of_heap (heap_alloc_new wr _)]; rfl
      have kc1 : (wr.alloc (.cells #[.int .i64 f, .int .i64 ((a + j : Nat) : Int)] 78)).cell? ⟨wr.heap.size, 1, none⟩ = some (.int .i64 ((a + j : Nat) : Int)) := by rw [Lib.cell_of_heap (heap_alloc_new wr _)]; rfl
      have g1 : (a : Int) + (j : Int) ≤ last := by omega
      have w1 : wrap64 ((a : Int) + (j : Int) + 1) = (a : Int) + (j : Int) + 1 := by have := HA.out; unfold wrap64; omega
      have GOAL := Lib.hid (show ∀ x v', Listing w p s q f a (j + 1) v' x → ∃ j' : Nat, j' ≤ k ∧ Value.int .i64 (wrap64 ((a : Int) + (j : Int) + 1)) = .int .i64 ((a : Int) + (j' : Int)) ∧ ∃ v, Listing w p s q f a j' v x from fun x v' hx => ⟨j + 1, by omega, by rw [w1, show (a : Int) + (j : Int) + 1 = (a : Int) + ((j + 1 : Nat) : Int) by omega], v', hx⟩)
      have MEAS := Lib.hid (show a + k - (intOf (.int .i64 (wrap64 ((a : Int) + (j : Int) + 1)))).toNat < a + k - (intOf (.int .i64 ((a : Int) + (j : Int)))).toNat by rw [w1]; simp [intOf]; omega)
      clear w1
      by_cases hm : (f, a + j) ∈ addp s.pend f a j
      · have hd : decide ((f, a + j) ∈ addp s.pend f a j) = true := by simp [hm]
        simp only [hd] at k1
        rw [eaj] at k1 c3 kc1
        rw [eaj] at kc0
        have HS := Lib.hid (show ∀ x', Below wr.heap.size wr x' → Listing w p s q f a (j + 1) v x' from fun x' hb => listing_skip HR.out hm hb)
        have HB := Lib.hid (((Below.refl _ wr).alloc (Nat.le_refl _) (.cells #[.int .i64 f, .int .i64 ((a : Int) + (j : Int))] 78)).drew)
        clear hin2 hnI z1 hm hd ha hj eaj hlt
        go_wp2
        go_region
        go_wp2
        go_roundw
        case rel => exact GOAL.out _ _ (HS.out _ HB.out)
        case measure => exact MEAS.out
      · have hd : decide ((f, a + j) ∈ addp s.pend f a j) = false := by simp [hm]
        simp only [hd] at k1
        have z2 : Dk0 (wr.alloc (.cells #[.int .i64 f, .int .i64 ((a + j : Nat) : Int)] 78)).drew.drew p { s with pend := addp s.pend f a j } { q with vp := v } := z1.drew.drew
        have hzl : (wr.alloc (.cells #[.int .i64 f, .int .i64 ((a + j : Nat) : Int)] 78)).drew.drew.cell? ⟨wr.heap.size, 0, none⟩ = some (.int .i64 f) := kc0
        have hzl1 : (wr.alloc (.cells #[.int .i64 f, .int .i64 ((a + j : Nat) : Int)] 78)).drew.drew.cell? ⟨wr.heap.size, 1, none⟩ = some (.int .i64 ((a + j : Nat) : Int)) := kc1
        obtain ⟨w3, hrun, hC, d2, hrow, hK⟩ := list_step z2 hin2 (Nat.le_trans (addp_len_le _ _ _ j k (Nat.le_of_lt hlt)) HL.out) HF.out hnI
        have hbl : ¬ wr.heap.size = q.bl := fun e => by have := tag_lt HR.out.disk.tl; simp only at this; omega
        have kd0 := cell_kept hC hzl hbl
        have kd1 := cell_kept hC hzl1 hbl
        rw [eaj] at k1 c3 kc0 kc1 hrun kd1 hK
        simp only at d2 hrow hrun
        have d2a : (w3.alloc (.cells #[.int .i64 f, .int .i64 ((a : Int) + (j : Int))] 78)).cell? ⟨p, 2, none⟩ = some v := cell_kept (S := fun _ => False) (Chg.alloc _ _) d2 (fun h => h)
        have HK := Lib.hid hK
        have HROW := Lib.hid hrow
        have HLEN := Lib.hid (Nat.le_trans (addp_len_le s.pend f a j k (Nat.le_of_lt hlt)) HL.out)
        have HM := Lib.hid hm
        have HE := Lib.hid eaj
        have HBZ := Lib.hid (show Below wr.heap.size wr (wr.alloc (.cells #[.int .i64 f, .int .i64 ((a : Int) + (j : Int))] 78)).drew.drew from ((Below.refl _ wr).alloc (Nat.le_refl _) _).drew.drew)
        have HSZ := Lib.hid hC.size
        clear hin2 hnI z1 z2 hm hd ha hj eaj hlt hzl hzl1 hC hbl hK hrow
        go_wp2
        go_region
        go_wp2
        go_region
        go_wp2
        go_region_law ((refine step_append_sec (by rfl) _ _ (by rfl) HROW.out.drew f ((a : Int) + (j : Int)) (by rfl) (by rfl) HLEN.out ?_; intro g cap w5 h1 h2 h3; obtain ⟨f5, c5, hD, hC5⟩ := HK.out w5 _ ⟨h2.os, h2.tape, h2.output, h2.size, h2.block⟩ h1 (h3.imp (fun e => e.symm) (fun e => ⟨g, rfl, e⟩)); have HD := Lib.hid hD; have HC5 := Lib.hid hC5; have H3 := Lib.hid h3; clear hD hC5 h1 h2 h3))
        all_goals
          go_wp2
          go_roundw
          case rel => exact GOAL.out _ _ (listing_add HR.out HM.out HBZ.out HD.out (H3.out.imp (fun e => e.symm) (fun e => ⟨g, rfl, by have := HSZ.out; have := HBZ.out.size; have := HR.out.chg.size; simp at *; omega⟩)) HC5.out)
          case measure => exact MEAS.out
    · have hjk : j = k := by have := HJ.out; omega
      subst hjk
      have g1 : ¬ ((a : Int) + (j : Int) ≤ last) := by omega
      clear hlt ha eaj
      go_wp2
      go_end0
      exact ⟨rfl, v, HR.out⟩
end Go.Proofs.YtdejajpmebgidaaDoor
