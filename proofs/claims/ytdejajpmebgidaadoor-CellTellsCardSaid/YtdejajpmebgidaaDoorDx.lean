/-
  PACKAGE disk: Sync.
-/
import Derived.Test.YtdejajpmebgidaaDoorDw
namespace Go.Proofs.YtdejajpmebgidaaDoor
open Go.RowKit Go.Maps WireM DiskM
set_option linter.unusedVariables false
set_option linter.unusedSimpArgs false
set_option maxRecDepth 100000

theorem ofFile_at {p : List Sec} {f : Int} {j : Nat} {t : Sec} (h : p[j]? = some t) : ofFile p f j = decide (t.1 = f) := by unfold ofFile; rw [h]
set_option maxHeartbeats 8000000 in
set_option maxRecDepth 100000 in
theorem sync_any {w : World} {p : Nat} {s : St} {q : Parts} (h : DiskIs w p s q) (hk : s.keep.length ≤ 1099511627776) (f : Int) :
    Calls Tryd.prog 33 #[.pointer (some ⟨p, 0, none⟩), .int .i64 f] w fun e w' => e = .returned (.int .i64 (s.sync f).2) ∧ Turn w p q (s.sync f).1 w' := by
  have BG := Lib.hid (begin_any h hk f)
  have hI1 := inv_begin h.inv f
  clear h
  by_cases h0 : (s.begin f).2 = 0
  · have hf : isF f := begin_file h0
    have HF := Lib.hid hf
    rw [h0] at BG
    by_cases hl : 0 < (s.begin f).1.lost
    · have E : s.sync f = ({ (s.begin f).1 with lost := (s.begin f).1.lost - 1 }, 10) := by unfold St.sync; rw [if_neg (by simp [h0]), if_pos hl]
      rw [E]
      generalize (s.begin f).1 = s1 at *
      obtain ⟨m, hm⟩ : ∃ m, s1.lost = m + 1 := ⟨s1.lost - 1, by omega⟩
      have NEXT := Lib.hid (show ∀ w1, Turn w p q s1 w1 → w1.cell? ⟨p, 5, none⟩ = some (.int .i64 ((m : Int) + 1)) ∧ w1.frozen? ⟨p, 5, none⟩ = false ∧ Hid (Turn w p q { s1 with lost := s1.lost - 1 } (w1.setCell ⟨p, 5, none⟩ (.int .i64 (m : Int)))) from by
        rintro w1 ⟨q1, h1, m1, k1⟩
        refine ⟨by rw [h1.c5, hm]; rfl, h1.fz 5, Lib.hid (Turn.step m1 k1 (Turn.field h1 { s1 with lost := s1.lost - 1 } 5 (.int .i64 (m : Int)) ?_ rfl rfl rfl rfl ?_))⟩
        · simp [dcells, hm]
        · have hI := h1.inv
          exact ⟨hI.nf, hI.cap, hI.le, hI.nodup, hI.pin, hI.same, hI.ends, by have := hI.lostb; simp only; omega, hI.armedb⟩)
      have g1 : (0 : Int) < (m : Int) + 1 := by omega
      have w2 : wrap64 (m : Int) = (m : Int) := by have := hI1.lostb; unfold wrap64; omega
      clear E hl hm h0 hf hI1
      go_enter Tryd.func33, Tryd.ntmps33
      go_wp2_with (go_at_call 50; refine BG.out.mono ?_; rintro e w1 ⟨rfl, ht⟩; obtain ⟨c5, f5, HT⟩ := NEXT.out w1 ht; clear ht)
      go_ret
      exact ⟨rfl, HT.out⟩
    · have E : s.sync f = ((s.begin f).1.synced f, 0) := by unfold St.sync; rw [if_neg (by simp [h0]), if_neg hl]
      rw [E]
      generalize (s.begin f).1 = s1 at *
      have hl0 : s1.lost = 0 := by omega
      have HI := Lib.hid hI1
      have hsp := pend_bound hI1
      have NEXT := Lib.hid (show ∀ w1, Turn w p q s1 w1 → ∃ (q1 : Parts) (ap : Option Addr) (cp : Nat), w1.cell? ⟨p, 5, none⟩ = some (.int .i64 0) ∧ w1.cell? ⟨p, 2, none⟩ = some (.slice ap s1.pend.length cp) ∧ Hid (q1.vp = .slice ap s1.pend.length cp ∧ Crashing w1 p s1 q1 (ofFile s1.pend f) 0 q1.Vd w1 ∧ ∀ x2, Turn w1 p q1 (s1.synced f) x2 → Turn w p q (s1.synced f) x2) from by
        rintro w1 ⟨q1, h1, m1, k1⟩
        obtain ⟨ap, cp, hv⟩ := row_form h1.pend
        refine ⟨q1, ap, cp, by rw [h1.c5, hl0]; rfl, by rw [← hv]; exact h1.c2, Lib.hid ⟨hv, ⟨h1.toDk0, fun f k hk => .inl ⟨f, hk⟩, Chg.refl _ _⟩, fun x2 ht => Turn.step m1 k1 ht⟩⟩)
      clear E hl h0 hf hl0 hI1
      go_enter Tryd.func33, Tryd.ntmps33
      go_wp2_with (go_at_call 50; refine BG.out.mono ?_; rintro e w1 ⟨rfl, ht⟩; obtain ⟨q1, ap, cp, c5, c2, HT⟩ := NEXT.out w1 ht; clear ht)
      go_loopw [31] (fun i wr => ∃ j : Nat, j ≤ s1.pend.length ∧ i = .int .i64 (j : Int) ∧ ∃ V, Hid (Crashing w1 p s1 q1 (ofFile s1.pend f) j V wr)) (fun i _ => s1.pend.length - (intOf i).toNat)
      case atStart => exact ⟨0, Nat.zero_le _, rfl, q1.Vd, Lib.hid HT.out.2.1⟩
      case round =>
        obtain ⟨j, hj, rfl, V, HR⟩ := hrel
        by_cases hlt : j < s1.pend.length
        · obtain ⟨t, ht⟩ : ∃ t, s1.pend[j]? = some t := ⟨_, List.getElem?_eq_getElem hlt⟩
          obtain ⟨g, cap, hv', hrow⟩ := rowD_of HR.out.disk.pend (by intro e; simp only at e; rw [e] at hlt; simp at hlt)
          obtain ⟨rfl, rfl⟩ : ap = some ⟨g, 0, none⟩ ∧ cp = cap := by
            have e := HT.out.1.symm.trans hv'
            simpa using e
          obtain ⟨r0, r1⟩ := hrow.cell ht
          have g0 : (0 : Int) ≤ (j : Int) := by omega
          have g1 : (j : Int) < (s1.pend.length : Int) := by omega
          have w1' : wrap64 ((j : Int) + 1) = (j : Int) + 1 := by unfold wrap64; omega
          have W1 := Lib.hid w1'
          have k0 : (wr.alloc (.cells #[.int .i64 t.1, .int .i64 t.2] 78)).cell? ⟨wr.heap.size, 0, none⟩ = some (.int .i64 t.1) := by rw [Lib.cell_of_heap (heap_alloc_new wr _)]; rfl
          have k1 : (wr.alloc (.cells #[.int .i64 t.1, .int .i64 t.2] 78)).cell? ⟨wr.heap.size, 1, none⟩ = some (.int .i64 t.2) := by rw [Lib.cell_of_heap (heap_alloc_new wr _)]; rfl
          have MEAS := Lib.hid (show s1.pend.length - (intOf (.int .i64 ((j : Int) + 1))).toNat < s1.pend.length - (intOf (.int .i64 (j : Int))).toNat by simp [intOf]; omega)
          have hbel : Below wr.heap.size wr (wr.alloc (.cells #[.int .i64 t.1, .int .i64 t.2] 78)) := (Below.refl _ wr).alloc (Nat.le_refl _) _
          have FINISH := Lib.hid (show ∀ x V', Crashing w1 p s1 q1 (ofFile s1.pend f) (j + 1) V' x → ∃ j' : Nat, j' ≤ s1.pend.length ∧ Value.int .i64 ((j : Int) + 1) = .int .i64 (j' : Int) ∧ ∃ V, Hid (Crashing w1 p s1 q1 (ofFile s1.pend f) j' V x) from fun x V' hx => ⟨j + 1, hlt, rfl, V', Lib.hid hx⟩)
          have hsv := ofFile_at (f := f) ht
          by_cases hodd : t.1 = f
          · have hsur : ofFile s1.pend f j = true := by rw [hsv]; simp [hodd]
            have hin := HI.out.pf (List.mem_of_getElem? ht : (t.1, t.2) ∈ s1.pend)
            have hpin := HI.out.pin t.1 t.2 (List.mem_of_getElem? ht)
            have hchr := hardAll_chr s1.now (ofFile s1.pend f) s1.pend s1.last HI.out.le HI.out.pin j
            have HA := Lib.hid (harden0 (HR.out.disk.alloc (.cells #[.int .i64 t.1, .int .i64 t.2] 78)) t.1 t.2 hin hpin (HI.out.cap t.1) (Nat.le_trans (hchr.hi t.1) (HI.out.cap t.1)))
            have HIT := Lib.hid (show ∀ w', (∃ v', Dk0 w' p { s1 with last := hard s1.now (t.1, t.2) (hardAll s1.now (ofFile s1.pend f) s1.pend s1.last j) } { q1 with Vd := upd V t.1 v' } ∧ (v'.ownBlock = (V t.1).ownBlock ∨ ∃ k, v'.ownBlock = some k ∧ (wr.alloc (.cells #[.int .i64 t.1, .int .i64 t.2] 78)).heap.size ≤ k) ∧ Chg (fun b => b = q1.bd ∨ (V t.1).ownBlock = some b) (wr.alloc (.cells #[.int .i64 t.1, .int .i64 t.2] 78)) w') →
                ∃ j' : Nat, j' ≤ s1.pend.length ∧ Value.int .i64 ((j : Int) + 1) = .int .i64 (j' : Int) ∧ ∃ V, Hid (Crashing w1 p s1 q1 (ofFile s1.pend f) j' V w') from fun w' ⟨v', hD, hL, hC⟩ => FINISH.out _ _ (crashing_hit HR.out hsur ht hbel hD (hL.imp id (fun ⟨k, e1, e2⟩ => ⟨k, e1, by have := HR.out.chg.size; have := hbel.size; omega⟩)) hC))
            have n1 : (t.1 == f) = true := by rw [beq_iff_eq]; exact hodd
            clear hbel FINISH hrow hv' w1' hlt hsv hsur hin hpin hchr hodd hj
            go_wp2_with (go_at_call 38; refine HA.out.mono ?_; rintro e w' ⟨rfl, hx⟩; have HX := Lib.hid (HIT.out w' hx); clear hx HIT HA)
            go_roundw
            case rel => first | exact HX.out | (rw [W1.out]; exact HX.out)
            case measure => first | exact MEAS.out | (rw [W1.out]; exact MEAS.out)
          · have SK := Lib.hid (FINISH.out _ V (crashing_skip HR.out (by rw [hsv]; simp [hodd]) hbel))
            have n1 : (t.1 == f) = false := by rw [beq_eq_false_iff_ne]; exact hodd
            clear hbel FINISH hrow hv' w1' hlt hsv hodd hj
            go_wp2
            go_roundw
            case rel => first | exact SK.out | (rw [W1.out]; exact SK.out)
            case measure => first | exact MEAS.out | (rw [W1.out]; exact MEAS.out)
        · have hjk : j = s1.pend.length := by omega
          have g1 : ¬ (j : Int) < (s1.pend.length : Int) := by omega
          have hD := HR.out.disk
          rw [hjk] at hD
          have UL := Lib.hid (unlist0 hD (show InS s1.pend from inS_of HI.out) HI.out.nodup (show s1.pend.length ≤ 1099511627776 by omega) f)
          have FIN := Lib.hid (show ∀ x2, UnOut wr p { s1 with last := hardAll s1.now (ofFile s1.pend f) s1.pend s1.last s1.pend.length } { q1 with Vd := V } f x2 → Turn w p q (s1.synced f) x2 from fun x2 hU => HT.out.2.2 x2 (sync_loop_end HI.out HF.out hD HR.out.own HR.out.chg hU))
          clear hD hjk hj hlt
          go_wp2_with (go_at_call 51; refine UL.out.mono ?_; rintro e x2 ⟨rfl, hU⟩; have FF := Lib.hid (FIN.out x2 hU); clear hU UL FIN)
          go_ret
          exact ⟨rfl, FF.out⟩
  · have E : s.sync f = s.begin f := by unfold St.sync; rw [if_pos (by simpa using h0)]
    rw [E]
    have n0 : ((s.begin f).2 == 0) = false := by rw [beq_eq_false_iff_ne]; exact h0
    generalize s.begin f = r at *
    obtain ⟨s1, c⟩ := r
    simp only at n0 BG ⊢
    clear E h0
    go_enter Tryd.func33, Tryd.ntmps33
    go_wp2_with (go_at_call 50; refine BG.out.mono ?_; rintro e w1 ⟨rfl, ht⟩; have HT := Lib.hid ht; clear ht)
    go_ret
    exact ⟨rfl, HT.out⟩
end Go.Proofs.YtdejajpmebgidaaDoor
