/-
  PACKAGE disk: Write.
-/
import Derived.Test.YtdejajpmebgidaaDoorDz
import Derived.Deep.RegionHeld3
namespace Go.Proofs.YtdejajpmebgidaaDoor
open Go.RowKit Go.Maps WireM DiskM
set_option linter.unusedVariables false
set_option linter.unusedSimpArgs false
set_option maxRecDepth 100000

/-- What Write does where it is possible. -/
theorem write_steps {w : World} {p : Nat} {s : St} {q : Parts} (h : DiskIs w p s q) {f : Int} (hf : isF f) (a : Nat) (t : ByteArray) (ht : 0 < t.size) (hcap : a + t.size ≤ 16777216) :
    (Instr.lookup 51 (.map (some q.bf)) (.int .i64 f) false).run Tryd.prog w.drew = .ok (q.Vf f) w.drew ∧
    Hid (Calls Tryd.prog 44 #[q.Vf f, .int .i64 a, .string t] w.drew fun e w3 => ∃ v', e = .returned v' ∧ w3.cell? ⟨p, 0, none⟩ = some (.map (some q.bf)) ∧
      ∃ w4, (Instr.mapUpdate 51 (.map (some q.bf)) (.int .i64 f) v').run Tryd.prog w3 = .ok () w4 ∧ w4.cell? ⟨p, 0, none⟩ = some (.map (some q.bf)) ∧
        Hid (Calls Tryd.prog 45 #[.pointer (some ⟨p, 0, none⟩), .int .i64 f, .int .i64 (Int.tdiv (a : Int) 64), .int .i64 (Int.tdiv ((a : Int) + (t.size : Int) - 1) 64)] w4 fun e w5 => e = .returned (.tuple #[]) ∧ Turn w p q (s.add f a t.data.toList) w5)) := by
  have htl : t.data.toList.length = t.size := rfl
  have hne : t.data.toList ≠ [] := by intro e; rw [e] at htl; simp at htl; omega
  refine ⟨h.drew.files.look (inI_of hf), Lib.hid ((put_any (h.drew.now f) a t ht (by omega) (by have := h.inv.cap f; omega)).mono ?_)⟩
  rintro e w3 ⟨v', rfl, hr, hg, hl⟩
  obtain ⟨hc, w4, hrun, hD, hC⟩ := h.drew.storeVf hf hr hg (fun k hk => by
    rcases hl with e | e
    · rw [e] at hk; exact .inl hk
    · rw [e] at hk; cases hk; exact .inr (Nat.le_refl _)) { s with now := upd s.now f (put (s.now f) a t.data.toList) } rfl rfl rfl rfl rfl
  have e1 : Int.tdiv (a : Int) 64 = ((a / 64 : Nat) : Int) := by rw [Int.tdiv_eq_ediv_of_nonneg (by omega)]; omega
  have e2 : Int.tdiv ((a : Int) + (t.size : Int) - 1) 64 = (((a + t.size - 1) / 64 : Nat) : Int) := by rw [Int.tdiv_eq_ediv_of_nonneg (by omega)]; omega
  have hI := inv_add h.inv hf hne (a := a) (by omega)
  have hpb := pend_bound hI
  refine ⟨v', rfl, by rw [hc]; exact h.c0, w4, hrun, hD.c0, Lib.hid ?_⟩
  rw [e1, e2]
  refine (list0 hD (show InS s.pend from inS_of h.inv) f (inI_of hf) (a / 64) ((a + t.size - 1) / 64 + 1 - a / 64) (by omega) ?_ _ (by omega)).mono ?_
  · show (addp s.pend f (a / 64) ((a + t.size - 1) / 64 + 1 - a / 64)).length ≤ 1099511627776
    have h5 : (s.add f a t.data.toList).pend.length = (addp s.pend f (a / 64) ((a + t.size - 1) / 64 + 1 - a / 64)).length := by unfold St.add; rw [htl]
    omega
  · rintro e w5 ⟨rfl, v5, hL⟩
    have hs4 := hC.size
    have hD5 := hL.disk
    refine ⟨rfl, { q with Vf := upd q.Vf f v', vp := v5 }, ⟨?_, hI⟩, fun b hb => ?_, ?_⟩
    · have e5 : s.add f a t.data.toList = { s with now := upd s.now f (put (s.now f) a t.data.toList), pend := addp s.pend f (a / 64) ((a + t.size - 1) / 64 + 1 - a / 64) } := by unfold St.add; rw [htl]
      rw [e5]; exact hD5
    · rcases hb with h | h | h | h | h | h | ⟨g, h⟩ | ⟨g, h⟩
      · exact .inl (.inl h)
      · exact .inl (.inr (.inl h))
      · exact .inl (.inr (.inr (.inl h)))
      · exact .inl (.inr (.inr (.inr (.inl h))))
      · simp only at h
        rcases hL.loc with h1 | ⟨k, h1, h2⟩
        · rw [h1] at h; exact .inl (.inr (.inr (.inr (.inr (.inl h)))))
        · rw [h1] at h; cases h; exact .inr (Nat.le_trans hs4 h2)
      · exact .inl (.inr (.inr (.inr (.inr (.inr (.inl h))))))
      · simp only at h
        by_cases e : g = f
        · subst e
          rw [upd_same] at h
          rcases hl with e2 | e2
          · rw [e2] at h; exact .inl (.inr (.inr (.inr (.inr (.inr (.inr (.inl ⟨g, h⟩)))))))
          · rw [e2] at h; cases h; exact .inr (Nat.le_refl _)
        · rw [upd_other _ _ e] at h
          exact .inl (.inr (.inr (.inr (.inr (.inr (.inr (.inl ⟨g, h⟩)))))))
      · exact .inl (.inr (.inr (.inr (.inr (.inr (.inr (.inr ⟨g, h⟩)))))))
    · have c1 : Chg (Mine p q) w w4 := (hC.mono (S' := Mine p q) (fun i _ hi => by
        rcases hi with h | h
        · exact .inr (.inl h)
        · exact .inr (.inr (.inr (.inr (.inr (.inr (.inl ⟨f, h⟩)))))))).drewR
      exact c1.trans hL.chg (fun i hi => by
        rcases hi with h | h | h
        · exact .inl (.inl h)
        · exact .inl (.inr (.inr (.inr (.inl h))))
        · exact .inl (.inr (.inr (.inr (.inr (.inl h))))))
/-- strikes, and the crash that may come with it. -/
theorem strike_tail {w w1 : World} {p : Nat} {s : St} {q : Parts} (hk : s.keep.length ≤ 1099511627776) (ht : Turn w p q s w1) :
    Hid (Calls Tryd.prog 46 #[.pointer (some ⟨p, 0, none⟩)] w1 fun e w2 => e = .returned (.bool (decide (s.armed = 1))) ∧ Hid (Turn w p q s.tick w2) ∧
      ∃ (a : Option Addr) (n c : Nat), w2.cell? ⟨p, 7, none⟩ = some (.slice a n c) ∧ Hid (Calls Tryd.prog 22 #[.pointer (some ⟨p, 0, none⟩), .slice a n c] w2 fun e w3 => e = .returned (.tuple #[]) ∧ Turn w p q (s.tick.crash s.keep) w3)) := by
  obtain ⟨q1, h1, m1, k1⟩ := ht
  refine Lib.hid ((strikes_any h1).mono ?_)
  rintro e w2 ⟨rfl, q2, h2, m2, k2⟩
  have ht2 : Turn w p q s.tick w2 := Turn.step m1 k1 ⟨q2, h2, m2, k2⟩
  obtain ⟨a, c, hv⟩ := row_form h2.keep
  have CR := crash_own h2 hk
  rw [hv] at CR
  refine ⟨rfl, Lib.hid ht2, a, _, c, by rw [← hv]; exact h2.c7, Lib.hid (CR.mono ?_)⟩
  rintro e w' ⟨rfl, ht3⟩
  exact ⟨rfl, Turn.step m1 k1 (Turn.step m2 k2 ht3)⟩
theorem chk_codes (f a : Int) (n : Nat) : chk f a n = 0 ∨ chk f a n = 1 ∨ chk f a n = 6 := by
  unfold chk
  split
  · exact .inr (.inl rfl)
  · split
    · exact .inr (.inr rfl)
    · exact .inl rfl
set_option maxHeartbeats 8000000 in
set_option maxRecDepth 100000 in
theorem write_any {w : World} {p : Nat} {s : St} {q : Parts} (h : DiskIs w p s q) (hk : s.keep.length ≤ 1099511627776) (f a : Int) (t : ByteArray) (ht : t.size ≤ 1099511627776) :
    Calls Tryd.prog 28 #[.pointer (some ⟨p, 0, none⟩), .int .i64 f, .int .i64 a, .string t] w fun e w' => e = .returned (.int .i64 (s.write f a t.data.toList).2) ∧ Turn w p q (s.write f a t.data.toList).1 w' := by
  have c4 := h.c4
  have htl : t.data.toList.length = t.size := rfl
  by_cases hd : s.down = true
  · have E : s.write f a t.data.toList = (s, 9) := by unfold St.write; rw [if_pos hd]
    rw [E]
    have FIN := Lib.hid (Turn.refl h)
    rw [hd] at c4
    clear h E
    go_enter Tryd.func28, Tryd.ntmps28
    go_wp2
    go_ret
    exact ⟨rfl, FIN.out⟩
  have hd0 : s.down = false := by simpa using hd
  rw [hd0] at c4
  have CK := Lib.hid (fun W => checkWrite_any f a t.size (by omega) W)
  by_cases hok : chk f a t.size = 0 ∧ t.data.toList ≠ []
  · obtain ⟨hz, hne⟩ := hok
    obtain ⟨hf, ha, hsum⟩ := chk_zero hz
    obtain ⟨x, rfl⟩ : ∃ x : Nat, a = x := ⟨a.toNat, by omega⟩
    have hpos : 0 < t.size := by
      rcases Nat.eq_zero_or_pos t.size with e | e
      · exact absurd (List.eq_nil_of_length_eq_zero (htl.trans e)) hne
      · exact e
    obtain ⟨t1, PUT⟩ := write_steps h hf x t hpos (by omega)
    have E : s.write f x t.data.toList = (s.add f x t.data.toList).strike 0 := by
      unfold St.write
      rw [if_neg hd, htl, hz, if_pos ⟨rfl, hne⟩, Int.toNat_natCast]
    rw [E]
    have c0 := h.c0
    have c0d : w.drew.cell? ⟨p, 0, none⟩ = some (.map (some q.bf)) := c0
    have TAIL := Lib.hid (fun w5 (h5 : Turn w p q (s.add f x t.data.toList) w5) => strike_tail (s := s.add f x t.data.toList) hk h5)
    rw [hz] at CK
    have hs1 : (t.toList.isEmpty) = false := by
      rw [Lib.toList_data]
      cases hq : t.data.toList with
      | nil => exact absurd hq hne
      | cons a r => rfl
    have g1 : wrap64 ((x : Int) + (t.size : Int)) = (x : Int) + (t.size : Int) := by unfold wrap64; omega
    have g2 : wrap64 ((x : Int) + (t.size : Int) - 1) = (x : Int) + (t.size : Int) - 1 := by unfold wrap64; omega
    have g3 : (0 : Int) ≤ (x : Int) := by omega
    have HNE := Lib.hid hne
    have hxs : x + t.size ≤ 16777216 := by omega
    clear h E hz hne hf ha hsum hd htl hpos
    generalize s.add f x t.data.toList = s1 at *
    by_cases harm : s1.armed = 1
    · have E2 : s1.strike 0 = (s1.tick.crash s1.keep, 9) := by unfold St.strike; rw [if_pos harm]
      rw [E2]
      have hdec : decide (s1.armed = 1) = true := by simp [harm]
      rw [hdec] at TAIL
      clear E2 harm hdec
      go_enter Tryd.func28, Tryd.ntmps28
      go_wp2_with (go_at_call 43; refine (CK.out _).mono ?_; rintro e w' ⟨rfl, rfl⟩)
      go_region_held3 (fun w' => w'.cell? ⟨p, 0, none⟩ = some (.map (some q.bf))) (first | exact c0d | exact b1 | exact b3) (first | (go_at_call 44; refine PUT.out.mono ?_; rintro e w3 ⟨v', rfl, b1, w4, b2, b3, LI⟩))
      go_wp2_with (first
        | (go_at_call 45; refine LI.out.mono ?_; rintro e w5 ⟨rfl, h5⟩; have SK := TAIL.out w5 h5; clear h5)
        | (go_at_call 46; refine SK.out.mono ?_; rintro e w6 ⟨rfl, HT, a6, n6, c6, c7, CR⟩)
        | (go_at_call 22; refine CR.out.mono ?_; rintro e w7 ⟨rfl, h7⟩; have HX := Lib.hid h7; clear h7))
      go_ret
      exact ⟨rfl, HX.out⟩
    · have E2 : s1.strike 0 = (s1.tick, 0) := by unfold St.strike; rw [if_neg harm]
      rw [E2]
      have hdec : decide (s1.armed = 1) = false := by simp [harm]
      rw [hdec] at TAIL
      clear E2 harm hdec
      go_enter Tryd.func28, Tryd.ntmps28
      go_wp2_with (go_at_call 43; refine (CK.out _).mono ?_; rintro e w' ⟨rfl, rfl⟩)
      go_region_held3 (fun w' => w'.cell? ⟨p, 0, none⟩ = some (.map (some q.bf))) (first | exact c0d | exact b1 | exact b3) (first | (go_at_call 44; refine PUT.out.mono ?_; rintro e w3 ⟨v', rfl, b1, w4, b2, b3, LI⟩))
      go_wp2_with (first
        | (go_at_call 45; refine LI.out.mono ?_; rintro e w5 ⟨rfl, h5⟩; have SK := TAIL.out w5 h5; clear h5)
        | (go_at_call 46; refine SK.out.mono ?_; rintro e w6 ⟨rfl, HT, a6, n6, c6, c7, CR⟩)
        | (go_at_call 22; refine CR.out.mono ?_; rintro e w7 ⟨rfl, h7⟩; have HX := Lib.hid h7; clear h7))
      go_ret
      exact ⟨rfl, HT.out⟩
  · have E : s.write f a t.data.toList = s.strike (chk f a t.size) := by
      unfold St.write
      rw [if_neg hd, htl, if_neg hok]
    rw [E]
    have TAIL := Lib.hid (strike_tail hk (Turn.refl h))
    have hcase : (chk f a t.size = 0 ∧ t.toList.isEmpty = true) ∨ (chk f a t.size == 0) = false := by
      by_cases hz : chk f a t.size = 0
      · refine .inl ⟨hz, ?_⟩
        have : t.data.toList = [] := Classical.byContradiction (fun hn => hok ⟨hz, hn⟩)
        rw [Lib.toList_data, this]; rfl
      · exact .inr (by rw [beq_eq_false_iff_ne]; exact hz)
    clear E hok hd htl h
    generalize chk f a t.size = ck at *
    by_cases harm : s.armed = 1
    · have E2 : s.strike ck = (s.tick.crash s.keep, 9) := by unfold St.strike; rw [if_pos harm]
      rw [E2]
      have hdec : decide (s.armed = 1) = true := by simp [harm]
      rw [hdec] at TAIL
      clear E2 harm hdec
      rcases hcase with ⟨rfl, hem⟩ | hem
      all_goals
        go_enter Tryd.func28, Tryd.ntmps28
        go_wp2_with (first
          | (go_at_call 43; refine (CK.out _).mono ?_; rintro e w' ⟨rfl, rfl⟩)
          | (go_at_call 46; refine TAIL.out.mono ?_; rintro e w6 ⟨rfl, HT, a6, n6, c6, c7, CR⟩)
          | (go_at_call 22; refine CR.out.mono ?_; rintro e w7 ⟨rfl, h7⟩; have HX := Lib.hid h7; clear h7))
        go_ret
        exact ⟨rfl, HX.out⟩
    · have E2 : s.strike ck = (s.tick, ck) := by unfold St.strike; rw [if_neg harm]
      rw [E2]
      have hdec : decide (s.armed = 1) = false := by simp [harm]
      rw [hdec] at TAIL
      clear E2 harm hdec
      rcases hcase with ⟨rfl, hem⟩ | hem
      all_goals
        go_enter Tryd.func28, Tryd.ntmps28
        go_wp2_with (first
          | (go_at_call 43; refine (CK.out _).mono ?_; rintro e w' ⟨rfl, rfl⟩)
          | (go_at_call 46; refine TAIL.out.mono ?_; rintro e w6 ⟨rfl, HT, a6, n6, c6, c7, CR⟩))
        go_ret
        exact ⟨rfl, HT.out⟩
end Go.Proofs.YtdejajpmebgidaaDoor
