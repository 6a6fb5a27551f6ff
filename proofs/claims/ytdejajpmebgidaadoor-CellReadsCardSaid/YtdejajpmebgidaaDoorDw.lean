/-
  PACKAGE disk: begin, Truncate, Sync.
-/
import Derived.Test.YtdejajpmebgidaaDoorDv
namespace Go.Proofs.YtdejajpmebgidaaDoor
open Go.RowKit Go.Maps WireM DiskM
set_option linter.unusedVariables false
set_option linter.unusedSimpArgs false
set_option maxRecDepth 100000

/-- The scheduled crash: what is kept lies in the disk itself. -/
theorem crash_own {w : World} {p : Nat} {s : St} {q : Parts} (h : DiskIs w p s q) (hk : s.keep.length ≤ 1099511627776) :
    Calls Tryd.prog 22 #[.pointer (some ⟨p, 0, none⟩), q.vk] w fun e w' => e = .returned (.tuple #[]) ∧ Turn w p q (s.crash s.keep) w' := by
  have hrow : w.ownsRow 0 3 1 q.vk s.keep.length (intCells s.keep) := h.keep
  exact crash_any h q.vk s.keep (srcAt_row hrow) (fun _ b hb => ⟨h.lt (.inr (.inr (.inr (.inr (.inr (.inl hb)))))), tag_ne (h.tvk hb) h.td (by simp), fun f hf => by have h1 := h.tvk hb; have h2 := h.tVd hf; rw [h2] at h1; simp at h1⟩) hk
set_option maxHeartbeats 4000000 in
theorem begin_any {w : World} {p : Nat} {s : St} {q : Parts} (h : DiskIs w p s q) (hk : s.keep.length ≤ 1099511627776) (f : Int) :
    Calls Tryd.prog 50 #[.pointer (some ⟨p, 0, none⟩), .int .i64 f] w fun e w' => e = .returned (.int .i64 (s.begin f).2) ∧ Turn w p q (s.begin f).1 w' := by
  have c4 := h.c4
  by_cases hd : s.down = true
  · have E : s.begin f = (s, 9) := by unfold St.begin; rw [if_pos hd]
    rw [E]
    have FIN := Lib.hid (Turn.refl h)
    rw [hd] at c4
    clear h E
    go_enter Tryd.func50, Tryd.ntmps50
    go_wp2
    go_ret
    exact ⟨rfl, FIN.out⟩
  have hd0 : s.down = false := by simpa using hd
  rw [hd0] at c4
  have ST := Lib.hid (strikes_any h)
  by_cases ha : s.armed = 1
  · have E : s.begin f = (s.tick.crash s.keep, 9) := by unfold St.begin St.strike; rw [if_neg hd, if_pos ha]
    rw [E]
    have hdec : decide (s.armed = 1) = true := by simp [ha]
    rw [hdec] at ST
    have NEXT := Lib.hid (show ∀ w1, Turn w p q s.tick w1 → ∃ (a : Option Addr) (n c : Nat), w1.cell? ⟨p, 7, none⟩ = some (.slice a n c) ∧ Hid (Calls Tryd.prog 22 #[.pointer (some ⟨p, 0, none⟩), .slice a n c] w1 fun e w' => e = .returned (.tuple #[]) ∧ Turn w p q (s.tick.crash s.keep) w') from by
      rintro w1 ⟨q1, h1, m1, k1⟩
      obtain ⟨a, c, hv⟩ := row_form h1.keep
      have CR := crash_own h1 hk
      rw [hv] at CR
      refine ⟨a, _, c, by rw [← hv]; exact h1.c7, Lib.hid (CR.mono ?_)⟩
      rintro e w' ⟨rfl, ht⟩
      exact ⟨rfl, Turn.step m1 k1 ht⟩)
    clear h E ha hd hdec
    go_enter Tryd.func50, Tryd.ntmps50
    go_wp2_with (first
      | (go_at_call 46; refine ST.out.mono ?_; rintro e w1 ⟨rfl, ht⟩; obtain ⟨a, n, c, c7, CR⟩ := NEXT.out w1 ht; clear ht)
      | (go_at_call 22; refine CR.out.mono ?_; rintro e w2 ⟨rfl, ht⟩; have HT := Lib.hid ht; clear ht))
    go_ret
    exact ⟨rfl, HT.out⟩
  · have E : s.begin f = (s.tick, if isF f then 0 else 1) := by unfold St.begin St.strike; rw [if_neg hd, if_neg ha]
    rw [E]
    have hdec : decide (s.armed = 1) = false := by simp [ha]
    rw [hdec] at ST
    clear h E ha hd hdec
    by_cases hf : isF f
    · have hi : decide (isF f) = true := by simp [hf]
      rw [if_pos hf]
      clear hf
      go_enter Tryd.func50, Tryd.ntmps50
      go_wp2_with (first
        | (go_at_call 46; refine ST.out.mono ?_; rintro e w1 ⟨rfl, ht⟩; have HT := Lib.hid ht; clear ht)
        | (go_at_call 40; refine (isFile_any f _).mono ?_; rintro e w' ⟨rfl, rfl⟩; rw [hi]))
      go_ret
      exact ⟨rfl, HT.out⟩
    · have hi : decide (isF f) = false := by simp [hf]
      rw [if_neg hf]
      clear hf
      go_enter Tryd.func50, Tryd.ntmps50
      go_wp2_with (first
        | (go_at_call 46; refine ST.out.mono ?_; rintro e w1 ⟨rfl, ht⟩; have HT := Lib.hid ht; clear ht)
        | (go_at_call 40; refine (isFile_any f _).mono ?_; rintro e w' ⟨rfl, rfl⟩; rw [hi]))
      go_ret
      exact ⟨rfl, HT.out⟩
theorem begin_codes (s : St) (f : Int) : (s.begin f).2 = 0 ∨ (s.begin f).2 = 1 ∨ (s.begin f).2 = 9 := by
  unfold St.begin St.strike
  split
  · exact .inr (.inr rfl)
  · split
    · exact .inr (.inr rfl)
    · simp only
      split
      · exact .inl rfl
      · exact .inr (.inl rfl)
theorem inS_of {s : St} (h : Inv s) : InS s.pend := fun x hx => by
  have h1 := h.pf (f := x.1) (n := x.2) hx
  have h2 := h.pin x.1 x.2 hx
  have h3 := h.cap x.1
  exact ⟨inI_of h1, by unfold InI; omega⟩
/-- Sync on its way. -/
theorem sync_loop_end {w x : World} {p : Nat} {s : St} {q : Parts} {f : Int} (hI : Inv s) (hf : isF f) {V : Int → Value} (hD : Dk0 x p { s with last := hardAll s.now (ofFile s.pend f) s.pend s.last s.pend.length } { q with Vd := V })
    (hown : ∀ f k, (V f).ownBlock = some k → (∃ g, (q.Vd g).ownBlock = some k) ∨ w.heap.size ≤ k) (hc : Chg (fun b => b = q.bd ∨ ∃ f, (q.Vd f).ownBlock = some b) w x) {x2 : World} (hU : UnOut x p { s with last := hardAll s.now (ofFile s.pend f) s.pend s.last s.pend.length } { q with Vd := V } f x2) : Turn w p q (s.synced f) x2 := by
  obtain ⟨v', hD2, hb, hc2⟩ := hU
  rw [sync_eq hI f] at hD2
  refine ⟨_, ⟨hD2, inv_synced hI hf⟩, fun b h => ?_, ?_⟩
  · rcases h with h | h | h | h | h | h | ⟨g, h⟩ | ⟨g, h⟩
    · exact .inl (.inl h)
    · exact .inl (.inr (.inl h))
    · exact .inl (.inr (.inr (.inl h)))
    · exact .inl (.inr (.inr (.inr (.inl h))))
    · simp only at h hb; rw [hb] at h; exact .inl (.inr (.inr (.inr (.inr (.inl h)))))
    · exact .inl (.inr (.inr (.inr (.inr (.inr (.inl h))))))
    · exact .inl (.inr (.inr (.inr (.inr (.inr (.inr (.inl ⟨g, h⟩)))))))
    · rcases hown g b h with ⟨g', hg'⟩ | hg'
      · exact .inl (.inr (.inr (.inr (.inr (.inr (.inr (.inr ⟨g', hg'⟩)))))))
      · exact .inr hg'
  · have c1 : Chg (Mine p q) w x := hc.mono (fun i _ hi => by
      rcases hi with h | ⟨f, h⟩
      · exact .inr (.inr (.inl h))
      · exact .inr (.inr (.inr (.inr (.inr (.inr (.inr ⟨f, h⟩)))))))
    exact c1.trans hc2 (fun i hi => by
      rcases hi with h | h | h
      · exact .inl (.inl h)
      · exact .inl (.inr (.inr (.inr (.inl h))))
      · exact .inl (.inr (.inr (.inr (.inr (.inl h))))))
end Go.Proofs.YtdejajpmebgidaaDoor
