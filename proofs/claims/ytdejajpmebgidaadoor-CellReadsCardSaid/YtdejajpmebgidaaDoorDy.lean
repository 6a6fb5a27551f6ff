/-
  PACKAGE disk: Truncate.
-/
import Derived.Test.YtdejajpmebgidaaDoorDx
namespace Go.Proofs.YtdejajpmebgidaaDoor
open Go.RowKit Go.Maps WireM DiskM
set_option linter.unusedVariables false
set_option linter.unusedSimpArgs false
set_option maxRecDepth 100000

/-- An entry of the map of files is laid anew, behind the making of its row. -/
theorem Dk0.storeVf {w w3 : World} {p : Nat} {s : St} {q : Parts} (h : Dk0 w p s q) {f : Int} (hf : isF f) {v' : Value} {L : List UInt8} (hr : ByteRow w3 v' L) (hg : w.grownBy w3 (q.Vf f).ownBlock)
    (hloc : ∀ k, v'.ownBlock = some k → (q.Vf f).ownBlock = some k ∨ w.heap.size ≤ k) (s' : St) (hs1 : s'.now = upd s.now f L) (hs2 : s'.last = s.last) (hs3 : s'.pend = s.pend) (hs4 : s'.keep = s.keep) (hs5 : dcells q s' = dcells q s) :
    (∀ i, w3.cell? ⟨p, i, none⟩ = w.cell? ⟨p, i, none⟩) ∧ ∃ w4, (Instr.mapUpdate 51 (.map (some q.bf)) (.int .i64 f) v').run Tryd.prog w3 = .ok () w4 ∧ Dk0 w4 p s' { q with Vf := upd q.Vf f v' } ∧ Chg (fun b => b = q.bf ∨ (q.Vf f).ownBlock = some b) w w4 := by
  have hkeep : ∀ b, b < w.heap.size → (∀ k, (q.Vf f).ownBlock = some k → b ≠ k) → w3.heap[b]? = w.heap[b]? := fun b hb hne => hg.block b hb (fun e => hne b e.symm rfl)
  have hp3 : w3.heap[p]? = w.heap[p]? := hkeep p (tag_lt h.tp) (fun k hk e => by have := h.tVf hk; rw [← e, h.tp] at this; simp at this)
  have hmap : ∀ b, tagOf w b = some .map → w3.heap[b]? = w.heap[b]? := fun b hb => hkeep b (tag_lt hb) (fun k hk e => by have := h.tVf hk; rw [← e, hb] at this; simp at this)
  obtain ⟨w4, hrun, hF, hT⟩ := (h.files.block (hmap _ h.tf)).store hf v'
  have hg4 := hT.grown
  refine ⟨fun i => World.cell?_of_block hp3, w4, hrun, ?_, ?_⟩
  · have hsame : ∀ b, w3.heap[b]? = w.heap[b]? → b < w.heap.size → b ≠ q.bf → w4.heap[b]? = w.heap[b]? := fun b h1 h2 h3 => (hg4.block b (Nat.lt_of_lt_of_le h2 hg.size) (by simpa using h3)).trans h1
    have hrow : ∀ {e : TypeId} {size n : Nat} {v : Value} {xs : List Value}, w.ownsRow 0 e size v n xs → (∀ k, v.ownBlock = some k → ∀ k', (q.Vf f).ownBlock = some k' → k ≠ k') → w4.ownsRow 0 e size v n xs := fun hr0 hne =>
      row_block hr0 (fun k hk => hsame k (hkeep k (tag_lt (tag_row hr0 hk)) (hne k hk)) (tag_lt (tag_row hr0 hk)) (fun e => by have := tag_row hr0 hk; rw [e, h.tf] at this; simp at this))
    have hVd : ∀ g k, (upd q.Vf f v' g).ownBlock = some k → (g ≠ f ∧ (q.Vf g).ownBlock = some k) ∨ (g = f ∧ ((q.Vf f).ownBlock = some k ∨ w.heap.size ≤ k)) := fun g k hk => by
      by_cases e : g = f
      · subst e
        rw [upd_same] at hk
        exact .inr ⟨rfl, hloc k hk⟩
      · rw [upd_other _ _ e] at hk
        exact .inl ⟨e, hk⟩
    have hne : ∀ {k k' : Nat} {t t' : Tag}, tagOf w k = some t → tagOf w k' = some t' → t ≠ t' → k ≠ k' := fun h1 h2 h3 e => by rw [e, h2] at h1; exact h3 (by simpa using h1.symm)
    refine ⟨?_, hF, h.dur.block (hsame _ (hmap _ h.td) (tag_lt h.td) (fun e => h.ne e.symm)), fun g => ?_, fun g => ?_, ?_, ?_, ?_, h.ne, h.nlf, h.nld, fun g g' k h1 h2 => ?_, h.aq, fun g g' k h1 h2 => ?_⟩
    · show w4.heap[p]? = some (.cells (dcells q s') _ _)
      rw [hs5, hsame p hp3 (tag_lt h.tp) (fun e => by have := h.tp; rw [e, h.tf] at this; simp at this)]
      exact h.cells
    · rw [hs1]
      by_cases e : g = f
      · subst e
        show w4.ownsRow 0 _ 1 (upd q.Vf g v' g) _ _
        rw [upd_same, upd_same]
        exact row_block hr (fun k hk => hg4.block k (tag_lt (tag_row hr hk)) (fun e => by
          have := tag_row hr hk
          rw [show k = q.bf by simpa using e] at this
          obtain ⟨es, c, e2⟩ := (h.files.block (hmap _ h.tf)).isMap
          simp [tagOf, e2] at this))
      · show w4.ownsRow 0 _ 1 (upd q.Vf f v' g) _ _
        rw [upd_other _ _ e, upd_other _ _ e]
        exact hrow (h.now g) (fun k hk k' hk' e2 => e (h.ap g f k hk (by rw [e2]; exact hk')))
    · rw [hs2]; exact hrow (h.last g) (fun k hk k' hk' e => h.apq f g k (by rw [e]; exact hk') hk)
    · rw [hs3]; exact hrow h.pend (fun k hk k' hk' => hne (h.tvp hk) (h.tVf hk') (by simp))
    · rw [hs3]; exact h.list.block (hsame _ (hmap _ h.tl) (tag_lt h.tl) h.nlf)
    · rw [hs4]; exact hrow h.keep (fun k hk k' hk' => hne (h.tvk hk) (h.tVf hk') (by simp))
    · rcases hVd g k h1 with ⟨a1, a2⟩ | ⟨a1, a2⟩ <;> rcases hVd g' k h2 with ⟨b1, b2⟩ | ⟨b1, b2⟩
      · exact h.ap g g' k a2 b2
      · rcases b2 with b2 | b2
        · exact absurd (h.ap g f k a2 b2) a1
        · have := tag_lt (h.tVf a2); omega
      · rcases a2 with a2 | a2
        · exact absurd (h.ap g' f k b2 a2) b1
        · have := tag_lt (h.tVf b2); omega
      · rw [a1, b1]
    · rcases hVd g k h1 with ⟨a1, a2⟩ | ⟨a1, a2 | a2⟩
      · exact h.apq g g' k a2 h2
      · exact h.apq f g' k a2 h2
      · have := tag_lt (h.tVd h2); omega
  · exact (Chg.of_grown hg (fun k hk => .inl (.inr hk))).trans (Chg.of_turned (S := fun b => b = q.bf) hT (.inl rfl)) (fun i hi => .inl (.inl hi))


theorem bytes_cut {w : World} {v : Value} {L : List UInt8} (h : ByteRow w v L) {n : Nat} (hn : n ≤ L.length) : ∃ a c, (Instr.slice 70 v none (some (.int .i64 (n : Int))) none).run Tryd.prog w = .ok (.slice a n c) w ∧ ByteRow w (.slice a n c) (L.take n) ∧ (Value.slice a n c).ownBlock = v.ownBlock := by
  have hl : (L.take n).length = n := by rw [List.length_take]; omega
  rcases h.2 with ⟨rfl, h0⟩ | ⟨g, cap, cur, rfl, hb, hg, hnc, hcm, hcs, htake⟩
  · have hn0 : n = 0 := by omega
    subst hn0
    refine ⟨none, 0, ?_, ?_, rfl⟩
    · rw [run_slice_h (P := Tryd.prog) w 70 none 0 0 undB .i64 ((0 : Nat) : Int) (by omega) (by omega), elemB, sizeB]; rfl
    · unfold ByteRow
      rw [List.take_zero]
      exact nilRow _ _ _
  · refine ⟨some ⟨g, 0, none⟩, cap, ?_, ?_, rfl⟩
    · rw [run_slice_h (P := Tryd.prog) w 70 (some ⟨g, 0, none⟩) L.length cap undB .i64 n (by omega) (by omega), elemB, sizeB]
      simp [Result.andThen, sliced, Addr.add_lit]
    · unfold ByteRow
      rw [hl]
      refine ⟨by rw [Lib.byteCells_length, hl]; omega, .inr ⟨g, cap, cur, rfl, hb, hg, by omega, hcm, hcs, ?_⟩⟩
      rw [Nat.mul_one] at htake ⊢
      rw [show cur.toList.take n = (cur.toList.take L.length).take n by rw [List.take_take, Nat.min_eq_left hn], htake]
      simp [Lib.byteCells, List.map_take]
theorem grownBy_refl' (w : World) (r : Option Nat) : w.grownBy w r := ⟨rfl, rfl, rfl, Nat.le_refl _, fun _ _ _ => rfl⟩
theorem grownBy_below {w w' : World} (h : Below w.heap.size w w') (r : Option Nat) : w.grownBy w' r := ⟨h.os, h.tape, h.output, h.size, fun k hk _ => h.block k hk⟩
theorem Chg.drewR {S : Nat → Prop} {a b : World} (h : Chg S a.drew b) : Chg S a b := ⟨h.os, h.tape, h.output, h.size, h.block⟩
theorem Chg.drewL' {S : Nat → Prop} {a b : World} (h : Chg S a.drew b) : Chg S a b := ⟨h.os, h.tape, h.output, h.size, h.block⟩
theorem look_slice {w : World} {b : Nat} {V : Int → Value} {L : Files} (h : FilesAt w b V) (hr : ∀ f, ByteRow w (V f) (L f)) {f : Int} (hf : InI f) : ∃ a c, V f = .slice a (L f).length c ∧ (Instr.lookup 51 (.map (some b)) (.int .i64 f) false).run Tryd.prog w = .ok (.slice a (L f).length c) w := by
  obtain ⟨a, c, hv⟩ := row_form (hr f)
  exact ⟨a, c, hv, by rw [← hv]; exact h.look hf⟩
/-- What Truncate does behind its tests. -/
theorem trunc_steps {w : World} {p : Nat} {s : St} {q : Parts} (h : DiskIs w p s q) {f : Int} (hf : isF f) {n : Nat} (hn : n ≤ (s.now f).length) :
    ∃ (a : Option Addr) (c : Nat), (Instr.lookup 51 (.map (some q.bf)) (.int .i64 f) false).run Tryd.prog w.drew = .ok (.slice a (s.now f).length c) w.drew ∧
    ∃ (a2 : Option Addr) (c2 : Nat) (w2 : World), (Instr.slice 70 (.slice a (s.now f).length c) none (some (.int .i64 (n : Int))) none).run Tryd.prog w.drew = .ok (.slice a2 n c2) w.drew ∧ (Instr.mapUpdate 51 (.map (some q.bf)) (.int .i64 f) (.slice a2 n c2)).run Tryd.prog w.drew = .ok () w2 ∧
      w2.cell? ⟨p, 0, none⟩ = some (.map (some q.bf)) ∧ w2.cell? ⟨p, 1, none⟩ = some (.map (some q.bd)) ∧ (Instr.lookup 51 (.map (some q.bf)) (.int .i64 f) false).run Tryd.prog w2.drew = .ok (.slice a2 n c2) w2.drew ∧
      Hid (Calls Tryd.prog 56 #[.slice a2 n c2] w2.drew fun e w3 => ∃ v', e = .returned v' ∧ (w3.cell? ⟨p, 0, none⟩ = some (.map (some q.bf)) ∧ w3.cell? ⟨p, 1, none⟩ = some (.map (some q.bd))) ∧
        ∃ w4, (Instr.mapUpdate 51 (.map (some q.bd)) (.int .i64 f) v').run Tryd.prog w3 = .ok () w4 ∧ (w4.cell? ⟨p, 0, none⟩ = some (.map (some q.bf)) ∧ w4.cell? ⟨p, 1, none⟩ = some (.map (some q.bd))) ∧
          Hid (Calls Tryd.prog 51 #[.pointer (some ⟨p, 0, none⟩), .int .i64 f] w4 fun e w5 => e = .returned (.tuple #[]) ∧ Turn w p q (s.cut f n) w5)) := by
  obtain ⟨a, c, hv, hlook⟩ := look_slice h.drew.files h.drew.now (inI_of hf)
  obtain ⟨a2, c2, hsl, hrow, hown⟩ := bytes_cut (h.drew.now f) hn
  rw [hv] at hsl
  obtain ⟨_, w2, hrun, hD, hC⟩ := h.drew.storeVf hf hrow (grownBy_refl' _ _) (fun k hk => .inl (by rw [← hown]; exact hk)) { s with now := upd s.now f ((s.now f).take n) } rfl rfl rfl rfl rfl
  have hl2 := hD.drew.files.look (inI_of hf)
  simp only [upd_same] at hl2
  have hlen : ((s.now f).take n).length = n := by rw [List.length_take]; omega
  have hr2 : w2.drew.ownsRow 0 5 1 (.slice a2 n c2) n (Lib.byteCells ((s.now f).take n)) := by
    have h7 : ByteRow w2.drew (upd q.Vf f (.slice a2 n c2) f) (upd s.now f ((s.now f).take n) f) := hD.drew.now f
    rw [upd_same, upd_same] at h7
    unfold ByteRow at h7
    rw [hlen] at h7; exact h7
  have hcap := h.inv.cap f
  refine ⟨a, c, hlook, a2, c2, w2, hsl, hrun, hD.c0, hD.c1, hl2, Lib.hid ((cloneB_any (srcAt_row hr2) (by rw [Lib.byteCells_length, hlen]; omega) (by omega) (Lib.byteCells_one _)).mono ?_)⟩
  rintro e w3 ⟨v', rfl, hr3, hb3⟩
  have hr3' : ByteRow w3 v' ((s.now f).take n) := by unfold ByteRow; rw [hlen]; exact row_base hr3
  obtain ⟨hc3, w4, hrun4, hD4, hC4⟩ := hD.drew.storeVd hf hr3' (grownBy_below hb3 _) (fun k hk => .inr (ge_of_base hr3 hk)) { s with now := upd s.now f ((s.now f).take n), last := upd s.last f ((s.now f).take n) } rfl rfl rfl rfl rfl
  refine ⟨v', rfl, ⟨by rw [hc3]; exact hD.c0, by rw [hc3]; exact hD.c1⟩, w4, hrun4, ⟨hD4.c0, hD4.c1⟩, Lib.hid ((unlist0 hD4 (show InS s.pend from inS_of h.inv) h.inv.nodup (show s.pend.length ≤ 1099511627776 by have := pend_bound h.inv; omega) f).mono ?_)⟩
  rintro e w5 ⟨rfl, v5, hD5, hb5, hC5⟩
  have hs2 := hC.size
  have hmine : ∀ b, Mine p { q with Vf := upd q.Vf f (.slice a2 n c2), Vd := upd q.Vd f v', vp := v5 } b → Mine p q b ∨ w.heap.size ≤ b := fun b hb => by
    rcases hb with h | h | h | h | h | h | ⟨g, h⟩ | ⟨g, h⟩
    · exact .inl (.inl h)
    · exact .inl (.inr (.inl h))
    · exact .inl (.inr (.inr (.inl h)))
    · exact .inl (.inr (.inr (.inr (.inl h))))
    · simp only at h hb5; rw [hb5] at h; exact .inl (.inr (.inr (.inr (.inr (.inl h)))))
    · exact .inl (.inr (.inr (.inr (.inr (.inr (.inl h))))))
    · simp only at h
      by_cases e : g = f
      · subst e
        rw [upd_same, hown] at h
        exact .inl (.inr (.inr (.inr (.inr (.inr (.inr (.inl ⟨g, h⟩)))))))
      · rw [upd_other _ _ e] at h
        exact .inl (.inr (.inr (.inr (.inr (.inr (.inr (.inl ⟨g, h⟩)))))))
    · simp only at h
      by_cases e : g = f
      · subst e
        rw [upd_same] at h
        exact .inr (Nat.le_trans hs2 (ge_of_base hr3 h))
      · rw [upd_other _ _ e] at h
        exact .inl (.inr (.inr (.inr (.inr (.inr (.inr (.inr ⟨g, h⟩)))))))
  refine ⟨rfl, _, ⟨hD5, inv_cut h.inv hf n⟩, hmine, ?_⟩
  have c1 : Chg (Mine p q) w w2 := (hC.mono (S' := Mine p q) (fun i _ hi => by
    rcases hi with h | h
    · exact .inr (.inl h)
    · exact .inr (.inr (.inr (.inr (.inr (.inr (.inl ⟨f, h⟩)))))))).drewR
  refine (c1.trans (hC4.drewL') (fun i hi => ?_)).trans hC5 (fun i hi => ?_)
  · rcases hi with h | h
    · exact .inl (.inr (.inr (.inl h)))
    · exact .inl (.inr (.inr (.inr (.inr (.inr (.inr (.inr ⟨f, h⟩)))))))
  · rcases hi with h | h | h
    · exact .inl (.inl h)
    · exact .inl (.inr (.inr (.inr (.inl h))))
    · exact .inl (.inr (.inr (.inr (.inr (.inl h)))))
end Go.Proofs.YtdejajpmebgidaaDoor
