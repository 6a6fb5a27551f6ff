/-
  PACKAGE disk: Crash.
-/
import Derived.Test.YtdejajpmebgidaaDoorDt
namespace Go.Proofs.YtdejajpmebgidaaDoor
open Go.RowKit Go.Maps WireM DiskM
set_option linter.unusedVariables false
set_option linter.unusedSimpArgs false
set_option maxRecDepth 100000

/-- What Crash does behind its loop, up to its call of Arm. -/
theorem crash_tail {w w2 : World} {p : Nat} {s : St} {q : Parts} (h : Dk0 w p s q) {bf : Nat} {Vf : Int → Value} (hc : Copied w s.last bf Vf w2) :
    w2.frozen? ⟨p, 0, none⟩ = false ∧ w2.cell? ⟨p, 0, none⟩ = some (.map (some q.bf)) ∧
    (w2.setCell ⟨p, 0, none⟩ (.map (some bf))).frozen? ⟨p, 2, none⟩ = false ∧ (w2.setCell ⟨p, 0, none⟩ (.map (some bf))).cell? ⟨p, 2, none⟩ = some q.vp ∧
    (((w2.setCell ⟨p, 0, none⟩ (.map (some bf))).setCell ⟨p, 2, none⟩ nilS).alloc (.map #[] 0)).frozen? ⟨p, 3, none⟩ = false ∧ (((w2.setCell ⟨p, 0, none⟩ (.map (some bf))).setCell ⟨p, 2, none⟩ nilS).alloc (.map #[] 0)).cell? ⟨p, 3, none⟩ = some (.map (some q.bl)) ∧
    ((((w2.setCell ⟨p, 0, none⟩ (.map (some bf))).setCell ⟨p, 2, none⟩ nilS).alloc (.map #[] 0)).setCell ⟨p, 3, none⟩ (.map (some w2.heap.size))).frozen? ⟨p, 4, none⟩ = false ∧
    ((((w2.setCell ⟨p, 0, none⟩ (.map (some bf))).setCell ⟨p, 2, none⟩ nilS).alloc (.map #[] 0)).setCell ⟨p, 3, none⟩ (.map (some w2.heap.size))).cell? ⟨p, 4, none⟩ = some (.bool s.down) ∧
    Dk0 (((((w2.setCell ⟨p, 0, none⟩ (.map (some bf))).setCell ⟨p, 2, none⟩ nilS).alloc (.map #[] 0)).setCell ⟨p, 3, none⟩ (.map (some w2.heap.size))).setCell ⟨p, 4, none⟩ (.bool true)) p { s with now := s.last, pend := [], down := true } { q with bf := bf, Vf := Vf, vp := nilS, bl := w2.heap.size } ∧
    Chg (fun b => b = p) w (((((w2.setCell ⟨p, 0, none⟩ (.map (some bf))).setCell ⟨p, 2, none⟩ nilS).alloc (.map #[] 0)).setCell ⟨p, 3, none⟩ (.map (some w2.heap.size))).setCell ⟨p, 4, none⟩ (.bool true)) := by
  have h2 := h.below hc.below
  have hlow := hc.low
  have lbd := tag_lt h.td
  have hbl := tag_lt h.tl
  have lp := tag_lt h.tp
  have hown := hc.own
  have l2 := hc.below.size
  -- the files
  have d3 := h2.turn { s with now := s.last } { q with bf := bf, Vf := Vf } 0 (.map (some bf)) rfl hc.files h2.dur hc.rows h2.last h2.pend h2.list h2.keep (by simp only; omega) (by simp only; omega) h.nld hc.ap h.aq (fun f g k h1 h3 => by have := hown f k h1; have := tag_lt (h.tVd h3); omega)
  generalize hx3 : w2.setCell ⟨p, 0, none⟩ (.map (some bf)) = x3 at d3
  have hs3 : x3.heap.size = w2.heap.size := by rw [← hx3]; simp [World.setCell]
  -- the pending ones
  have e4 : (x3.setCell ⟨p, 2, none⟩ nilS).heap[p]? = some (.cells (dcells { q with bf := bf, Vf := Vf, vp := nilS } { s with now := s.last }) 55 (0, 0)) := by
    simp [World.setCell, Array.getElem?_modify, d3.cells, dcells]
  have o4 : ∀ b, b ≠ p → (x3.setCell ⟨p, 2, none⟩ nilS).heap[b]? = x3.heap[b]? := fun b hb => Below.heap_setCell _ _ _ _ hb
  have hs4 : (x3.setCell ⟨p, 2, none⟩ nilS).heap.size = w2.heap.size := by rw [← hs3]; simp [World.setCell]
  have hk4 : Chg (fun b => b = p) x3 (x3.setCell ⟨p, 2, none⟩ nilS) := Chg.set _ _ _ (.inl rfl)
  generalize hx4 : x3.setCell ⟨p, 2, none⟩ nilS = x4 at *
  have e5 : (x4.alloc (.map #[] 0)).heap[p]? = some (.cells (dcells { q with bf := bf, Vf := Vf, vp := nilS } { s with now := s.last }) 55 (0, 0)) := by rw [Below.heap_alloc _ _ _ (by omega)]; exact e4
  have nl := ListedAt.made x4
  rw [hs4] at nl
  have hC5 : Chg (fun b => b = p) x3 (x4.alloc (.map #[] 0)) := hk4.trans (Chg.alloc (S := fun b => b = p) _ _) (fun i hi => .inl hi)
  have rk : ∀ {e : TypeId} {size m : Nat} {v : Value} {xs : List Value}, x3.ownsRow 0 e size v m xs → e ≠ 55 → (x4.alloc (.map #[] 0)).ownsRow 0 e size v m xs := fun hr0 hne =>
    row_block hr0 (fun k hk => hC5.block k (tag_lt (tag_row hr0 hk)) (tag_ne (tag_row hr0 hk) d3.tp (by simpa using hne)))
  have lbf := hc.files.lt
  have hbf3 := d3.tf
  have hbd3 := d3.td
  have d5 := cells_turn e5 { s with now := s.last, pend := [] } { q with bf := bf, Vf := Vf, vp := nilS, bl := w2.heap.size } 3 (.map (some w2.heap.size)) rfl (d3.files.block (hC5.block _ (tag_lt d3.tf) (tag_ne d3.tf d3.tp (by simp)))) (d3.dur.block (hC5.block _ (tag_lt d3.td) (tag_ne d3.td d3.tp (by simp))))
    (fun f => rk (d3.now f) (by decide)) (fun f => rk (d3.last f) (by decide)) (nilRow _ _ _) nl (rk d3.keep (by decide)) d3.ne (by simp only; omega) (by simp only; omega) d3.ap d3.aq d3.apq
  have d6 := d5.field0 { s with now := s.last, pend := [], down := true } 4 (.bool true) rfl rfl rfl rfl rfl
  refine ⟨h2.fz 0, h2.c0, d3.fz 2, d3.c2, Lib.frozen_of_heap e5 3, by rw [Lib.cell_of_heap e5]; rfl, d5.fz 4, d5.c4, d6, ?_⟩
  have c3 : Chg (fun b => b = p) w x3 := by
    rw [← hx3]
    exact (Chg.of_below (S := fun b => b = p) hc.below).trans (Chg.set (S := fun b => b = p) _ _ _ (.inl rfl)) (fun i hi => .inl hi)
  exact ((c3.trans hC5 (fun i hi => .inl hi)).trans (Chg.set (S := fun b => b = p) _ 3 _ (.inl rfl)) (fun i hi => .inl hi)).trans (Chg.set (S := fun b => b = p) _ 4 _ (.inl rfl)) (fun i hi => .inl hi)
/-- Crash on its way: j of the pending sectors have been looked at. -/
structure Crashing (w : World) (p : Nat) (s : St) (q : Parts) (sel : Nat → Bool) (j : Nat) (V : Int → Value) (x : World) : Prop where
  disk : Dk0 x p { s with last := hardAll s.now sel s.pend s.last j } { q with Vd := V }
  own : ∀ f k, (V f).ownBlock = some k → (∃ g, (q.Vd g).ownBlock = some k) ∨ w.heap.size ≤ k
  chg : Chg (fun b => b = q.bd ∨ ∃ f, (q.Vd f).ownBlock = some b) w x
theorem crashing_skip {w x x' : World} {p : Nat} {s : St} {q : Parts} {sel : Nat → Bool} {j : Nat} {V : Int → Value} (h : Crashing w p s q sel j V x) (hs : sel j = false) (hb : Below x.heap.size x x') : Crashing w p s q sel (j + 1) V x' := by
  have e : hardAll s.now sel s.pend s.last (j + 1) = hardAll s.now sel s.pend s.last j := by rw [hardAll, hs]; rfl
  exact ⟨by rw [e]; exact h.disk.below hb, h.own, h.chg.trans (Chg.of_below (S := fun _ => False) hb) (fun i hi => hi.elim)⟩
theorem crashing_hit {w x x1 x' : World} {p : Nat} {s : St} {q : Parts} {sel : Nat → Bool} {j : Nat} {V : Int → Value} (h : Crashing w p s q sel j V x) (hs : sel j = true) {f : Int} {n : Nat} (hp : s.pend[j]? = some (f, n)) (hb : Below x.heap.size x x1) {v' : Value}
    (hD : Dk0 x' p { s with last := hard s.now (f, n) (hardAll s.now sel s.pend s.last j) } { q with Vd := upd V f v' }) (hl : v'.ownBlock = (V f).ownBlock ∨ ∃ k, v'.ownBlock = some k ∧ w.heap.size ≤ k) (hc : Chg (fun b => b = q.bd ∨ (V f).ownBlock = some b) x1 x') : Crashing w p s q sel (j + 1) (upd V f v') x' := by
  have e : hardAll s.now sel s.pend s.last (j + 1) = hard s.now (f, n) (hardAll s.now sel s.pend s.last j) := by rw [hardAll, hs, hp]; rfl
  refine ⟨by rw [e]; exact hD, fun g k hk => ?_, (h.chg.trans (Chg.of_below (S := fun _ => False) hb) (fun i hi => hi.elim)).trans hc (fun i hi => ?_)⟩
  · by_cases e2 : g = f
    · subst e2
      rw [upd_same] at hk
      rcases hl with h1 | ⟨k', h1, h2⟩
      · rw [h1] at hk; exact h.own g k hk
      · rw [h1] at hk; cases hk; exact .inr h2
    · rw [upd_other _ _ e2] at hk; exact h.own g k hk
  · rcases hi with h1 | h1
    · exact .inl (.inl h1)
    · rcases h.own f i h1 with h2 | h2
      · exact .inl (.inr h2)
      · exact .inr h2
theorem surv_nil (j : Nat) : surv [] j = false := by simp [surv]
theorem surv_at {l : List Int} {j : Nat} {k : Int} (h : l[j % l.length]? = some k) : surv l j = decide (k.tmod 2 ≠ 0) := by unfold surv; rw [h]
theorem mine_vd {p : Nat} {q : Parts} {V : Int → Value} {b : Nat} {P : Prop} (h : Mine p { q with Vd := V } b) (hV : (∃ f, (V f).ownBlock = some b) → Mine p q b ∨ P) : Mine p q b ∨ P := by
  rcases h with h | h | h | h | h | h | h | h
  · exact .inl (.inl h)
  · exact .inl (.inr (.inl h))
  · exact .inl (.inr (.inr (.inl h)))
  · exact .inl (.inr (.inr (.inr (.inl h))))
  · exact .inl (.inr (.inr (.inr (.inr (.inl h)))))
  · exact .inl (.inr (.inr (.inr (.inr (.inr (.inl h))))))
  · exact .inl (.inr (.inr (.inr (.inr (.inr (.inr (.inl h)))))))
  · exact hV h
set_option maxHeartbeats 8000000 in
set_option maxRecDepth 100000 in
theorem crash_any {w : World} {p : Nat} {s : St} {q : Parts} (h : DiskIs w p s q) (v : Value) (l : List Int) (hv : SrcAt w v l.length (intCells l)) (hb : l ≠ [] → ∀ b, v.ownBlock = some b → b < w.heap.size ∧ b ≠ q.bd ∧ ∀ f, (q.Vd f).ownBlock ≠ some b) (hl : l.length ≤ 1099511627776) :
    Calls Tryd.prog 22 #[.pointer (some ⟨p, 0, none⟩), v] w fun e w' => e = .returned (.tuple #[]) ∧ Turn w p q (s.crash l) w' := by
  have c4 := h.c4
  by_cases hd : s.down = true
  · have FIN := Lib.hid (show Turn w p q (s.crash l) w by unfold St.crash; rw [if_pos hd]; exact Turn.refl h)
    rw [hd] at c4
    clear h hv hb
    go_enter Tryd.func22, Tryd.ntmps22
    go_wp2
    first | go_end0 | (simp only [Exit.inBlock, Exit.then]; refine bodyPost_ret (results_none rfl _ _ _) rfl ?_) | refine bodyPost_ret (results_none rfl _ _ _) rfl ?_
    exact ⟨rfl, FIN.out⟩
  have hd0 : s.down = false := by simpa using hd
  rw [hd0] at c4
  have c2 := h.c2
  obtain ⟨ap, cp, hvp⟩ := row_form h.pend
  have HVP := Lib.hid hvp
  rw [hvp] at c2
  have H := Lib.hid h
  have HV := Lib.hid hv
  have HB := Lib.hid hb
  have HL := Lib.hid hl
  have HD0 := Lib.hid hd0
  have hsp : s.pend.length ≤ 4194304 := pend_bound h.inv
  have HSP := Lib.hid hsp
  have HST := Lib.hid (show Crashing w p s q (surv l) 0 q.Vd w from ⟨h.toDk0, fun f k hk => .inl ⟨f, hk⟩, Chg.refl _ _⟩)
  obtain ⟨av, cv, rfl⟩ : ∃ a c, v = .slice a l.length c := by
    rcases hv with ⟨⟨a, c, rfl⟩, e, _⟩ | ⟨b, o, c, rfl, _⟩
    · exact ⟨a, c, by rw [e]⟩
    · exact ⟨_, _, rfl⟩
  clear h hv hb hd hvp
  have hmm := @run_makeMap Tryd.prog
  go_enter Tryd.func22, Tryd.ntmps22
  go_wp2_with fail
  go_loopw [15] (fun i wr => ∃ j : Nat, j ≤ s.pend.length ∧ i = .int .i64 (j : Int) ∧ ∃ V, Hid (Crashing w p s q (surv l) j V wr)) (fun i _ => s.pend.length - (intOf i).toNat)
  case atStart => exact ⟨0, Nat.zero_le _, rfl, q.Vd, HST⟩
  case round =>
    obtain ⟨j, hj, rfl, V, HR⟩ := hrel
    clear HST
    by_cases hlt : j < s.pend.length
    · obtain ⟨t, ht⟩ : ∃ t, s.pend[j]? = some t := ⟨_, List.getElem?_eq_getElem hlt⟩
      obtain ⟨g, cap, hv', hrow⟩ := rowD_of HR.out.disk.pend (by intro e; simp only at e; rw [e] at hlt; simp at hlt)
      obtain ⟨rfl, rfl⟩ : ap = some ⟨g, 0, none⟩ ∧ cp = cap := by
        have e := HVP.out.symm.trans hv'
        simpa using e
      obtain ⟨r0, r1⟩ := hrow.cell ht
      have g0 : (0 : Int) ≤ (j : Int) := by omega
      have g1 : (j : Int) < (s.pend.length : Int) := by omega
      have w1 : wrap64 ((j : Int) + 1) = (j : Int) + 1 := by unfold wrap64; omega
      have W1 := Lib.hid w1
      have k0 : (wr.alloc (.cells #[.int .i64 t.1, .int .i64 t.2] 78)).cell? ⟨wr.heap.size, 0, none⟩ = some (.int .i64 t.1) := by rw [Lib.cell_of_heap (heap_alloc_new wr _)]; rfl
      have k1 : (wr.alloc (.cells #[.int .i64 t.1, .int .i64 t.2] 78)).cell? ⟨wr.heap.size, 1, none⟩ = some (.int .i64 t.2) := by rw [Lib.cell_of_heap (heap_alloc_new wr _)]; rfl
      have MEAS := Lib.hid (show s.pend.length - (intOf (.int .i64 ((j : Int) + 1))).toNat < s.pend.length - (intOf (.int .i64 (j : Int))).toNat by simp [intOf]; omega)
      have hbel : Below wr.heap.size wr (wr.alloc (.cells #[.int .i64 t.1, .int .i64 t.2] 78)) := (Below.refl _ wr).alloc (Nat.le_refl _) _
      have FINISH := Lib.hid (show ∀ x V', Crashing w p s q (surv l) (j + 1) V' x → ∃ j' : Nat, j' ≤ s.pend.length ∧ Value.int .i64 ((j : Int) + 1) = .int .i64 (j' : Int) ∧ ∃ V, Hid (Crashing w p s q (surv l) j' V x) from fun x V' hx => ⟨j + 1, hlt, rfl, V', Lib.hid hx⟩)
      have SKIP := Lib.hid (show surv l j = false → ∃ j' : Nat, j' ≤ s.pend.length ∧ Value.int .i64 ((j : Int) + 1) = .int .i64 (j' : Int) ∧ ∃ V, Hid (Crashing w p s q (surv l) j' V (wr.alloc (.cells #[.int .i64 t.1, .int .i64 t.2] 78))) from fun hs => FINISH.out _ V (crashing_skip HR.out hs hbel))
      by_cases hl0 : l = []
      · subst hl0
        have SK := Lib.hid (SKIP.out (surv_nil j))
        clear hbel SKIP FINISH hrow hv' w1 hlt
        go_wp2
        go_roundw
        case rel => first | exact SK.out | (rw [W1.out]; exact SK.out)
        case measure => first | exact MEAS.out | (rw [W1.out]; exact MEAS.out)
      · have hlp : 0 < l.length := List.length_pos_iff.2 hl0
        obtain ⟨k, hk⟩ : ∃ k, l[j % l.length]? = some k := ⟨_, List.getElem?_eq_getElem (Nat.mod_lt _ hlp)⟩
        have hsv := surv_at (j := j) hk
        rcases HV.out with ⟨e, e2, _⟩ | ⟨b, o, c, e, hcell⟩
        · omega
        simp at e
        obtain ⟨rfl, rfl⟩ := e
        have hkc := hcell (j % l.length) (.int .i64 k) (by simp [intCells, hk])
        obtain ⟨hbl, hbd, hbV⟩ := HB.out hl0 b rfl
        have hkc1 : (wr.alloc (.cells #[.int .i64 t.1, .int .i64 t.2] 78)).cell? ⟨b, o + j % l.length, none⟩ = some (.int .i64 k) := by
          refine cell_kept (S := fun _ => False) (Chg.alloc _ _) (cell_kept HR.out.chg hkc ?_) (fun h => h)
          rintro (h1 | ⟨f, h1⟩)
          · exact hbd h1
          · exact hbV f h1
        have hm : j % l.length < l.length := Nat.mod_lt _ hlp
        have hmod : Int.tmod (j : Int) (l.length : Int) = ((j % l.length : Nat) : Int) := by rw [Int.tmod_eq_emod_of_nonneg (by omega)]; rfl
        have g2 : (0 : Int) < (l.length : Int) := by omega
        generalize j % l.length = m at *
        have g3 : (m : Int) < (l.length : Int) := by omega
        have g4 : (0 : Int) ≤ (m : Int) := by omega
        by_cases hodd : k.tmod 2 = 0
        · have SK := Lib.hid (SKIP.out (by rw [hsv, hodd]; rfl))
          clear hbel SKIP FINISH hrow hv' w1 hlt hsv hk hkc hcell hbV hm hl0 hlp
          go_wp2
          go_roundw
          case rel => first | exact SK.out | (rw [W1.out]; exact SK.out)
          case measure => first | exact MEAS.out | (rw [W1.out]; exact MEAS.out)
        · have hsur : surv l j = true := by rw [hsv]; simp [hodd]
          have hin := H.out.inv.pf (List.mem_of_getElem? ht : (t.1, t.2) ∈ s.pend)
          have hpin := H.out.inv.pin t.1 t.2 (List.mem_of_getElem? ht)
          have hchr := hardAll_chr s.now (surv l) s.pend s.last H.out.inv.le H.out.inv.pin j
          have HA := Lib.hid (harden0 (HR.out.disk.alloc (.cells #[.int .i64 t.1, .int .i64 t.2] 78)) t.1 t.2 hin hpin (H.out.inv.cap t.1) (Nat.le_trans (hchr.hi t.1) (H.out.inv.cap t.1)))
          have HIT := Lib.hid (show ∀ w', (∃ v', Dk0 w' p { s with last := hard s.now (t.1, t.2) (hardAll s.now (surv l) s.pend s.last j) } { q with Vd := upd V t.1 v' } ∧ (v'.ownBlock = (V t.1).ownBlock ∨ ∃ k, v'.ownBlock = some k ∧ (wr.alloc (.cells #[.int .i64 t.1, .int .i64 t.2] 78)).heap.size ≤ k) ∧ Chg (fun b => b = q.bd ∨ (V t.1).ownBlock = some b) (wr.alloc (.cells #[.int .i64 t.1, .int .i64 t.2] 78)) w') →
              ∃ j' : Nat, j' ≤ s.pend.length ∧ Value.int .i64 ((j : Int) + 1) = .int .i64 (j' : Int) ∧ ∃ V, Hid (Crashing w p s q (surv l) j' V w') from fun w' ⟨v', hD, hL, hC⟩ => FINISH.out _ _ (crashing_hit HR.out hsur ht hbel hD (hL.imp id (fun ⟨k, e1, e2⟩ => ⟨k, e1, by have := HR.out.chg.size; have := hbel.size; omega⟩)) hC))
          have n1 : (k.tmod 2 == 0) = false := by rw [beq_eq_false_iff_ne]; exact hodd
          clear hbel SKIP FINISH hrow hv' w1 hlt hsv hk hkc hcell hbV hm hl0 hlp hsur hin hpin hchr
          go_wp2_with (go_at_call 38; refine HA.out.mono ?_; rintro e w' ⟨rfl, hx⟩; have HX := Lib.hid (HIT.out w' hx); clear hx HIT HA)
          go_roundw
          case rel => first | exact HX.out | (rw [W1.out]; exact HX.out)
          case measure => first | exact MEAS.out | (rw [W1.out]; exact MEAS.out)
    · have hjk : j = s.pend.length := by omega
      have g1 : ¬ (j : Int) < (s.pend.length : Int) := by omega
      have hD := HR.out.disk
      rw [hjk] at hD
      have d1 := hD.c1
      have hchr := hardAll_chr s.now (surv l) s.pend s.last H.out.inv.le H.out.inv.pin s.pend.length
      have hle : ∀ f, (hardAll s.now (surv l) s.pend s.last s.pend.length f).length ≤ 16777216 := fun f => Nat.le_trans (hchr.hi f) (H.out.inv.cap f)
      have CF := Lib.hid (copyFiles_any hD.dur hD.last hle)
      have TAIL := Lib.hid (fun bf Vf w2 (hc : Copied wr (hardAll s.now (surv l) s.pend s.last s.pend.length) bf Vf w2) => crash_tail hD hc)
      have FIN := Lib.hid (show ∀ bf Vf w2 w6 w7, Copied wr (hardAll s.now (surv l) s.pend s.last s.pend.length) bf Vf w2 → Chg (fun b => b = p) wr w6 →
          (∃ q', Dk0 w7 p (St.arm { s with now := hardAll s.now (surv l) s.pend s.last s.pend.length, last := hardAll s.now (surv l) s.pend s.last s.pend.length, pend := [], down := true } 0 []) q' ∧ (∀ b, Mine p q' b → Mine p { q with Vd := V, bf := bf, Vf := Vf, vp := nilS, bl := w2.heap.size } b ∨ w6.heap.size ≤ b) ∧ Chg (Mine p { q with Vd := V, bf := bf, Vf := Vf, vp := nilS, bl := w2.heap.size }) w6 w7) →
          Turn w p q (s.crash l) w7 from fun bf Vf w2 w6 w7 hc h6 ⟨q', hD7, hM, hC7⟩ => by
        have hcr : s.crash l = St.arm { s with now := hardAll s.now (surv l) s.pend s.last s.pend.length, last := hardAll s.now (surv l) s.pend s.last s.pend.length, pend := [], down := true } 0 [] := by
          unfold St.crash St.arm; rw [if_neg (by rw [HD0.out]; simp)]; rfl
        have hwr := HR.out.chg.size
        have h6s := h6.size
        have h2s := hc.below.size
        have hmine : ∀ b, Mine p { q with Vd := V, bf := bf, Vf := Vf, vp := nilS, bl := w2.heap.size } b → Mine p q b ∨ w.heap.size ≤ b := fun b hb => by
          rcases hb with h | h | h | h | h | h | ⟨f, h⟩ | ⟨f, h⟩
          · exact .inl (.inl h)
          · exact .inr (by have := hc.low; simp only at h; omega)
          · exact .inl (.inr (.inr (.inl h)))
          · exact .inr (by simp only at h; omega)
          · simp [Value.ownBlock] at h
          · exact .inl (.inr (.inr (.inr (.inr (.inr (.inl h))))))
          · exact .inr (by have := hc.own f b h; omega)
          · rcases HR.out.own f b h with ⟨g, hg⟩ | hg
            · exact .inl (.inr (.inr (.inr (.inr (.inr (.inr (.inr ⟨g, hg⟩)))))))
            · exact .inr hg
        rw [hcr]
        refine ⟨q', ⟨hD7, by rw [← hcr]; exact inv_crash H.out.inv l⟩, fun b hb => ?_, ?_⟩
        · rcases hM b hb with h | h
          · exact hmine b h
          · exact .inr (by omega)
        · have c1 : Chg (Mine p q) w wr := HR.out.chg.mono (fun i _ hi => by
            rcases hi with h | ⟨f, h⟩
            · exact .inr (.inr (.inl h))
            · exact .inr (.inr (.inr (.inr (.inr (.inr (.inr ⟨f, h⟩)))))))
          exact (c1.trans h6 (fun i hi => .inl (.inl hi))).trans hC7 hmine)
      clear hD hchr hle hjk hj hlt
      go_wp2_with (first
        | (go_at_call 39; refine CF.out.mono ?_; rintro e w2 ⟨bf, Vf, rfl, hc⟩; obtain ⟨t1, t2, t3, t4, t5, t6, t7, t8, t9, t10⟩ := TAIL.out bf Vf w2 hc; have AR := Lib.hid (arm0 t9 0 nilS [] (.inl ⟨⟨none, 0, rfl⟩, rfl, rfl⟩) (by simp [Value.ownBlock]) (by simp)); have HCP := Lib.hid hc; have T10 := Lib.hid t10; clear hc t9 t10 CF TAIL)
        | (go_at_call 15; refine AR.out.mono ?_; rintro e w7 ⟨rfl, hx⟩; have FF := Lib.hid (FIN.out _ _ _ _ w7 HCP.out T10.out hx); clear hx AR))
      go_end0
      exact ⟨rfl, FF.out⟩
end Go.Proofs.YtdejajpmebgidaaDoor
