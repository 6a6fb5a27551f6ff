/-
  PACKAGE disk: slices.DeleteFunc with the function that unlist hands over; unlist.
-/
import Derived.Test.YtdejajpmebgidaaDoorDr
namespace Go.Proofs.YtdejajpmebgidaaDoor
open Go.RowKit Go.Maps WireM DiskM
set_option linter.unusedVariables false
set_option linter.unusedSimpArgs false
set_option maxRecDepth 100000

theorem indexFunc_empty (a : Option Addr) (c : Nat) (fn : Value) (w : World) :
    Calls Tryd.prog 61 #[.slice a 0 c, fn] w fun e w' => e = .returned (.int .i64 (-1)) ∧ w = w' := by
  go_enter Tryd.func61, Tryd.ntmps61
  go_wp2_with fail
  refine wp_loop_rounds 1 ?_
  rw [rounds_succ]
  go_wp2
  go_ret
  exact ⟨rfl, rfl⟩
theorem deleteFunc_empty (a : Option Addr) (c : Nat) (fn : Value) (w : World) :
    Calls Tryd.prog 58 #[.slice a 0 c, fn] w fun e w' => e = .returned (.slice a 0 c) ∧ w = w' := by
  go_enter Tryd.func58, Tryd.ntmps58
  go_wp2_with (go_at_call 61; refine (indexFunc_empty a c fn _).mono ?_; rintro e w' ⟨rfl, rfl⟩)
  go_ret
  exact ⟨rfl, rfl⟩
def noF (f : Int) (l : List Sec) : List Sec := l.filter (fun x => decide (x.1 ≠ f))
/-- DeleteFunc on its way: j sectors have been looked at, i of them stay. -/
structure Deleting (w : World) (p bl bfx bdx g cap : Nat) (f : Int) (pend : List Sec) (i j : Nat) (d : List Sec) (x : World) : Prop where
  del : Del x p bl bfx bdx f (setAt f pend j)
  row : RowD x g cap d
  chg : Chg (fun b => b = bl ∨ b = g) w x
  len : d.length = pend.length
  lt : i < j
  head : d.take i = noF f (pend.take j)
  tail : d.drop j = pend.drop j
  ne : bfx ≠ g ∧ bdx ≠ g ∧ p ≠ g
theorem noF_snoc {f : Int} {pend : List Sec} {j : Nat} {s : Sec} (hj : pend[j]? = some s) : noF f (pend.take (j + 1)) = noF f (pend.take j) ++ (if s.1 = f then [] else [s]) := by
  have hl := (List.getElem?_eq_some_iff.1 hj).1
  have hs : pend[j] = s := (List.getElem?_eq_some_iff.1 hj).2
  unfold noF
  rw [List.take_succ_eq_append_getElem hl, hs, List.filter_append]
  congr 1
  by_cases h : s.1 = f <;> simp [h]
theorem deleting_at {w x : World} {p bl bfx bdx g cap : Nat} {f : Int} {pend : List Sec} {i j : Nat} {d : List Sec} (h : Deleting w p bl bfx bdx g cap f pend i j d x) {s : Sec} (hs : pend[j]? = some s) : d[j]? = some s := by
  have : (d.drop j)[0]? = (pend.drop j)[0]? := by rw [h.tail]
  rw [List.getElem?_drop, List.getElem?_drop] at this
  simpa [hs] using this
theorem deleting_skip {w x x' : World} {p bl bfx bdx g cap : Nat} {f : Int} {pend : List Sec} {i j : Nat} {d : List Sec} (hnd : pend.Nodup) (h : Deleting w p bl bfx bdx g cap f pend i j d x) {s : Sec} (hs : pend[j]? = some s) (hf : s.1 = f)
    (hd : Del x' p bl bfx bdx f (delOf f (setAt f pend j) s)) (hc : Chg (fun b => b = bl) x x') : Deleting w p bl bfx bdx g cap f pend i (j + 1) d x' := by
  refine ⟨⟨hd.num, hd.ptr, hd.fld, hd.set.congr (setAt_step hnd hs)⟩, row_after h.row h.del.set.isMap hc, h.chg.trans hc (fun i hi => .inl (.inl hi)), h.len, by have := h.lt; omega, ?_, ?_, h.ne⟩
  · rw [h.head, noF_snoc hs, if_pos hf, List.append_nil]
  · rw [← List.drop_drop, h.tail, List.drop_drop]
theorem deleting_stay {w x x' : World} {p bl bfx bdx g cap : Nat} {f : Int} {pend : List Sec} {i j : Nat} {d : List Sec} (hnd : pend.Nodup) (h : Deleting w p bl bfx bdx g cap f pend i j d x) {s : Sec} (hs : pend[j]? = some s) (hf : ¬ s.1 = f)
    (hd : Del x' p bl bfx bdx f (delOf f (setAt f pend j) s)) (hc : Chg (fun b => b = bl) x x') :
    Deleting w p bl bfx bdx g cap f pend (i + 1) (j + 1) (d.set i s) ((x'.setCell ⟨g, i * 2, none⟩ (.int .i64 s.1)).setCell ⟨g, i * 2 + 1, none⟩ (.int .i64 s.2)) := by
  have hr := row_after h.row h.del.set.isMap hc
  have hgl : g < x'.heap.size := hr.lt
  have c1 : Chg (fun b => b = g) x' ((x'.setCell ⟨g, i * 2, none⟩ (.int .i64 s.1)).setCell ⟨g, i * 2 + 1, none⟩ (.int .i64 s.2)) :=
    (Chg.set (S := fun b => b = g) x' (b := g) (i * 2) _ (.inl rfl)).trans (Chg.set (S := fun b => b = g) _ (b := g) (i * 2 + 1) _ (.inl rfl)) (fun i hi => .inl hi)
  have hjl : j < d.length := by rw [h.len]; exact (List.getElem?_eq_some_iff.1 hs).1
  have hil : i < d.length := by have := h.lt; omega
  have hgb : ¬ bl = g := fun e => by
    obtain ⟨cur, hcur, _⟩ := hr
    obtain ⟨es, c, e1⟩ := hd.set.isMap
    rw [e, hcur] at e1; cases e1
  obtain ⟨n1, n2, n3⟩ := h.ne
  refine ⟨⟨cell_kept c1 hd.num n1, cell_kept c1 hd.ptr n2, cell_kept c1 hd.fld n3, (hd.set.congr (setAt_step hnd hs)).block (c1.block bl hd.set.lt hgb)⟩, hr.set i s, (h.chg.trans hc (fun i hi => .inl (.inl hi))).trans c1 (fun i hi => .inl (.inr hi)), by rw [List.length_set]; exact h.len, by have := h.lt; omega, ?_, ?_, h.ne⟩
  · rw [noF_snoc hs, if_neg hf, ← h.head, List.take_succ_eq_append_getElem (by rw [List.length_set]; exact hil), List.take_set_of_le (Nat.le_refl _)]
    simp
  · rw [List.drop_set_of_lt (by have := h.lt; omega), ← List.drop_drop, h.tail, List.drop_drop]
/-- What DeleteFunc leaves. -/
def Deleted (w : World) (p bl bfx bdx g cap : Nat) (f : Int) (pend : List Sec) (e : Ending) (w' : World) : Prop :=
  e = .returned (.slice (some ⟨g, 0, none⟩) (noF f pend).length cap) ∧ RowD w' g cap (noF f pend) ∧ Del w' p bl bfx bdx f (noF f pend) ∧ Chg (fun b => b = bl ∨ b = g) w w'
theorem noF_all {f : Int} {l : List Sec} (h : ∀ s ∈ l, s.1 ≠ f) : noF f l = l := by
  unfold noF
  exact List.filter_eq_self.2 (fun x hx => by simpa using h x hx)
set_option maxHeartbeats 4000000 in
set_option maxRecDepth 100000 in
theorem deleteFunc_any {w : World} {p bl bfx bdx g cap : Nat} {f : Int} {pend : List Sec} (h : Del w p bl bfx bdx f pend) (hin : InS pend) (hnd : pend.Nodup) (hr : RowD w g cap pend) (hlen : pend.length ≤ 1099511627776) (hne : bfx ≠ g ∧ bdx ≠ g ∧ p ≠ g) :
    Calls Tryd.prog 58 #[.slice (some ⟨g, 0, none⟩) pend.length cap, delFn bfx bdx] w (Deleted w p bl bfx bdx g cap f pend) := by
  have IF := Lib.hid (indexFunc_any h hin hnd hr hlen)
  have HIN := Lib.hid hin
  have HND := Lib.hid hnd
  by_cases hall : ∀ s ∈ pend, s.1 ≠ f
  · have K := Lib.hid (show ∀ e w', Found w p bl bfx bdx f pend g cap e w' → e = .returned (.int .i64 (-1)) ∧ Deleted w p bl bfx bdx g cap f pend (.returned (.slice (some ⟨g, 0, none⟩) pend.length cap)) w' from by
      rintro e w' ⟨h1, h2, ⟨rfl, h3, _⟩ | ⟨i, s, _, hs, hf, _⟩⟩
      · exact ⟨rfl, by rw [noF_all hall], by rw [noF_all hall]; exact h1, by rw [noF_all hall]; exact h3, h2.mono (fun i _ hi => .inl hi)⟩
      · exact absurd hf (hall s (List.mem_of_getElem? hs)))
    clear h hin hnd hr hall hne
    go_enter Tryd.func58, Tryd.ntmps58
    go_wp2_with (go_at_call 61; refine IF.out.mono ?_; intro e w' hp; obtain ⟨rfl, hD⟩ := K.out e w' hp; have HD := Lib.hid hD; clear hp hD)
    go_ret
    exact HD.out
  · have K := Lib.hid (show ∀ e w', Found w p bl bfx bdx f pend g cap e w' → ∃ i : Nat, e = .returned (.int .i64 (i : Int)) ∧ i + 1 ≤ pend.length ∧ Deleting w p bl bfx bdx g cap f pend i (i + 1) pend w' from by
      rintro e w' ⟨h1, h2, ⟨rfl, h3, h4⟩ | ⟨i, s, rfl, hs, hf, hm, h3⟩⟩
      · exact absurd h4 hall
      · refine ⟨i, rfl, (List.getElem?_eq_some_iff.1 hs).1, h3, h1, h2.mono (fun i _ hi => .inl hi), rfl, Nat.lt_succ_self _, ?_, rfl, hne⟩
        rw [noF_snoc hs, if_pos hf, List.append_nil, noF_all]
        intro x hx
        obtain ⟨m, hm'⟩ := List.getElem?_of_mem hx
        rw [List.getElem?_take] at hm'
        split at hm'
        · rename_i hlt; exact hm m x hlt hm'
        · cases hm')
    clear h hin hnd hr hall hne
    go_enter Tryd.func58, Tryd.ntmps58
    go_wp2_with (go_at_call 61; refine IF.out.mono ?_; intro e w0 hp; obtain ⟨i0, rfl, hi0, hD⟩ := K.out e w0 hp; have HD := Lib.hid hD; have HI0 := Lib.hid hi0; have q1 : ((i0 : Int) == -1) = false := (by rw [beq_eq_false_iff_ne]; omega); have q2 : wrap64 ((i0 : Int) + 1) = (i0 : Int) + 1 := (by unfold wrap64; omega); clear hp hD K)
    go_loopw [5, 6] (fun i j wr => ∃ (ii jj : Nat) (d : List Sec), i = .int .i64 (ii : Int) ∧ j = .int .i64 (jj : Int) ∧ jj ≤ pend.length ∧ Hid (Deleting w p bl bfx bdx g cap f pend ii jj d wr)) (fun _ j _ => pend.length - (intOf j).toNat)
    case atStart => exact ⟨i0, i0 + 1, pend, rfl, by rfl, HI0.out, HD⟩
    case round =>
      obtain ⟨i, j, d, rfl, rfl, hj, HR⟩ := hrel
      clear HD HI0 hi0 q1 q2
      by_cases hlt : j < pend.length
      · obtain ⟨s, hs⟩ : ∃ s, pend[j]? = some s := ⟨_, List.getElem?_eq_getElem hlt⟩
        have hD := HR.out
        have hds := deleting_at hD hs
        obtain ⟨r0, r1⟩ := hD.row.cell hds
        have hS := HIN.out s (List.mem_of_getElem? hs)
        have CL := Lib.hid (closure_any (hD.del.alloc (.cells #[.int .i64 s.1, .int .i64 s.2] 78)) (setAt_in HIN.out j) s.1 s.2 hS.1 hS.2)
        have k0 : (wr.alloc (.cells #[.int .i64 s.1, .int .i64 s.2] 78)).cell? ⟨wr.heap.size, 0, none⟩ = some (.int .i64 s.1) := by rw [Lib.cell_of_heap (heap_alloc_new wr _)]; rfl
        have k1 : (wr.alloc (.cells #[.int .i64 s.1, .int .i64 s.2] 78)).cell? ⟨wr.heap.size, 1, none⟩ = some (.int .i64 s.2) := by rw [Lib.cell_of_heap (heap_alloc_new wr _)]; rfl
        have hzb : ¬ wr.heap.size = bl := fun e => by have := hD.del.set.lt; omega
        have w1 : wrap64 ((j : Int) + 1) = (j : Int) + 1 := by unfold wrap64; omega
        have g0 : (0 : Int) ≤ (j : Int) := by omega
        have g1 : (j : Int) < (pend.length : Int) := by omega
        have MEAS := Lib.hid (show pend.length - (intOf (.int .i64 ((j : Int) + 1))).toNat < pend.length - (intOf (.int .i64 (j : Int))).toNat by simp [intOf]; omega)
        have hil := hD.lt
        by_cases e : s.1 = f
        · have ed : decide (s.1 = f) = true := by simp [e]
          rw [ed] at CL
          have FIN := Lib.hid (show ∀ w', Del w' p bl bfx bdx f (delOf f (setAt f pend j) (s.1, s.2)) → Chg (fun b => b = bl) (wr.alloc (.cells #[.int .i64 s.1, .int .i64 s.2] 78)) w' → ∃ (ii jj : Nat) (d : List Sec), Value.int .i64 (i : Int) = .int .i64 (ii : Int) ∧ Value.int .i64 ((j : Int) + 1) = .int .i64 (jj : Int) ∧ jj ≤ pend.length ∧ Hid (Deleting w p bl bfx bdx g cap f pend ii jj d w') from fun w' h1 h2 =>
            ⟨i, j + 1, d, rfl, rfl, hlt, Lib.hid (deleting_skip HND.out hD hs e h1 ((Chg.alloc wr _).trans h2 (fun i hi => .inl hi)))⟩)
          have W1 := Lib.hid w1
          clear hD hS hs hlt HR ed e hj hds w1 hil hzb
          go_wp2_with (go_at_call 59; refine CL.out.mono ?_; rintro e w' ⟨rfl, d1, d2⟩; have D1 := Lib.hid d1; have D2 := Lib.hid d2; clear d1 d2)
          go_roundw
          case rel => first | exact FIN.out _ D1.out D2.out | (rw [W1.out]; exact FIN.out _ D1.out D2.out)
          case measure => first | exact MEAS.out | (rw [W1.out]; exact MEAS.out)
        · have ed : decide (s.1 = f) = false := by simp [e]
          rw [ed] at CL
          have hdi : ∃ t, d[i]? = some t := ⟨_, List.getElem?_eq_getElem (by rw [hD.len]; omega)⟩
          obtain ⟨t, hti⟩ := hdi
          have FIN := Lib.hid (show ∀ w', Del w' p bl bfx bdx f (delOf f (setAt f pend j) (s.1, s.2)) → Chg (fun b => b = bl) (wr.alloc (.cells #[.int .i64 s.1, .int .i64 s.2] 78)) w' →
              (w'.cell? ⟨wr.heap.size, 0, none⟩ = some (.int .i64 s.1) ∧ w'.cell? ⟨wr.heap.size, 1, none⟩ = some (.int .i64 s.2) ∧ w'.cell? ⟨g, i * 2, none⟩ = some (.int .i64 t.1) ∧ w'.cell? ⟨g, i * 2 + 1, none⟩ = some (.int .i64 t.2) ∧ w'.frozen? ⟨g, i * 2, none⟩ = false ∧ w'.frozen? ⟨g, i * 2 + 1, none⟩ = false) ∧
              ∃ (ii jj : Nat) (d : List Sec), Value.int .i64 ((i : Int) + 1) = .int .i64 (ii : Int) ∧ Value.int .i64 ((j : Int) + 1) = .int .i64 (jj : Int) ∧ jj ≤ pend.length ∧ Hid (Deleting w p bl bfx bdx g cap f pend ii jj d ((w'.setCell ⟨g, i * 2, none⟩ (.int .i64 s.1)).setCell ⟨g, i * 2 + 1, none⟩ (.int .i64 s.2))) from fun w' h1 h2 => by
            have h3 : Chg (fun b => b = bl) wr w' := (Chg.alloc wr _).trans h2 (fun i hi => .inl hi)
            have h4 := row_after hD.row hD.del.set.isMap h3
            exact ⟨⟨cell_kept h2 k0 hzb, cell_kept h2 k1 hzb, (h4.cell hti).1, (h4.cell hti).2, h4.fz _, h4.fz _⟩, i + 1, j + 1, d.set i s, rfl, rfl, hlt, Lib.hid (deleting_stay HND.out hD hs e h1 h3)⟩)
          have W1 := Lib.hid w1
          have w2 : wrap64 ((i : Int) + 1) = (i : Int) + 1 := by unfold wrap64; omega
          have g2 : (i : Int) < (pend.length : Int) := by omega
          have g3 : (0 : Int) ≤ (i : Int) := by omega
          have W2 := Lib.hid w2
          clear hD hS hs hlt HR ed e hj hds w1 hil hzb hti
          go_wp2_with (go_at_call 59; refine CL.out.mono ?_; rintro e w' ⟨rfl, d1, d2⟩; obtain ⟨⟨b1, b2, b3, b4, b5, b6⟩, hF⟩ := FIN.out w' d1 d2; have HF := Lib.hid hF; clear d1 d2 hF)
          go_roundw
          case rel => first | exact HF.out | (rw [W1.out]; exact HF.out) | (rw [W1.out, W2.out]; exact HF.out)
          case measure => first | exact MEAS.out | (rw [W1.out]; exact MEAS.out)
      · have hjk : j = pend.length := by omega
        have g1 : ¬ (j : Int) < (pend.length : Int) := by omega
        have hD := HR.out
        have hil : i < d.length := by have := hD.lt; have := hD.len; omega
        have hcap : d.length ≤ cap := by obtain ⟨_, _, _, _, h4, _⟩ := hD.row; exact h4
        obtain ⟨w', hcl, hrow, hch⟩ := hD.row.clear i hil 0
        have hnf : d.take i = noF f pend := by rw [hD.head, hjk, List.take_of_length_le (Nat.le_refl _)]
        have hnl : (noF f pend).length = i := by rw [← hnf, List.length_take]; omega
        have hset : setAt f pend j = noF f pend := by unfold setAt; rw [hjk, List.drop_of_length_le (Nat.le_refl _), List.append_nil, List.take_of_length_le (Nat.le_refl _)]; rfl
        have FIN := Lib.hid (show Deleted w p bl bfx bdx g cap f pend (.returned (.slice (some ⟨g, 0, none⟩) i cap)) w' from by
          obtain ⟨n1, n2, n3⟩ := hD.ne
          have hgb : ¬ bl = g := fun e => by
            obtain ⟨cur, hcur, _⟩ := hD.row
            obtain ⟨es, c, e1⟩ := hD.del.set.isMap
            rw [e, hcur] at e1; cases e1
          have hd2 := hD.del
          rw [hset] at hd2
          exact ⟨by rw [hnl], by rw [← hnf]; exact hrow, hd2.kept hch n1 n2 n3 (hd2.set.block (hch.block bl hd2.set.lt hgb)), hD.chg.trans hch (fun i hi => .inl (.inr hi))⟩)
        rw [hD.len] at hcl hil hcap
        have b1 : ¬ cap = i := by omega
        have b2 : i ≤ pend.length := by omega
        have b3 : i ≤ cap := by omega
        clear hD hnf hnl hset hrow hch HR hjk hlt hj
        go_wp2
        go_ret
        exact FIN.out
end Go.Proofs.YtdejajpmebgidaaDoor
