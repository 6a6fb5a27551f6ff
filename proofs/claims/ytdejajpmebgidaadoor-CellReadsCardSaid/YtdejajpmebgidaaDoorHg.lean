/-
  THE REFERENCE OF LAYER 3: set.
-/
import Derived.Test.YtdejajpmebgidaaDoorHf
namespace Go.Proofs.YtdejajpmebgidaaDoor
open Go.RowKit Go.Maps WireM DiskM
set_option linter.unusedVariables false
set_option linter.unusedSimpArgs false
set_option maxRecDepth 100000

theorem infoFile : (Tryd.prog.info? 76).map (fun i => (i.zero, i.size, i.bytes)) = some (some (.agg #[.int .i64 0, .string .empty, .string .empty]), 3, 40) := by kernel_rfl
def fileOf (x : FileT) : Array Value := #[.int .i64 x.1, .string (bs x.2.1), .string (bs x.2.2)]
/-- A slice of files that the call itself has made. -/
def FRow (w : World) (L : List FileT) (v : Value) (wr : World) : Prop := wr.ownsRow w.heap.size 76 3 v L.length (fileCells L) ∧ Below w.heap.size w wr
theorem FRow.drew {w wr : World} {L : List FileT} {v : Value} (h : FRow w L v wr) : FRow w L v wr.drew := ⟨h.1.drew, h.2.drew⟩
theorem append_file {ops : Array Oper} {rest : List Oper} {o : Oper} {a : Act} {Q : Exit → Act → World → Prop} (hgd : o.guard = none) (s x : Operand)
    (ho : o.op = .call { callee := .builtin .append, args := #[s, x], argTypes := #[ 56, 56 ] })
    {w wr : World} {L : List FileT} (t : FileT) {v : Value} (h : FRow w L v wr) (hs : a.eval s = v) (hx : a.eval x = .slice (some ⟨wr.heap.size, 0, none⟩) 1 1) (hlen : L.length ≤ 1000000)
    (W : World) (hW : wr.alloc (.cells #[.int .i64 t.1, .string (bs t.2.1), .string (bs t.2.2)] 76) = W)
    (hK : ∀ v' w3, FRow w (L ++ [t]) v' w3 → wpList Tryd.prog ops Q rest (a.put o.dst v') w3) : wpList Tryd.prog ops Q (o :: rest) a W := by
  subst hW
  obtain ⟨i0, hi, hz0, hz1, hz2⟩ := info_parts infoFile
  have hle := h.2.size
  refine wpList_append_own _ hgd s x 56 ho w.heap.size 76 i0 (.agg #[.int .i64 0, .string .empty, .string .empty]) 3 40 Tryd.underlying56 hi hz0 hz1 hz2 rfl (by decide) v L.length (fileCells L) hs (h.1.alloc _) ⟨wr.heap.size, 0, none⟩ 1 1 [.int .i64 t.1, .string (bs t.2.1), .string (bs t.2.2)] hx rfl ?_ ?_ ?_ ?_ ?_ ?_
  · intro j u hj
    have hadd : (⟨wr.heap.size, 0, none⟩ : Addr).add j = ⟨wr.heap.size, j, none⟩ := by unfold Addr.add; split <;> simp_all
    rw [hadd, cell_of_row (wr.alloc _) wr.heap.size j _ _ (0, 0) (heap_alloc_new wr _), ← Array.getElem?_toList]
    exact hj
  · intro u hu
    simp only [List.mem_cons, List.not_mem_nil, or_false] at hu
    rcases hu with rfl | rfl | rfl <;> rfl
  · unfold maxLen; omega
  · omega
  · simp; omega
  · intro v' w3 h1 h2 _
    refine hK v' w3 ⟨?_, (h.2.alloc hle _).grown h2 (by simp; omega) (fun k hk => (h.1.lt k hk).1)⟩
    have e : fileCells (L ++ [t]) = fileCells L ++ [.int .i64 t.1, .string (bs t.2.1), .string (bs t.2.2)] := by simp [fileCells]
    rw [e, List.length_append]; exact h1
def setL (l : List FileT) (x : FileT) : List FileT := l.filter (fun y => decide (y.1 ≠ x.1)) ++ [x]
theorem getF_setL (l : List FileT) (x : FileT) (f : Int) : getF (setL l x) f = if f = x.1 then x.2 else getF l f := by
  unfold setL getF
  rw [List.find?_append]
  have h1 : ∀ l : List FileT, (l.filter (fun y => decide (y.1 ≠ x.1))).find? (fun y => y.1 == f) = if f = x.1 then none else l.find? (fun y => y.1 == f) := by
    intro l
    induction l with
    | nil => simp
    | cons a r ih =>
      by_cases e : a.1 = x.1
      · rw [List.filter_cons_of_neg (by simp [e]), ih]
        split
        · rfl
        · rename_i hf
          rw [List.find?_cons, show (a.1 == f) = false by rw [beq_eq_false_iff_ne]; intro h; exact hf (h.symm.trans e)]
      · rw [List.filter_cons_of_pos (by simpa using e), List.find?_cons, ih, List.find?_cons]
        by_cases e2 : a.1 = f
        · rw [show (a.1 == f) = true by simpa using e2]
          simp only [if_neg (show ¬ f = x.1 from fun h => e (e2.trans h))]
        · rw [show (a.1 == f) = false by rw [beq_eq_false_iff_ne]; exact e2]
  rw [h1]
  by_cases e : f = x.1
  · rw [if_pos e, if_pos e, List.find?_cons, show (x.1 == f) = true by simp [e]]
    rfl
  · rw [if_neg e, if_neg e, List.find?_cons, show (x.1 == f) = false by rw [beq_eq_false_iff_ne]; exact fun h => e h.symm]
    cases l.find? (fun y => y.1 == f) <;> rfl
theorem setL_nod {l : List FileT} (h : (l.map (fun x => x.1)).Nodup) (x : FileT) : ((setL l x).map (fun x => x.1)).Nodup := by
  unfold setL
  rw [List.map_append, List.nodup_append]
  refine ⟨?_, by simp, fun a ha b hb e => ?_⟩
  · unfold List.Nodup at h ⊢
    rw [List.pairwise_map] at h ⊢
    exact h.filter _
  · obtain ⟨y, hy, rfl⟩ := List.mem_map.1 ha
    have h1 := (List.mem_filter.1 hy).2
    simp at hb h1
    exact h1 (e.trans hb)
theorem setL_mem {l : List FileT} {x y : FileT} (h : y ∈ setL l x) : y ∈ l ∨ y = x := by
  unfold setL at h
  rcases List.mem_append.1 h with h | h
  · exact .inl (List.mem_filter.1 h).1
  · exact .inr (by simpa using h)
/-- The field Files has turned, the row being the call's own. -/
theorem files_end {w w3 : World} {r : Nat} {s : St} {q : RP} (h : R0 w r s q) (hb : Below w.heap.size w w3) {v' : Value} {L' : List FileT} (hr : w3.ownsRow w.heap.size 76 3 v' L'.length (fileCells L')) (n' l' : Files)
    (h1 : ∀ f, getF L' f = (n' f, l' f)) (h2 : (L'.map (fun x => x.1)).Nodup) (h3 : ∀ x ∈ L', isF x.1) : R0Turn w r q { s with now := n', last := l' } (w3.setCell ⟨r, 0, none⟩ v') := by
  have hrl := h.lt (.inl rfl)
  have k := h.below hb
  have hset : ∀ b, b ≠ r → (w3.setCell ⟨r, 0, none⟩ v').heap[b]? = w3.heap[b]? := fun b hb => Below.heap_setCell _ _ _ _ hb
  have hrow : ∀ {e : TypeId} {size n : Nat} {x : Value} {xs : List Value}, w3.ownsRow 0 e size x n xs → e ≠ 59 → (w3.setCell ⟨r, 0, none⟩ v').ownsRow 0 e size x n xs := fun hrow hne =>
    row_block hrow (fun k' hk => hset k' (fun e => by
      have t1 := tag_row hrow hk
      rw [e, k.tr] at t1
      simp at t1
      exact hne t1.symm))
  refine ⟨{ q with vF := v', files := L' }, ⟨?_, hrow (row_base hr) (by decide), hrow k.rowQ (by decide), hrow k.rowK (by decide), h1, h2, h3, h.kp, h.kl⟩, fun b hb' => ?_, fun b hb' => .inl hb', rfl, rfl, ?_⟩
  · have hc := k.cells
    show _ = some (Obj.cells ((rcells q s).setIfInBounds 0 v') _ (0, 0))
    simp [World.setCell, Array.getElem?_modify, hc]
  · rcases hb' with rfl | e | e | e
    · exact .inl (.inl rfl)
    · exact .inr (hr.lt b e).1
    · exact .inl (.inr (.inr (.inl e)))
    · exact .inl (.inr (.inr (.inr e)))
  · exact (Chg.of_below (S := RW r q) hb).trans (Chg.set (S := fun b => b = r) w3 0 v' (.inl rfl)) (fun i hi => .inl (by rw [hi]; exact .inl rfl))
/-- The files as a slice whose cells can be read. -/
theorem R0.form {w : World} {r : Nat} {s : St} {q : RP} (h : R0 w r s q) : ∃ ad c, q.vF = .slice ad q.files.length c ∧ (q.files = [] ∨ ∃ b off, ad = some ⟨b, off, none⟩ ∧ b < w.heap.size ∧ ∀ j u, (fileCells q.files)[j]? = some u → w.cell? ⟨b, off + j, none⟩ = some u) := by
  rcases srcAt_row h.rowF with ⟨⟨a, c, hv⟩, h0, h1⟩ | ⟨b, off, c, hv, hc⟩
  · exact ⟨a, c, by rw [h0]; exact hv, .inl (List.eq_nil_of_length_eq_zero h0)⟩
  · exact ⟨some ⟨b, off, none⟩, c, hv, .inr ⟨b, off, rfl, h.lt (.inr (.inl (by rw [hv]; rfl))), hc⟩⟩
set_option maxHeartbeats 8000000 in
theorem set_any {w : World} {r : Nat} {s : St} {q : RP} (h : R0 w r s q) (f : Int) (N M : List UInt8) (hx : isF f) :
    Calls Tryd.prog 54 #[.pointer (some ⟨r, 0, none⟩), .agg #[.int .i64 f, .string (bs N), .string (bs M)]] w fun e w' => e = .returned (.tuple #[]) ∧ R0Turn w r q { s with now := upd s.now f N, last := upd s.last f M } w' := by
  have H := Lib.hid h
  have hn := h.few
  obtain ⟨ad, c, hv, hcs⟩ := h.form
  have c0 := h.c0
  rw [hv] at c0
  have hr := h.lt (.inl rfl)
  have f0 := h.fz 0
  obtain ⟨L, hL⟩ : ∃ L, L = q.files := ⟨_, rfl⟩
  rw [← hL] at hcs hn c0
  have HL := Lib.hid hL
  have HC := Lib.hid hcs
  clear h hv hcs hL
  have kx := heap_alloc_new w (.cells #[.int .i64 f, .string (bs N), .string (bs M)] 76)
  have HB := Lib.hid ((Below.refl w.heap.size w).alloc (Nat.le_refl _) (.cells #[.int .i64 f, .string (bs N), .string (bs M)] 76))
  have HX := Lib.hid kx
  generalize hw1 : w.alloc (.cells #[.int .i64 f, .string (bs N), .string (bs M)] 76) = w1 at *
  have C0 := Lib.hid c0
  clear kx c0
  go_enter Tryd.func54, Tryd.ntmps54
  go_wp2
  have S0 := Lib.hid (show FRow w1 [] (.slice none 0 0) w1 from ⟨World.ownsRow_nil _ _ _ _, Below.refl _ _⟩)
  have hrw : r < w1.heap.size := Nat.lt_of_lt_of_le hr HB.out.size
  have hbw : w.heap.size < w1.heap.size := by rw [← hw1]; simp
  have C1 := Lib.hid ((HB.out.cell (p := ⟨r, 0, none⟩) hr).trans C0.out)
  have CX := Lib.hid (show w1.cell? ⟨w.heap.size, 0, none⟩ = some (.int .i64 f) ∧ w1.cell? ⟨w.heap.size, 1, none⟩ = some (.string (bs N)) ∧ w1.cell? ⟨w.heap.size, 2, none⟩ = some (.string (bs M)) from ⟨by rw [Lib.cell_of_heap HX.out]; rfl, by rw [Lib.cell_of_heap HX.out]; rfl, by rw [Lib.cell_of_heap HX.out]; rfl⟩)
  have FIN := Lib.hid (show ∀ v' w3, FRow w1 (setL L (f, N, M)) v' w3 → R0Turn w r q { s with now := upd s.now f N, last := upd s.last f M } (w3.setCell ⟨r, 0, none⟩ v') from fun v' w3 hf3 => by
    have h1 := files_end (H.out.below HB.out) hf3.2 hf3.1 (upd s.now f N) (upd s.last f M) (fun g => by
      rw [getF_setL, HL.out, H.out.rel g]
      unfold upd
      split <;> rfl) (by rw [HL.out]; exact setL_nod H.out.nod _) (fun y hy => by
      rcases setL_mem hy with e | e
      · rw [HL.out] at e; exact H.out.num y e
      · rw [e]; exact hx)
    exact R0Turn.step (RStep.below HB.out) h1)
  have FZ := Lib.hid (show ∀ v' w3, FRow w1 (setL L (f, N, M)) v' w3 → w3.frozen? ⟨r, 0, none⟩ = false ∧ ∃ u, w3.cell? ⟨r, 0, none⟩ = some u from fun v' w3 hf3 => by
    have h2 := (H.out.below HB.out).below hf3.2
    exact ⟨h2.fz 0, _, h2.c0⟩)
  have HRW := Lib.hid hrw
  have HBW := Lib.hid hbw
  clear hrw hbw hw1 hr H HL f0 hx
  go_loopw [4, 5] (fun v i wr => ∃ j : Nat, j ≤ L.length ∧ i = .int .i64 (j : Int) ∧ Hid (FRow w1 ((L.take j).filter (fun y => decide (y.1 ≠ f))) v wr)) (fun _ i _ => L.length - (intOf i).toNat)
  case atStart => exact ⟨0, Nat.zero_le _, rfl, S0⟩
  case round =>
    obtain ⟨j, hj, rfl, HR⟩ := hrel
    have B := Lib.hid HR.out.2
    have c0 := (B.out.cell (p := ⟨r, 0, none⟩) HRW.out).trans C1.out
    have cx := (B.out.cell (p := ⟨w.heap.size, 0, none⟩) HBW.out).trans CX.out.1
    by_cases hlt : j < L.length
    · obtain ⟨y, hy⟩ : ∃ y, L[j]? = some y := ⟨_, List.getElem?_eq_getElem hlt⟩
      rcases HC.out with e | ⟨b, off, rfl, hb, hc⟩
      · rw [e] at hlt; simp at hlt
      obtain ⟨y0, y1, y2⟩ := fileCells_at L j y hy
      have hk : ∀ i u, w.cell? ⟨b, i, none⟩ = some u → wr.cell? ⟨b, i, none⟩ = some u := fun i u hu => (B.out.cell (p := ⟨b, i, none⟩) (Nat.lt_of_lt_of_le hb HB.out.size)).trans ((HB.out.cell (p := ⟨b, i, none⟩) hb).trans hu)
      have z0 := hk _ _ (hc _ _ y0)
      have z1 := hk _ _ (hc _ _ y1)
      have z2 := hk _ _ (hc _ _ y2)
      rw [← Nat.add_assoc] at z1 z2
      have g0 : (0 : Int) ≤ (j : Int) := by omega
      have g1 : (j : Int) < (L.length : Int) := by omega
      have w1' : wrap64 ((j : Int) + 1) = (j : Int) + 1 := by unfold wrap64; omega
      have W1 := Lib.hid w1'
      have MEAS := Lib.hid (show L.length - (intOf (.int .i64 ((j : Int) + 1))).toNat < L.length - (intOf (.int .i64 (j : Int))).toNat by simp [intOf]; omega)
      have hts : L.take (j + 1) = L.take j ++ [y] := by
        rw [List.take_succ_eq_append_getElem hlt]
        congr 2
        exact (List.getElem?_eq_some_iff.1 hy).2
      have hlen : ((L.take j).filter (fun y => decide (y.1 ≠ f))).length ≤ 1000000 := by
        have h1 := List.length_filter_le (fun y : FileT => decide (y.1 ≠ f)) (L.take j)
        have h2 : (L.take j).length ≤ L.length := by rw [List.length_take]; omega
        omega
      have HLN := Lib.hid hlen
      by_cases hf : y.1 = f
      · have q1 : (y.1 != f) = false := by simp [hf]
        have NX := Lib.hid (show ∃ j' : Nat, j' ≤ L.length ∧ Value.int .i64 ((j : Int) + 1) = .int .i64 (j' : Int) ∧ Hid (FRow w1 ((L.take j').filter (fun y => decide (y.1 ≠ f))) u4 wr.drew) from ⟨j + 1, hlt, rfl, Lib.hid (by
          rw [hts, List.filter_append, List.filter_cons_of_neg (by simp [hf]), List.filter_nil, List.append_nil]
          exact HR.out.drew)⟩)
        clear hc hy hlt hj w1' y0 y1 y2 HR hts hlen hk hf
        go_wp2
        go_region
        go_wp2
        go_roundw
        case rel => first | exact NX.out | (rw [W1.out]; exact NX.out)
        case measure => first | exact MEAS.out | (rw [W1.out]; exact MEAS.out)
      · have q1 : (y.1 != f) = true := by simp [hf]
        have NX := Lib.hid (show ∀ v' w3, FRow w1 (((L.take j).filter (fun y => decide (y.1 ≠ f))) ++ [y]) v' w3 → ∃ j' : Nat, j' ≤ L.length ∧ Value.int .i64 ((j : Int) + 1) = .int .i64 (j' : Int) ∧ Hid (FRow w1 ((L.take j').filter (fun y => decide (y.1 ≠ f))) v' w3) from fun v' w3 h3 => ⟨j + 1, hlt, rfl, Lib.hid (by
          rw [hts, List.filter_append, List.filter_cons_of_pos (by simpa using hf), List.filter_nil]
          exact h3)⟩)
        clear hc hy hlt hj w1' y0 y1 y2 hts hlen hk hf
        go_wp2
        go_region
        go_wp2_with (at_builtin; refine append_file rfl _ _ rfl y HR.out.drew rfl rfl HLN.out _ rfl ?_; intro v' w3 h3; have N3 := Lib.hid (NX.out v' w3 h3); clear h3)
        go_roundw
        case rel => first | exact N3.out | (rw [W1.out]; exact N3.out)
        case measure => first | exact MEAS.out | (rw [W1.out]; exact MEAS.out)
    · have g1 : ¬ (j : Int) < (L.length : Int) := by omega
      have hr1 : FRow w1 (L.filter (fun y => decide (y.1 ≠ f))) u4 wr := by
        have h1 := HR.out
        rw [List.take_of_length_le (by omega)] at h1
        exact h1
      have HR1 := Lib.hid hr1
      have HLN := Lib.hid (Nat.le_trans (List.length_filter_le (fun y : FileT => decide (y.1 ≠ f)) L) (show L.length ≤ 1000000 by omega))
      have cx1 := (B.out.cell (p := ⟨w.heap.size, 1, none⟩) HBW.out).trans CX.out.2.1
      have cx2 := (B.out.cell (p := ⟨w.heap.size, 2, none⟩) HBW.out).trans CX.out.2.2
      clear hlt hj HR hr1
      go_wp2_with (at_builtin; refine append_file rfl _ _ rfl ((f, N, M) : FileT) HR1.out rfl rfl HLN.out _ rfl ?_; intro v' w3 h3; obtain ⟨a3, c3, hv3⟩ := row_form h3.1; generalize (List.length _) = n3 at hv3; subst hv3; obtain ⟨fz3, u3, cz3⟩ := FZ.out _ w3 h3; have N3 := Lib.hid (FIN.out _ w3 h3); clear h3 FIN FZ)
      go_end0
      exact ⟨rfl, N3.out⟩
end Go.Proofs.YtdejajpmebgidaaDoor
