/-
  THE REFERENCE OF LAYER 3: Crash.
-/
import Derived.Test.YtdejajpmebgidaaDoorHj
import Derived.Deep.RegionHeld3
import Derived.Deep.AppendLies
namespace Go.Proofs.YtdejajpmebgidaaDoor
open Go.RowKit Go.Maps WireM DiskM
set_option linter.unusedVariables false
set_option linter.unusedSimpArgs false
set_option maxRecDepth 100000

theorem and1 (x : Int) : bits .and .i64 x 1 = x % 2 := by
  show IntKind.i64.wrap (((BitVec.ofInt 64 x &&& BitVec.ofInt 64 1).toNat : Nat) : Int) = x % 2
  rw [BitVec.toNat_and, BitVec.toNat_ofInt, BitVec.toNat_ofInt, show ((1 : Int) % ((2 ^ 64 : Nat) : Int)).toNat = 2 ^ 1 - 1 by decide, Nat.and_two_pow_sub_one_eq_mod, IntKind.wrap_i64]
  omega
theorem odd_iff (x : Int) : x.tmod 2 = 0 ↔ x % 2 = 0 := ⟨fun h => Int.emod_eq_zero_of_dvd (Int.dvd_of_tmod_eq_zero h), fun h => Int.tmod_eq_zero_of_dvd (Int.dvd_of_emod_eq_zero h)⟩
def flat (l : List FileT) : List FileT := l.map fun x => (x.1, x.2.2, x.2.2)
theorem getF_flat (l : List FileT) (f : Int) : getF (flat l) f = ((getF l f).2, (getF l f).2) := by
  unfold flat getF
  induction l with
  | nil => rfl
  | cons a r ih =>
    rw [List.map_cons, List.find?_cons, List.find?_cons]
    cases h : (a.1 == f) with
    | true => simp
    | false => simpa using ih
theorem flat_nums (l : List FileT) : (flat l).map (fun x => x.1) = l.map (fun x => x.1) := by unfold flat; rw [List.map_map]; rfl
/-- append of a file, as a step of a region that draws its order. -/
theorem step_append_file {ops : Array Oper} {o : Oper} {a : Go.Act} {K : Go.Act → World → Prop} {Q : Exit → Go.Act → World → Prop} {E : Prop} (hgd : o.guard = none) (s x : Operand)
    (ho : o.op = .call { callee := .builtin .append, args := #[s, x], argTypes := #[ 56, 56 ] })
    {w wr : World} {L : List FileT} (t : FileT) {v : Value} (h : FRow w L v wr) (hs : a.eval s = v) (hx : a.eval x = .slice (some ⟨wr.heap.size, 0, none⟩) 1 1) (hlen : L.length ≤ 1000000)
    (hK : ∀ v' w3, FRow w (L ++ [t]) v' w3 → K (a.put o.dst v') w3) :
    if Region.wanted o (yielded ops a.tmps) = true then Oper.wp Tryd.prog o a (wr.alloc (.cells #[.int .i64 t.1, .string (bs t.2.1), .string (bs t.2.2)] 76)) K Q else E := by
  obtain ⟨i0, hi, hz0, hz1, hz2⟩ := info_parts infoFile
  have hle := h.2.size
  refine step_append_lies _ hgd s x 56 ho w.heap.size 76 i0 (.agg #[.int .i64 0, .string .empty, .string .empty]) 3 40 Tryd.underlying56 hi hz0 hz1 hz2 rfl (by decide) v L.length (fileCells L) hs (h.1.alloc _) ⟨wr.heap.size, 0, none⟩ 1 1 [.int .i64 t.1, .string (bs t.2.1), .string (bs t.2.2)] hx rfl (World.news_of_block (heap_alloc_new wr _)) ?_ (by decide) ?_ ?_ (by simp; omega) (wr.heap.size + 1) (by simp) ?_
  · intro u hu
    simp only [List.mem_cons, List.not_mem_nil, or_false] at hu
    rcases hu with rfl | rfl | rfl <;> rfl
  · unfold maxLen; omega
  · omega
  · intro g cap w3 h1 h2 _ _
    refine hK _ w3 ⟨?_, (h.2.alloc hle _).grown h2 (by simp; omega) (fun k hk => (h.1.lt k hk).1)⟩
    have e : fileCells (L ++ [t]) = fileCells L ++ [.int .i64 t.1, .string (bs t.2.1), .string (bs t.2.2)] := by simp [fileCells]
    rw [e, List.length_append]; exact h1
/-- Behind the loops: the files and the queue are replaced. -/
theorem crash_end {w w1 w3 : World} {r : Nat} {s : St} {q q1 : RP} {R : Files} (h1 : R0 w1 r { s with down := true, armed := 0, last := R } q1) (k1 : RStep w r q q1 w1) {v' : Value} (h3 : FRow w1 (flat q1.files) v' w3) :
    R0Turn w r q { now := R, last := R, pend := [], down := true, lost := s.lost, armed := 0, keep := [] } ((w3.setCell ⟨r, 0, none⟩ v').setCell ⟨r, 1, none⟩ (.slice none 0 0)) := by
  have t1 := files_end h1 h3.2 h3.1 R R (fun f => by rw [getF_flat, h1.rel f]) (by rw [flat_nums]; exact h1.nod) (fun x hx => by
    unfold flat at hx
    obtain ⟨y, hy, rfl⟩ := List.mem_map.1 hx
    exact h1.num y hy)
  refine R0Turn.step k1 (R0Turn.trans t1 (fun q2 h2 => ?_))
  have t2 := queue_end (P := []) h2 (v' := .slice none 0 0) (w3 := w3.setCell ⟨r, 0, none⟩ v') (World.ownsRow_nil _ _ _ _) (Chg.refl _ _) (fun k hk => by simp [Value.ownBlock] at hk)
  obtain ⟨q3, h4, k4⟩ := t2
  exact ⟨q3, ⟨h4.cells, h4.rowF, h4.rowQ, h4.rowK, h4.rel, h4.nod, h4.num, fun e => absurd rfl e, h4.kl⟩, k4⟩
set_option maxHeartbeats 16000000 in
theorem rcrash_any {w : World} {r : Nat} {s : St} {q : RP} (h : R0 w r s q) (hI : Inv s) (v : Value) (l : List Int) (hv : SrcAt w v l.length (intCells l)) (hb : l ≠ [] → ∀ b, v.ownBlock = some b → b < w.heap.size ∧ ¬ RW r q b) (hl : l.length ≤ 1000) :
    Calls Tryd.prog 18 #[.pointer (some ⟨r, 0, none⟩), v] w fun e w' => e = .returned (.tuple #[]) ∧ R0Turn w r q (s.crash l) w' := by
  have c3 := h.c3
  have f3 := h.fz 3
  have f4 := h.fz 4
  have c4 := h.c4
  by_cases hd : s.down = true
  · have FIN := Lib.hid (show R0Turn w r q (s.crash l) w by unfold St.crash; rw [if_pos hd]; exact R0Turn.refl h)
    rw [hd] at c3
    clear h hv hb c4 f3 f4
    go_enter Tryd.func18, Tryd.ntmps18
    go_wp2
    first | go_end0 | (simp only [Exit.inBlock, Exit.then]; refine bodyPost_ret (results_none rfl _ _ _) rfl ?_) | refine bodyPost_ret (results_none rfl _ _ _) rfl ?_
    exact ⟨rfl, FIN.out⟩
  have hd0 : s.down = false := by simpa using hd
  rw [hd0] at c3
  obtain ⟨av, cv, rfl⟩ : ∃ a c, v = .slice a l.length c := by
    rcases hv with ⟨⟨a, c, rfl⟩, e, _⟩ | ⟨b, o, c, rfl, _⟩
    · exact ⟨a, c, by rw [e]⟩
    · exact ⟨_, _, rfl⟩
  have S0 := Lib.hid (show R0Turn w r q { s with down := true, armed := 0, last := hardAll s.now (surv l) s.pend s.last 0 } ((w.setCell ⟨r, 3, none⟩ (.bool true)).setCell ⟨r, 4, none⟩ (.int .i64 0)) from
    (R0Turn.field h { s with down := true } 3 (.bool true) rfl rfl rfl rfl h.kp).trans (fun q1 h1 => R0Turn.field h1 { s with down := true, armed := 0 } 4 (.int .i64 0) rfl rfl rfl rfl (fun e => absurd rfl e)))
  have E : s.crash l = { now := hardAll s.now (surv l) s.pend s.last s.pend.length, last := hardAll s.now (surv l) s.pend s.last s.pend.length, pend := [], down := true, lost := s.lost, armed := 0, keep := [] } := by
    unfold St.crash; rw [if_neg (by simp [hd0])]
  have NL := Lib.hid (show l = [] → ∀ j, hardAll s.now (surv l) s.pend s.last j = hardAll s.now (surv l) s.pend s.last s.pend.length from fun e j => by rw [e, hardAll_nil, hardAll_nil])
  rw [E]
  have HV := Lib.hid hv
  have HB := Lib.hid hb
  have HI := Lib.hid hI
  have HSP := Lib.hid (pend_bound hI)
  have HL := Lib.hid hl
  clear E h hv hb hI hl hd
  go_enter Tryd.func18, Tryd.ntmps18
  go_wp2_with fail
  go_loopw [4] (fun i wr => ∃ j : Nat, j ≤ s.pend.length ∧ i = .int .i64 (j : Int) ∧ Hid (R0Turn w r q { s with down := true, armed := 0, last := hardAll s.now (surv l) s.pend s.last j } wr)) (fun i _ => s.pend.length - (intOf i).toNat)
  case atStart => exact ⟨0, Nat.zero_le _, rfl, S0⟩
  case round =>
    obtain ⟨j, hj, rfl, HT⟩ := hrel
    clear S0 c3 c4 f3 f4
    obtain ⟨q1, h1, k1⟩ := HT.out
    have H1 := Lib.hid h1
    have K1 := Lib.hid k1
    have c1 := h1.c1
    obtain ⟨ad, c, hv1, hcs⟩ := h1.formQ
    rw [hv1] at c1
    simp only at c1 hcs
    by_cases hgo : j < s.pend.length ∧ l ≠ []
    · obtain ⟨hlt, hl0⟩ := hgo
      obtain ⟨t, ht⟩ : ∃ t, s.pend[j]? = some t := ⟨_, List.getElem?_eq_getElem hlt⟩
      rcases hcs with e | ⟨b, off, rfl, hbq, hc⟩
      · rw [e] at hlt; simp at hlt
      obtain ⟨y0, y1⟩ := qCells_at s.pend j t ht
      have z0 := hc _ _ y0
      have z1 := hc _ _ y1
      rw [← Nat.add_assoc] at z1
      have g0 : (0 : Int) ≤ (j : Int) := by omega
      have g1 : (j : Int) < (s.pend.length : Int) := by omega
      have w1 : wrap64 ((j : Int) + 1) = (j : Int) + 1 := by have := HSP.out; unfold wrap64; omega
      have W1 := Lib.hid w1
      have MEAS := Lib.hid (show s.pend.length - (intOf (.int .i64 ((j : Int) + 1))).toNat < s.pend.length - (intOf (.int .i64 (j : Int))).toNat by simp [intOf]; omega)
      have FINISH := Lib.hid (show ∀ x, R0Turn w r q { s with down := true, armed := 0, last := hardAll s.now (surv l) s.pend s.last (j + 1) } x → ∃ j' : Nat, j' ≤ s.pend.length ∧ Value.int .i64 ((j : Int) + 1) = .int .i64 (j' : Int) ∧ Hid (R0Turn w r q { s with down := true, armed := 0, last := hardAll s.now (surv l) s.pend s.last j' } x) from fun x hx => ⟨j + 1, hlt, rfl, Lib.hid hx⟩)
      have hlp : 0 < l.length := List.length_pos_iff.2 hl0
      obtain ⟨k, hk⟩ : ∃ k, l[j % l.length]? = some k := ⟨_, List.getElem?_eq_getElem (Nat.mod_lt _ hlp)⟩
      have hsv := surv_at (j := j) hk
      rcases HV.out with ⟨_, e2, _⟩ | ⟨bk, o, ck, e, hcell⟩
      · omega
      simp at e
      obtain ⟨rfl, rfl⟩ := e
      have hkc := hcell (j % l.length) (.int .i64 k) (by simp [intCells, hk])
      obtain ⟨hbl, hbd⟩ := HB.out hl0 bk rfl
      have hkc1 : wr.cell? ⟨bk, o + j % l.length, none⟩ = some (.int .i64 k) := cell_kept k1.chg hkc hbd
      have hm : j % l.length < l.length := Nat.mod_lt _ hlp
      have hmod : Int.tmod (j : Int) (l.length : Int) = ((j % l.length : Nat) : Int) := by rw [Int.tmod_eq_emod_of_nonneg (by omega)]; rfl
      have g2 : (0 : Int) < (l.length : Int) := by omega
      have hstep : hardAll s.now (surv l) s.pend s.last (j + 1) = if surv l j then hard s.now t (hardAll s.now (surv l) s.pend s.last j) else hardAll s.now (surv l) s.pend s.last j := by rw [hardAll, ht]
      generalize j % l.length = m at *
      have g3 : (m : Int) < (l.length : Int) := by omega
      have g4 : (0 : Int) ≤ (m : Int) := by omega
      have ha := and1 k
      by_cases hodd : k.tmod 2 = 0
      · have q1' : (bits .and .i64 k 1 == 1) = false := by rw [ha, (odd_iff k).1 hodd]; rfl
        have SK := Lib.hid (FINISH.out wr (by rw [hstep, hsv, hodd]; exact HT.out))
        clear FINISH hc ht hlt hsv hk hkc hcell hm hl0 hlp hstep h1 k1 hbd hodd ha w1 hj y0 y1
        go_wp2
        go_roundw
        case rel => first | exact SK.out | (rw [W1.out]; exact SK.out)
        case measure => first | exact MEAS.out | (rw [W1.out]; exact MEAS.out)
      · have q1' : (bits .and .i64 k 1 == 1) = true := by
          have : ¬ k % 2 = 0 := fun e => hodd ((odd_iff k).2 e)
          rw [ha, beq_iff_eq]; omega
        have hsur : surv l j = true := by rw [hsv]; simp [hodd]
        have hin := HI.out.pf (List.mem_of_getElem? ht : (t.1, t.2) ∈ s.pend)
        have hpin := HI.out.pin t.1 t.2 (List.mem_of_getElem? ht)
        have hchr := hardAll_chr s.now (surv l) s.pend s.last HI.out.le HI.out.pin j
        have SV := Lib.hid (survive_any h1 t.1 t.2 hin hpin (HI.out.cap t.1) (Nat.le_trans (hchr.hi t.1) (HI.out.cap t.1)))
        have NX := Lib.hid (show ∀ x, R0Turn wr r q1 { s with down := true, armed := 0, last := hard s.now (t.1, t.2) (hardAll s.now (surv l) s.pend s.last j) } x → R0Turn w r q { s with down := true, armed := 0, last := hardAll s.now (surv l) s.pend s.last (j + 1) } x from fun x hx => by
          rw [hstep, if_pos hsur]
          exact R0Turn.step K1.out hx)
        clear hc ht hlt hsv hk hkc hcell hm hl0 hlp hstep h1 k1 hbd hodd ha w1 hj hin hpin hchr hsur y0 y1
        go_wp2_with (go_at_call 37; refine SV.out.mono ?_; rintro e w5 ⟨rfl, t5⟩; have N5 := Lib.hid (FINISH.out w5 (NX.out w5 t5)); clear t5 SV NX FINISH)
        go_roundw
        case rel => first | exact N5.out | (rw [W1.out]; exact N5.out)
        case measure => first | exact MEAS.out | (rw [W1.out]; exact MEAS.out)
    · have hR : hardAll s.now (surv l) s.pend s.last j = hardAll s.now (surv l) s.pend s.last s.pend.length := by
        by_cases hlt : j < s.pend.length
        · exact NL.out (Classical.byContradiction fun e => hgo ⟨hlt, e⟩) j
        · rw [show j = s.pend.length by omega]
      have gq : ¬ (j : Int) < (s.pend.length : Int) ∨ ((j : Int) < (s.pend.length : Int) ∧ l.length = 0) := by
        by_cases hlt : j < s.pend.length
        · exact .inr ⟨by omega, by rw [Classical.byContradiction fun e => hgo ⟨hlt, e⟩]; rfl⟩
        · exact .inl (by omega)
      rw [hR] at h1
      obtain ⟨R, hRR⟩ : ∃ R, R = hardAll s.now (surv l) s.pend s.last s.pend.length := ⟨_, rfl⟩
      rw [← hRR] at h1
      have HRR := Lib.hid hRR
      clear hRR
      have hfew := h1.few
      have c0 := h1.c0
      obtain ⟨af, cf, hvf, hfs⟩ := h1.form
      rw [hvf] at c0
      have FIN := Lib.hid (show ∀ v' w3, FRow wr (flat q1.files) v' w3 → R0Turn w r q { now := R, last := R, pend := [], down := true, lost := s.lost, armed := 0, keep := [] } ((w3.setCell ⟨r, 0, none⟩ v').setCell ⟨r, 1, none⟩ (.slice none 0 0)) from fun v' w3 h3 => crash_end h1 K1.out h3)
      have FZ := Lib.hid (show ∀ w3, Below wr.heap.size wr w3 → w3.frozen? ⟨r, 0, none⟩ = false ∧ w3.frozen? ⟨r, 1, none⟩ = false ∧ (∃ u, w3.cell? ⟨r, 0, none⟩ = some u) ∧ ∃ u, w3.cell? ⟨r, 1, none⟩ = some u from fun w3 hb => by
        have h2 := h1.below hb
        exact ⟨h2.fz 0, h2.fz 1, ⟨_, h2.c0⟩, _, h2.c1⟩)
      have HRW := Lib.hid (h1.lt (.inl rfl))
      have hrel1 := h1.rel
      have S1 := Lib.hid (show FRow wr [] (.slice none 0 0) wr from ⟨World.ownsRow_nil _ _ _ _, Below.refl _ _⟩)
      obtain ⟨L, hL⟩ : ∃ L, L = q1.files := ⟨_, rfl⟩
      rw [← hL] at hfs c0 FIN hfew
      have HC := Lib.hid hfs
      have C0 := Lib.hid c0
      clear hrel1 hfs hL hvf h1 k1 hR HT hv1 hcs hgo NL HV HB HI H1 K1 hj c0
      have gq2 : (¬ (j : Int) < (s.pend.length : Int)) ∨ ((j : Int) < (s.pend.length : Int) ∧ l.length = 0 ∧ ¬ (0 : Int) < (l.length : Int)) := gq.imp id (fun h => ⟨h.1, h.2, by omega⟩)
      have c0 := C0.out
      clear gq
      rcases gq2 with gq | ⟨gq, gl, gl2⟩
      all_goals
        go_wp2_with fail
        clear gq c0 c1
        try clear gl gl2
        rename World => wb
        go_loopw [5, 6] (fun v i wz => ∃ m : Nat, m ≤ L.length ∧ i = .int .i64 (m : Int) ∧ Hid (FRow wb (flat (L.take m)) v wz)) (fun _ i _ => L.length - (intOf i).toNat)
        case atStart => exact ⟨0, Nat.zero_le _, rfl, S1⟩
        case round =>
          obtain ⟨m, hm, rfl, HR⟩ := hrel
          have B := Lib.hid HR.out.2
          have c0 := (B.out.cell (p := ⟨r, 0, none⟩) HRW.out).trans C0.out
          by_cases hlt : m < L.length
          · obtain ⟨y, hy⟩ : ∃ y, L[m]? = some y := ⟨_, List.getElem?_eq_getElem hlt⟩
            rcases HC.out with e | ⟨b, off, rfl, hb, hc⟩
            · rw [e] at hlt; simp at hlt
            obtain ⟨y0, y1, y2⟩ := fileCells_at L m y hy
            have hk : ∀ i u, wb.cell? ⟨b, i, none⟩ = some u → wr.cell? ⟨b, i, none⟩ = some u := fun i u hu => (B.out.cell (p := ⟨b, i, none⟩) hb).trans hu
            have d0 : wr.drew.cell? ⟨r, 0, none⟩ = some (.slice (some ⟨b, off, none⟩) L.length cf) := c0
            have z0 : wr.drew.cell? ⟨b, off + m * 3, none⟩ = some (.int .i64 y.1) := by exact hk _ _ (hc _ _ y0)
            have z2 : wr.drew.cell? ⟨b, off + m * 3 + 2, none⟩ = some (.string (bs y.2.2)) := by rw [Nat.add_assoc]; exact hk _ _ (hc _ _ y2)
            have g0 : (0 : Int) ≤ (m : Int) := by omega
            have g1 : (m : Int) < (L.length : Int) := by omega
            have w1' : wrap64 ((m : Int) + 1) = (m : Int) + 1 := by unfold wrap64; omega
            have W1 := Lib.hid w1'
            have MEAS := Lib.hid (show L.length - (intOf (.int .i64 ((m : Int) + 1))).toNat < L.length - (intOf (.int .i64 (m : Int))).toNat by simp [intOf]; omega)
            have hts : flat (L.take (m + 1)) = flat (L.take m) ++ [(y.1, y.2.2, y.2.2)] := by
              rw [List.take_succ_eq_append_getElem hlt]
              unfold flat
              rw [List.map_append]
              congr 1
              rw [(List.getElem?_eq_some_iff.1 hy).2]; rfl
            have hlen : (flat (L.take m)).length ≤ 1000000 := by
              unfold flat
              rw [List.length_map, List.length_take]; omega
            have HLN := Lib.hid hlen
            have HRD0 := Lib.hid (show FRow wb (flat (L.take m)) u5 wr.drew from HR.out.drew)
            have NX := Lib.hid (show ∀ v' w3, FRow wb (flat (L.take m) ++ [(y.1, y.2.2, y.2.2)]) v' w3 → ∃ j' : Nat, j' ≤ L.length ∧ Value.int .i64 ((m : Int) + 1) = .int .i64 (j' : Int) ∧ Hid (FRow wb (flat (L.take j')) v' w3) from fun v' w3 h3 => ⟨m + 1, hlt, rfl, Lib.hid (by rw [hts]; exact h3)⟩)
            have KP := Lib.hid (show ∀ v' w3, FRow wb (flat (L.take m) ++ [(y.1, y.2.2, y.2.2)]) v' w3 → w3.cell? ⟨r, 0, none⟩ = some (.slice (some ⟨b, off, none⟩) L.length cf) ∧ w3.cell? ⟨b, off + m * 3, none⟩ = some (.int .i64 y.1) ∧ w3.cell? ⟨b, off + m * 3 + 2, none⟩ = some (.string (bs y.2.2)) from fun v' w3 h3 => ⟨(h3.2.cell (p := ⟨r, 0, none⟩) HRW.out).trans C0.out, (h3.2.cell (p := ⟨b, off + m * 3, none⟩) hb).trans (hc _ _ y0), by rw [Nat.add_assoc]; exact (h3.2.cell (p := ⟨b, off + (m * 3 + 2), none⟩) hb).trans (hc _ _ y2)⟩)
            clear hc hy hlt hm w1' y0 y1 y2 hts hlen hk FIN FZ
            go_wp2
            clear B HR
            go_region_held3 (fun w' => w'.cell? ⟨r, 0, none⟩ = some (.slice (some ⟨b, off, none⟩) L.length cf) ∧ w'.cell? ⟨b, off + m * 3, none⟩ = some (.int .i64 y.1) ∧ w'.cell? ⟨b, off + m * 3 + 2, none⟩ = some (.string (bs y.2.2))) (first | exact ⟨d0, z0, z2⟩ | exact ⟨Lib.cell?_alloc_some _ d0, Lib.cell?_alloc_some _ z0, Lib.cell?_alloc_some _ z2⟩ | exact e3) (first | (refine step_append_file (by rfl) _ _ (by rfl) ((y.1, y.2.2, y.2.2) : FileT) HRD0.out (by rfl) (by rfl) HLN.out ?_; intro v' w3 h3; have e3 := KP.out v' w3 h3; have N3 := Lib.hid (NX.out v' w3 h3); clear h3))
            all_goals
              go_wp2
              go_roundw
              case rel => first | exact N3.out | (rw [W1.out]; exact N3.out)
              case measure => first | exact MEAS.out | (rw [W1.out]; exact MEAS.out)
          · have g1 : ¬ (m : Int) < (L.length : Int) := by omega
            have hr1 : FRow wb (flat L) u5 wr := by
              have h1 := HR.out
              rw [List.take_of_length_le (by omega)] at h1
              exact h1
            obtain ⟨a3, c3, hv3⟩ := row_form hr1.1
            obtain ⟨fz0, fz1, ⟨u0, cz0⟩, u1, cz1⟩ := FZ.out wr B.out
            have N3 := Lib.hid (FIN.out _ _ hr1)
            generalize (List.length _) = n3 at hv3
            subst hv3
            clear hlt hm HR hr1 FIN FZ
            go_wp2
            go_end0
            exact ⟨rfl, by have h9 := N3.out; rw [HRR.out] at h9; exact h9⟩
end Go.Proofs.YtdejajpmebgidaaDoor
