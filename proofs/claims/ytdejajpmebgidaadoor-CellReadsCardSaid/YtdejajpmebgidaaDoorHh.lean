/-
  THE REFERENCE OF LAYER 3: add.
-/
import Derived.Test.YtdejajpmebgidaaDoorHg
namespace Go.Proofs.YtdejajpmebgidaaDoor
open Go.RowKit Go.Maps WireM DiskM
set_option linter.unusedVariables false
set_option linter.unusedSimpArgs false
set_option maxRecDepth 100000

theorem infoSec : (Tryd.prog.info? 74).map (fun i => (i.zero, i.size, i.bytes)) = some (some (.agg #[.int .i64 0, .int .i64 0]), 2, 16) := by kernel_rfl
theorem own_new {v' v : Value} {n : Nat} (h : v'.ownBlock = v.ownBlock ∨ ∃ k, v'.ownBlock = some k ∧ n ≤ k) : ∀ k, v'.ownBlock = some k → v.ownBlock = some k ∨ n ≤ k := fun k hk => by
  rcases h with h | ⟨k2, h, h2⟩
  · exact .inl (h ▸ hk)
  · rw [h] at hk; cases hk; exact .inr h2
/-- The field Queue has turned. -/
theorem queue_end {w w3 : World} {r : Nat} {s : St} {q : RP} (h : R0 w r s q) {v' : Value} {P : List Sec} (hr : w3.ownsRow 0 74 2 v' P.length (secCells P)) (hc : Chg (fun b => q.vQ.ownBlock = some b) w w3) (hl : ∀ k, v'.ownBlock = some k → q.vQ.ownBlock = some k ∨ w.heap.size ≤ k) : R0Turn w r q { s with pend := P } (w3.setCell ⟨r, 1, none⟩ v') := by
  have hrl := h.lt (.inl rfl)
  have hrne : ¬ q.vQ.ownBlock = some r := fun e => by have := h.tQ e; rw [h.tr] at this; simp at this
  have hkr := hc.block r hrl hrne
  have hw3r : w3.heap[r]? = some (.cells (rcells q s) 59 (0, 0)) := hkr.trans h.cells
  have htag : tagOf w3 r = some (.cells 59) := by simp [tagOf, hw3r]
  have hset : ∀ b, b ≠ r → (w3.setCell ⟨r, 1, none⟩ v').heap[b]? = w3.heap[b]? := fun b hb => Below.heap_setCell _ _ _ _ hb
  have hrow3 : ∀ {e : TypeId} {size n : Nat} {x : Value} {xs : List Value}, w3.ownsRow 0 e size x n xs → e ≠ 59 → (w3.setCell ⟨r, 1, none⟩ v').ownsRow 0 e size x n xs := fun hrow hne =>
    row_block hrow (fun k' hk => hset k' (fun e => by
      have t1 := tag_row hrow hk
      rw [e, htag] at t1
      simp at t1
      exact hne t1.symm))
  have hrow : ∀ {e : TypeId} {size n : Nat} {x : Value} {xs : List Value}, w.ownsRow 0 e size x n xs → e ≠ 74 → (∀ k, x.ownBlock = some k → k < w.heap.size) → w3.ownsRow 0 e size x n xs := fun hrow hne hlt =>
    row_block hrow (fun k' hk => hc.block k' (hlt k' hk) (fun e => by
      have t1 := tag_row hrow hk
      have t2 := h.tQ e
      rw [t1] at t2
      simp at t2
      exact hne t2))
  refine ⟨{ q with vQ := v' }, ⟨?_, hrow3 (hrow h.rowF (by decide) (fun k hk => h.lt (.inr (.inl hk)))) (by decide), hrow3 hr (by decide), hrow3 (hrow h.rowK (by decide) (fun k hk => h.lt (.inr (.inr (.inr hk))))) (by decide), h.rel, h.nod, h.num, h.kp, h.kl⟩, fun b hb' => ?_, fun b hb' => ?_, rfl, rfl, ?_⟩
  · show _ = some (Obj.cells ((rcells q s).setIfInBounds 1 v') _ (0, 0))
    simp [World.setCell, Array.getElem?_modify, hw3r]
  · rcases hb' with rfl | e | e | e
    · exact .inl (.inl rfl)
    · exact .inl (.inr (.inl e))
    · rcases hl b e with h1 | h2
      · exact .inl (.inr (.inr (.inl h1)))
      · exact .inr h2
    · exact .inl (.inr (.inr (.inr e)))
  · rcases hb' with rfl | e
    · exact .inl (.inl rfl)
    · rcases hl b e with h1 | h2
      · exact .inl (.inr h1)
      · exact .inr h2
  · exact (hc.mono (fun i _ hi => .inr hi)).trans (Chg.set (S := fun b => b = r) w3 1 v' (.inl rfl)) (fun i hi => .inl (by rw [hi]; exact .inl rfl))
theorem append_qsec {ops : Array Oper} {rest : List Oper} {o : Oper} {a : Act} {Q : Exit → Act → World → Prop} (hgd : o.guard = none) (s x : Operand)
    (ho : o.op = .call { callee := .builtin .append, args := #[s, x], argTypes := #[ 57, 57 ] })
    {wr : World} {P : List Sec} (f : Int) (n : Nat) (N : Int) (hN : N = (n : Int)) {v : Value} {base : Nat} (hbs : base ≤ wr.heap.size) (h : wr.ownsRow base 74 2 v P.length (secCells P)) (hs : a.eval s = v) (hx : a.eval x = .slice (some ⟨wr.heap.size, 0, none⟩) 1 1) (hlen : P.length ≤ 1099511627776)
    (W : World) (hW : wr.alloc (.cells #[.int .i64 f, .int .i64 N] 74) = W)
    (hK : ∀ g cap m w3, m = P.length + 1 → w3.ownsRow base 74 2 (.slice (some ⟨g, 0, none⟩) m cap) (P ++ [(f, n)]).length (secCells (P ++ [(f, n)])) → Chg (fun b => v.ownBlock = some b) wr w3 → ((Value.slice (some ⟨g, 0, none⟩) m cap).ownBlock = v.ownBlock ∨ ∃ k, (Value.slice (some ⟨g, 0, none⟩) m cap).ownBlock = some k ∧ wr.heap.size ≤ k) → wpList Tryd.prog ops Q rest (a.put o.dst (.slice (some ⟨g, 0, none⟩) m cap)) w3) : wpList Tryd.prog ops Q (o :: rest) a W := by
  subst hW; subst hN
  obtain ⟨i0, hi, hz0, hz1, hz2⟩ := info_parts infoSec
  refine wpList_append_lies _ hgd s x 57 ho base 74 i0 (.agg #[.int .i64 0, .int .i64 0]) 2 16 Tryd.underlying57 hi hz0 hz1 hz2 rfl (by decide) v P.length (secCells P) hs (h.alloc _) ⟨wr.heap.size, 0, none⟩ 1 1 [.int .i64 f, .int .i64 (n : Int)] hx rfl (World.news_of_block (heap_alloc_new wr _)) ?_ (by decide) ?_ ?_ (by simp; omega) (wr.heap.size + 1) (by simp) ?_
  · intro u hu
    simp at hu
    rcases hu with rfl | rfl <;> rfl
  · unfold maxLen; omega
  · omega
  · intro g cap w3 h1 h2 h3 _
    refine hK g cap _ w3 rfl ?_ ((Chg.alloc wr _).trans (Chg.of_grown (S := fun b => v.ownBlock = some b) h2 (fun k hk => .inl hk)) (fun i hi => .inl hi)) (h3.imp (fun e => e.symm) (fun e => ⟨g, rfl, by omega⟩))
    rw [List.length_append, secCells_snoc]; exact h1
theorem file_kept {W w2 : World} {z : Nat} {x y v : Value} (hz : W.heap[z]? = some (.cells #[x, y, v] 76 (0, 0))) (hb : Below W.heap.size W w2) :
    w2.cell? ⟨z, 0, none⟩ = some x ∧ w2.cell? ⟨z, 1, none⟩ = some y ∧ w2.cell? ⟨z, 2, none⟩ = some v ∧ (∀ i, w2.frozen? ⟨z, i, none⟩ = false) ∧ w2.heap[z]? = some (.cells #[x, y, v] 76 (0, 0)) := by
  have hlt : z < W.heap.size := (Array.getElem?_eq_some_iff.1 hz).1
  have h2 := (hb.block z hlt).trans hz
  exact ⟨by rw [Lib.cell_of_heap h2]; rfl, by rw [Lib.cell_of_heap h2]; rfl, by rw [Lib.cell_of_heap h2]; rfl, fun i => Lib.frozen_of_heap h2 i, h2⟩
theorem file_set {W : World} {z : Nat} {x y v : Value} (hz : W.heap[z]? = some (.cells #[x, y, v] 76 (0, 0))) (u : Value) :
    (W.setCell ⟨z, 1, none⟩ u).heap[z]? = some (.cells #[x, u, v] 76 (0, 0)) := by
  simp [World.setCell, Array.getElem?_modify, hz]
theorem addp_len (pend : List Sec) (f : Int) (a : Nat) : ∀ k, (addp pend f a k).length ≤ pend.length + k
  | 0 => Nat.le_refl _
  | k + 1 => by
    have := addp_len pend f a k
    rw [addp]
    split
    · omega
    · rw [List.length_append, List.length_singleton]; omega
theorem cast_next (F j : Nat) : (F : Int) + (j : Int) + 1 = (F : Int) + ((j + 1 : Nat) : Int) := by omega
theorem meas_from (F : Nat) {K j : Nat} (h : j < K) : F + K - (intOf (.int .i64 ((F : Int) + (j : Int) + 1))).toNat < F + K - (intOf (.int .i64 ((F : Int) + (j : Int)))).toNat := by
  simp only [intOf]; omega
theorem addp_small {pend : List Sec} (f : Int) (a : Nat) {k : Nat} (h : pend.length ≤ 4194304) (hk : k ≤ 262145) : (addp pend f a k).length ≤ 1099511627776 := Nat.le_trans (addp_len pend f a k) (Nat.le_trans (Nat.add_le_add h hk) (by decide))
set_option maxHeartbeats 8000000 in
theorem radd_any {w : World} {r : Nat} {s : St} {q : RP} (h : R0 w r s q) (f : Int) (hf : isF f) (a : Nat) (t : ByteArray) (ht : t.data.toList ≠ []) (hcap : a + t.size ≤ 16777216) (hN : (s.now f).length ≤ 16777216) (hp : s.pend.length ≤ 4194304) :
    Calls Tryd.prog 49 #[.pointer (some ⟨r, 0, none⟩), .int .i64 f, .int .i64 (a : Int), .string t] w fun e w' => e = .returned (.tuple #[]) ∧ R0Turn w r q (s.add f a t.data.toList) w' := by
  have hne : t.toList.isEmpty = false := by
    rw [Lib.toList_data]
    cases hq : t.data.toList with
    | nil => exact absurd hq ht
    | cons a r => rfl
  have htp : 0 < t.size := by
    rcases Nat.eq_zero_or_pos t.size with e | e
    · exact absurd (List.eq_nil_of_length_eq_zero (show t.data.toList.length = 0 from e)) ht
    · exact e
  have hput : putN (s.now f) a t.data.toList = put (s.now f) a t.data.toList := by unfold putN; rw [if_neg ht]
  have GET := Lib.hid (get_any h f)
  have PUT := Lib.hid (fun W => rPut_any (bs (s.now f)) t a W hN hcap)
  have e1 : (bs (s.now f)).data.toList = s.now f := rfl
  rw [e1, hput] at PUT
  have SET := Lib.hid (fun W (hb : Below w.heap.size w W) => set_any (h.below hb) f (put (s.now f) a t.data.toList) (s.last f) hf)
  have ST := Lib.hid (show ∀ W w', Below w.heap.size w W → R0Turn W r q { s with now := upd s.now f (put (s.now f) a t.data.toList), last := upd s.last f (s.last f) } w' → R0Turn w r q { s with now := upd s.now f (put (s.now f) a t.data.toList), pend := addp s.pend f (a / 64) 0 } w' from fun W w' hb ht => by
    rw [upd_self] at ht
    exact R0Turn.step (RStep.below hb) ht)
  have HADD := Lib.hid (show ∀ x, R0Turn w r q { s with now := upd s.now f (put (s.now f) a t.data.toList), pend := addp s.pend f (a / 64) ((a + t.size - 1) / 64 + 1 - a / 64) } x → R0Turn w r q (s.add f a t.data.toList) x from fun x hx => hx)
  have HP := Lib.hid hp
  have HR := Lib.hid h
  have d1 : Int.tdiv (a : Int) 64 = ((a / 64 : Nat) : Int) := by rw [Int.tdiv_eq_ediv_of_nonneg (by omega)]; omega
  have g2 : wrap64 ((a : Int) + (t.size : Int)) = (a : Int) + (t.size : Int) := by unfold wrap64; omega
  have g3 : wrap64 ((a : Int) + (t.size : Int) - 1) = (a : Int) + (t.size : Int) - 1 := by unfold wrap64; omega
  have d2 : Int.tdiv ((a : Int) + (t.size : Int) - 1) 64 = (((a + t.size - 1) / 64 : Nat) : Int) := by rw [Int.tdiv_eq_ediv_of_nonneg (by omega)]; omega
  have D2 := Lib.hid d2
  have hk : a / 64 ≤ (a + t.size - 1) / 64 := by omega
  have hkb : (a + t.size - 1) / 64 ≤ 262144 := by omega
  generalize s.now f = NW at *
  generalize s.last f = LS at *
  generalize put NW a t.data.toList = PW at *
  generalize (a + t.size - 1) / 64 = LA at *
  generalize a / 64 = FI at *
  clear h hp hN ht hf e1 hput
  go_enter Tryd.func49, Tryd.ntmps49
  go_wp2_with (first
    | (go_at_call 42; refine GET.out.mono ?_; rintro e w1 ⟨rfl, b1⟩; have B1 := Lib.hid b1; clear b1 GET)
    | (go_at_call 53; refine (PUT.out _).mono ?_; rintro e w2 ⟨rfl, b2⟩; obtain ⟨z0, z1, z2, zf, zh⟩ := file_kept (heap_alloc_new w1 _) b2; have zf1 := zf 1; clear PUT)
    | (go_at_call 54; have BB := ((B1.out.alloc B1.out.size _).trans (b2.mono (by simp; have := B1.out.size; omega))).setCell (p := ⟨w1.heap.size, 1, none⟩) B1.out.size (.string (bs PW)); refine (SET.out _ BB).mono ?_; rintro e w4 ⟨rfl, t4⟩; have A4 := Lib.hid (ST.out _ w4 BB t4); clear t4 BB SET ST b2 z0 z1 z2 zf zh zf1))
  have HKK := Lib.hid (show FI ≤ LA ∧ LA ≤ 262144 from ⟨hk, hkb⟩)
  obtain ⟨K, hK⟩ : ∃ K, LA + 1 - FI = K := ⟨_, rfl⟩
  have HK := Lib.hid (show LA + 1 = FI + K by omega)
  have hkk2 : K ≤ 262145 := by omega
  rw [hK] at HADD
  clear hK
  have wLA : wrap64 (LA : Int) = (LA : Int) := by unfold wrap64; omega
  clear hk hkb hcap htp hne d1
  go_loopw [9] (fun i wr => ∃ j : Nat, j ≤ K ∧ i = .int .i64 ((FI : Int) + (j : Int)) ∧ Hid (R0Turn w r q { s with now := upd s.now f PW, pend := addp s.pend f FI j } wr)) (fun i _ => FI + K - (intOf i).toNat)
  case atStart => exact ⟨0, Nat.zero_le _, by simp, A4⟩
  case round =>
    obtain ⟨j, hj, rfl, HT⟩ := hrel
    by_cases hlt : j < K
    · obtain ⟨q1, h1, k1⟩ := HT.out
      have HLEN := Lib.hid (addp_small f FI HP.out (Nat.le_trans hj hkk2))
      have PEN := Lib.hid (pending_any h1 HLEN.out f (FI + j))
      have cast : ((FI + j : Nat) : Int) = (FI : Int) + (j : Int) := by omega
      rw [cast] at PEN
      have g1 : (FI : Int) + (j : Int) ≤ (LA : Int) := by have := HK.out; omega
      have w1' : wrap64 ((FI : Int) + (j : Int) + 1) = (FI : Int) + (j : Int) + 1 := by have := HKK.out; unfold wrap64; omega
      have W1 := Lib.hid w1'
      have MEAS := Lib.hid (meas_from FI hlt)
      have NX := Lib.hid (show ∀ x, R0Turn w r q { s with now := upd s.now f PW, pend := addp s.pend f FI (j + 1) } x → ∃ j' : Nat, j' ≤ K ∧ Value.int .i64 ((FI : Int) + (j : Int) + 1) = .int .i64 ((FI : Int) + (j' : Int)) ∧ Hid (R0Turn w r q { s with now := upd s.now f PW, pend := addp s.pend f FI j' } x) from fun x hx => ⟨j + 1, hlt, by rw [cast_next], Lib.hid hx⟩)
      by_cases hm : (f, FI + j) ∈ addp s.pend f FI j
      · have E : addp s.pend f FI (j + 1) = addp s.pend f FI j := by rw [addp, if_pos hm]
        rw [E] at NX
        have N2 := Lib.hid (NX.out _ HT.out)
        simp only [show decide ((f, FI + j) ∈ addp s.pend f FI j) = true from decide_eq_true hm] at PEN
        clear h1 k1 hm E cast hlt hj w1' NX HT
        go_wp2_with (go_at_call 57; refine PEN.out.mono ?_; rintro e w5 ⟨rfl, rfl⟩; clear PEN)
        go_roundw
        case rel => first | exact N2.out | (rw [W1.out]; exact N2.out)
        case measure => first | exact MEAS.out | (rw [W1.out]; exact MEAS.out)
      · have E : addp s.pend f FI (j + 1) = addp s.pend f FI j ++ [(f, FI + j)] := by rw [addp, if_neg hm]
        rw [E] at NX
        have NX2 := Lib.hid (show ∀ v' w3, w3.ownsRow 0 74 2 v' (addp s.pend f FI j ++ [(f, FI + j)]).length (secCells (addp s.pend f FI j ++ [(f, FI + j)])) → Chg (fun b => q1.vQ.ownBlock = some b) wr w3 → (v'.ownBlock = q1.vQ.ownBlock ∨ ∃ k, v'.ownBlock = some k ∧ wr.heap.size ≤ k) → Hid (R0Turn w r q { s with now := upd s.now f PW, pend := addp s.pend f FI j ++ [(f, FI + j)] } (w3.setCell ⟨r, 1, none⟩ v')) from fun v' w3 x1 x2 x3 => Lib.hid (R0Turn.step k1 (queue_end h1 x1 x2 (own_new x3))))
        simp only [show decide ((f, FI + j) ∈ addp s.pend f FI j) = false from decide_eq_false hm] at PEN
        have c1 := h1.c1
        have HROW := Lib.hid h1.rowQ
        have FR := Lib.hid (show ∀ w3, Chg (fun b => q1.vQ.ownBlock = some b) wr w3 → w3.frozen? ⟨r, 1, none⟩ = false ∧ ∃ u, w3.cell? ⟨r, 1, none⟩ = some u from fun w3 x2 => by
          have hne : ¬ q1.vQ.ownBlock = some r := fun e => by have := h1.tQ e; rw [h1.tr] at this; simp at this
          have hb := x2.block r (h1.lt (.inl rfl)) hne
          have hc : w3.heap[r]? = some (.cells (rcells q1 _) 59 (0, 0)) := hb.trans h1.cells
          exact ⟨Lib.frozen_of_heap hc 1, _, by rw [Lib.cell_of_heap hc]; rfl⟩)
        obtain ⟨av, cv, hv⟩ := row_form h1.rowQ
        rw [hv] at c1 HROW NX2 FR
        simp only at c1 HROW
        generalize (addp s.pend f FI j) = PJ at *
        generalize hPL : PJ.length = PL at c1
        have HPL := Lib.hid hPL
        clear h1 k1 hm E cast hlt hj w1' HT hv hPL
        go_wp2_with (first
          | (go_at_call 57; refine PEN.out.mono ?_; rintro e w5 ⟨rfl, rfl⟩; clear PEN)
          | (at_builtin; go_loud (refine append_qsec rfl _ _ rfl f (FI + j) _ (by omega) (Nat.zero_le _) HROW.out (by rw [HPL.out]; rfl) rfl HLEN.out _ rfl ?_; intro g cap m w3 hm; clear hm; intro x1 x2 x3; obtain ⟨fz3, u3, cz3⟩ := FR.out w3 x2; have N3 := Lib.hid (NX2.out _ w3 x1 x2 x3).out; clear x1 x2 x3 NX2 FR)))
        go_roundw
        case rel => first | exact NX.out _ N3.out | (rw [W1.out]; exact NX.out _ N3.out)
        case measure => first | exact MEAS.out | (rw [W1.out]; exact MEAS.out)
    · have g1 : ¬ (FI : Int) + (j : Int) ≤ (LA : Int) := by have := HK.out; omega
      have hjk : j = K := by omega
      subst hjk
      clear hlt hj
      go_wp2
      go_end0
      exact ⟨rfl, HADD.out _ HT.out⟩
end Go.Proofs.YtdejajpmebgidaaDoor
