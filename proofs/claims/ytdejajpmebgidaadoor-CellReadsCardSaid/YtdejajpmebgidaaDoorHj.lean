/-
  THE REFERENCE OF LAYER 3: settle.
-/
import Derived.Test.YtdejajpmebgidaaDoorHi
namespace Go.Proofs.YtdejajpmebgidaaDoor
open Go.RowKit Go.Maps WireM DiskM
set_option linter.unusedVariables false
set_option linter.unusedSimpArgs false
set_option maxRecDepth 100000

/-- A slice of sectors that the call itself has made. -/
def QRow (w : World) (L : List Sec) (v : Value) (wr : World) : Prop := wr.ownsRow w.heap.size 74 2 v L.length (secCells L) ∧ Below w.heap.size w wr
theorem QRow.next {w wr w3 : World} {L M : List Sec} {v v' : Value} (h : QRow w L v wr) (hr : w3.ownsRow w.heap.size 74 2 v' M.length (secCells M)) (hc : Chg (fun b => v.ownBlock = some b) wr w3) : QRow w M v' w3 :=
  ⟨hr, h.2.trans (hc.below h.2.size (fun k hk hv => by have := (h.1.lt k hv).1; omega))⟩
theorem R0.formQ {w : World} {r : Nat} {s : St} {q : RP} (h : R0 w r s q) : ∃ ad c, q.vQ = .slice ad s.pend.length c ∧ (s.pend = [] ∨ ∃ b off, ad = some ⟨b, off, none⟩ ∧ b < w.heap.size ∧ ∀ j u, (secCells s.pend)[j]? = some u → w.cell? ⟨b, off + j, none⟩ = some u) := by
  rcases srcAt_row h.rowQ with ⟨⟨a, c, hv⟩, h0, h1⟩ | ⟨b, off, c, hv, hc⟩
  · exact ⟨a, c, by rw [h0]; exact hv, .inl (List.eq_nil_of_length_eq_zero h0)⟩
  · exact ⟨some ⟨b, off, none⟩, c, hv, .inr ⟨b, off, rfl, h.lt (.inr (.inr (.inl (by rw [hv]; rfl)))), hc⟩⟩
set_option maxHeartbeats 8000000 in
theorem settle_any {w : World} {r : Nat} {s : St} {q : RP} (h : R0 w r s q) (f : Int) (N : List UInt8) (hf : isF f) (hp : s.pend.length ≤ 4194304) :
    Calls Tryd.prog 52 #[.pointer (some ⟨r, 0, none⟩), .int .i64 f, .string (bs N)] w fun e w' => e = .returned (.tuple #[]) ∧ R0Turn w r q { s with now := upd s.now f N, last := upd s.last f N, pend := s.pend.filter (fun x => decide (x.1 ≠ f)) } w' := by
  have SET := Lib.hid (set_any h f N N hf)
  have HP := Lib.hid hp
  clear h hp hf
  go_enter Tryd.func52, Tryd.ntmps52
  go_wp2_with (go_at_call 54; refine SET.out.mono ?_; rintro e w1 ⟨rfl, t1⟩; obtain ⟨q1, h1, k1⟩ := t1; have H1 := Lib.hid h1; have K1 := Lib.hid k1; have c1 := h1.c1; have hrw := h1.lt (.inl rfl); obtain ⟨ad, c, hv, hcs⟩ := h1.formQ; rw [hv] at c1; clear h1 k1 SET)
  have hL0 : ({ s with now := upd s.now f N, last := upd s.last f N } : St).pend = s.pend := rfl
  try simp only at hcs c1
  have FIN := Lib.hid (show ∀ v' w3, QRow w1 (s.pend.filter (fun x => decide (x.1 ≠ f))) v' w3 → R0Turn w r q { s with now := upd s.now f N, last := upd s.last f N, pend := s.pend.filter (fun x => decide (x.1 ≠ f)) } (w3.setCell ⟨r, 1, none⟩ v') from fun v' w3 h3 =>
    R0Turn.step K1.out (queue_end H1.out (row_base h3.1) (Chg.of_below h3.2) (fun k hk => .inr (h3.1.lt k hk).1)))
  have FZ := Lib.hid (show ∀ v' w3, QRow w1 (s.pend.filter (fun x => decide (x.1 ≠ f))) v' w3 → w3.frozen? ⟨r, 1, none⟩ = false ∧ ∃ u, w3.cell? ⟨r, 1, none⟩ = some u from fun v' w3 h3 => by
    have h2 := H1.out.below h3.2
    exact ⟨h2.fz 1, _, h2.c1⟩)
  have S0 := Lib.hid (show QRow w1 [] (.slice none 0 0) w1 from ⟨World.ownsRow_nil _ _ _ _, Below.refl _ _⟩)
  obtain ⟨L, hL⟩ : ∃ L, L = s.pend := ⟨_, rfl⟩
  rw [← hL] at hcs c1 FIN FZ
  have HPL := Lib.hid (show L.length ≤ 4194304 by rw [hL]; exact HP.out)
  have HLQ := Lib.hid hL
  have HC := Lib.hid hcs
  have HRW := Lib.hid hrw
  have C1 := Lib.hid c1
  clear hL hL0 hcs hv hrw H1 K1 HP c1
  go_loopw [6, 7] (fun v i wr => ∃ j : Nat, j ≤ L.length ∧ i = .int .i64 (j : Int) ∧ Hid (QRow w1 ((L.take j).filter (fun y => decide (y.1 ≠ f))) v wr)) (fun _ i _ => L.length - (intOf i).toNat)
  case atStart => exact ⟨0, Nat.zero_le _, rfl, S0⟩
  case round =>
    obtain ⟨j, hj, rfl, HR⟩ := hrel
    have B := Lib.hid HR.out.2
    have c1 := (B.out.cell (p := ⟨r, 1, none⟩) HRW.out).trans C1.out
    by_cases hlt : j < L.length
    · obtain ⟨y, hy⟩ : ∃ y, L[j]? = some y := ⟨_, List.getElem?_eq_getElem hlt⟩
      rcases HC.out with e | ⟨b, off, rfl, hb, hc⟩
      · rw [e] at hlt; simp at hlt
      obtain ⟨y0, y1⟩ := qCells_at L j y hy
      have hk : ∀ i u, w1.cell? ⟨b, i, none⟩ = some u → wr.cell? ⟨b, i, none⟩ = some u := fun i u hu => (B.out.cell (p := ⟨b, i, none⟩) hb).trans hu
      have z0 := hk _ _ (hc _ _ y0)
      have z1 := hk _ _ (hc _ _ y1)
      rw [← Nat.add_assoc] at z1
      have g0 : (0 : Int) ≤ (j : Int) := by omega
      have g1 : (j : Int) < (L.length : Int) := by omega
      have w1' : wrap64 ((j : Int) + 1) = (j : Int) + 1 := by have := HPL.out; unfold wrap64; omega
      have W1 := Lib.hid w1'
      have MEAS := Lib.hid (show L.length - (intOf (.int .i64 ((j : Int) + 1))).toNat < L.length - (intOf (.int .i64 (j : Int))).toNat by simp [intOf]; omega)
      have hts : L.take (j + 1) = L.take j ++ [y] := by
        rw [List.take_succ_eq_append_getElem hlt]
        congr 2
        exact (List.getElem?_eq_some_iff.1 hy).2
      have HLN := Lib.hid (show ((L.take j).filter (fun y => decide (y.1 ≠ f))).length ≤ 1099511627776 from Nat.le_trans (List.length_filter_le _ _) (Nat.le_trans (by rw [List.length_take]; exact Nat.min_le_right _ _) (Nat.le_trans HPL.out (by decide))))
      by_cases hf : y.1 = f
      · have q1 : (y.1 != f) = false := by simp [hf]
        have NX := Lib.hid (show ∃ j' : Nat, j' ≤ L.length ∧ Value.int .i64 ((j : Int) + 1) = .int .i64 (j' : Int) ∧ Hid (QRow w1 ((L.take j').filter (fun y => decide (y.1 ≠ f))) u6 wr) from ⟨j + 1, hlt, rfl, Lib.hid (by
          rw [hts, List.filter_append, List.filter_cons_of_neg (by simp [hf]), List.filter_nil, List.append_nil]
          exact HR.out)⟩)
        clear hc hy hlt hj w1' y0 y1 HR hts hk hf
        go_wp2
        go_roundw
        case rel => first | exact NX.out | (rw [W1.out]; exact NX.out)
        case measure => first | exact MEAS.out | (rw [W1.out]; exact MEAS.out)
      · have q1 : (y.1 != f) = true := by simp [hf]
        have NX := Lib.hid (show ∀ v' w3, QRow w1 (((L.take j).filter (fun y => decide (y.1 ≠ f))) ++ [y]) v' w3 → ∃ j' : Nat, j' ≤ L.length ∧ Value.int .i64 ((j : Int) + 1) = .int .i64 (j' : Int) ∧ Hid (QRow w1 ((L.take j').filter (fun y => decide (y.1 ≠ f))) v' w3) from fun v' w3 h3 => ⟨j + 1, hlt, rfl, Lib.hid (by
          rw [hts, List.filter_append, List.filter_cons_of_pos (by simpa using hf), List.filter_nil]
          exact h3)⟩)
        clear hc hy hlt hj w1' y0 y1 hts hk hf
        go_wp2_with (at_builtin; go_loud (refine append_qsec rfl _ _ rfl y.1 y.2 _ rfl B.out.size HR.out.1 rfl rfl HLN.out _ rfl ?_; intro g cap m w3 hm; clear hm; intro x1 x2 x3; have N3 := Lib.hid (NX.out _ w3 (HR.out.next x1 x2)); clear x1 x2 x3 NX))
        go_roundw
        case rel => first | exact N3.out | (rw [W1.out]; exact N3.out)
        case measure => first | exact MEAS.out | (rw [W1.out]; exact MEAS.out)
    · have g1 : ¬ (j : Int) < (L.length : Int) := by omega
      have hr1 : QRow w1 (L.filter (fun y => decide (y.1 ≠ f))) u6 wr := by
        have h1 := HR.out
        rw [List.take_of_length_le (by omega)] at h1
        exact h1
      obtain ⟨a3, c3, hv3⟩ := row_form hr1.1
      obtain ⟨fz3, u3, cz3⟩ := FZ.out _ _ hr1
      have N3 := Lib.hid (FIN.out _ _ hr1)
      generalize (List.length _) = n3 at hv3
      subst hv3
      clear hlt hj HR hr1 FIN FZ
      go_wp2
      go_end0
      exact ⟨rfl, by have h9 := N3.out; rw [HLQ.out] at h9; simpa using h9⟩
end Go.Proofs.YtdejajpmebgidaaDoor
