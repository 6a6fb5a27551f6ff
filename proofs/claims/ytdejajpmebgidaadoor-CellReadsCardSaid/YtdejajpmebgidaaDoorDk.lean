/-
  PACKAGE disk: harden.
-/
import Derived.Test.YtdejajpmebgidaaDoorDj
import Derived.Deep.RegionHeld3
namespace Go.Proofs.YtdejajpmebgidaaDoor
open Go.RowKit Go.Maps WireM DiskM
set_option linter.unusedVariables false
set_option linter.unusedSimpArgs false
set_option maxRecDepth 100000

/-- An entry of the map of durable parts is laid anew, behind the making of its row. -/
theorem Dk0.storeVd {w w3 : World} {p : Nat} {s : St} {q : Parts} (h : Dk0 w p s q) {f : Int} (hf : isF f) {v' : Value} {L : List UInt8} (hr : ByteRow w3 v' L) (hg : w.grownBy w3 (q.Vd f).ownBlock)
    (hloc : ∀ k, v'.ownBlock = some k → (q.Vd f).ownBlock = some k ∨ w.heap.size ≤ k) (s' : St) (hs1 : s'.now = s.now) (hs2 : s'.last = upd s.last f L) (hs3 : s'.pend = s.pend) (hs4 : s'.keep = s.keep) (hs5 : dcells q s' = dcells q s) :
    (∀ i, w3.cell? ⟨p, i, none⟩ = w.cell? ⟨p, i, none⟩) ∧ ∃ w4, (Instr.mapUpdate 51 (.map (some q.bd)) (.int .i64 f) v').run Tryd.prog w3 = .ok () w4 ∧ Dk0 w4 p s' { q with Vd := upd q.Vd f v' } ∧ Chg (fun b => b = q.bd ∨ (q.Vd f).ownBlock = some b) w w4 := by
  have hkeep : ∀ b, b < w.heap.size → (∀ k, (q.Vd f).ownBlock = some k → b ≠ k) → w3.heap[b]? = w.heap[b]? := fun b hb hne => hg.block b hb (fun e => hne b e.symm rfl)
  have hp3 : w3.heap[p]? = w.heap[p]? := hkeep p (tag_lt h.tp) (fun k hk e => by have := h.tVd hk; rw [← e, h.tp] at this; simp at this)
  have hmap : ∀ b, tagOf w b = some .map → w3.heap[b]? = w.heap[b]? := fun b hb => hkeep b (tag_lt hb) (fun k hk e => by have := h.tVd hk; rw [← e, hb] at this; simp at this)
  obtain ⟨w4, hrun, hF, hT⟩ := (h.dur.block (hmap _ h.td)).store hf v'
  have hg4 := hT.grown
  refine ⟨fun i => World.cell?_of_block hp3, w4, hrun, ?_, ?_⟩
  · have hsame : ∀ b, w3.heap[b]? = w.heap[b]? → b < w.heap.size → b ≠ q.bd → w4.heap[b]? = w.heap[b]? := fun b h1 h2 h3 => (hg4.block b (Nat.lt_of_lt_of_le h2 hg.size) (by simpa using h3)).trans h1
    have hrow : ∀ {e : TypeId} {size n : Nat} {v : Value} {xs : List Value}, w.ownsRow 0 e size v n xs → (∀ k, v.ownBlock = some k → ∀ k', (q.Vd f).ownBlock = some k' → k ≠ k') → w4.ownsRow 0 e size v n xs := fun hr0 hne =>
      row_block hr0 (fun k hk => hsame k (hkeep k (tag_lt (tag_row hr0 hk)) (hne k hk)) (tag_lt (tag_row hr0 hk)) (fun e => by have := tag_row hr0 hk; rw [e, h.td] at this; simp at this))
    have hVd : ∀ g k, (upd q.Vd f v' g).ownBlock = some k → (g ≠ f ∧ (q.Vd g).ownBlock = some k) ∨ (g = f ∧ ((q.Vd f).ownBlock = some k ∨ w.heap.size ≤ k)) := fun g k hk => by
      by_cases e : g = f
      · subst e
        rw [upd_same] at hk
        exact .inr ⟨rfl, hloc k hk⟩
      · rw [upd_other _ _ e] at hk
        exact .inl ⟨e, hk⟩
    have hne : ∀ {k k' : Nat} {t t' : Tag}, tagOf w k = some t → tagOf w k' = some t' → t ≠ t' → k ≠ k' := fun h1 h2 h3 e => by rw [e, h2] at h1; exact h3 (by simpa using h1.symm)
    refine ⟨?_, h.files.block (hsame _ (hmap _ h.tf) (tag_lt h.tf) h.ne), hF, fun g => ?_, fun g => ?_, ?_, ?_, ?_, h.ne, h.nlf, h.nld, h.ap, fun g g' k h1 h2 => ?_, fun g g' k h1 h2 => ?_⟩
    · show w4.heap[p]? = some (.cells (dcells q s') _ _)
      rw [hs5, hsame p hp3 (tag_lt h.tp) (fun e => by have := h.tp; rw [e, h.td] at this; simp at this)]
      exact h.cells
    · rw [hs1]; exact hrow (h.now g) (fun k hk k' hk' e => h.apq g f k hk (by rw [e]; exact hk'))
    · rw [hs2]
      by_cases e : g = f
      · subst e
        show w4.ownsRow 0 _ 1 (upd q.Vd g v' g) _ _
        rw [upd_same, upd_same]
        exact row_block hr (fun k hk => hg4.block k (tag_lt (tag_row hr hk)) (fun e => by
          have := tag_row hr hk
          rw [show k = q.bd by simpa using e] at this
          obtain ⟨es, c, e2⟩ := (h.dur.block (hmap _ h.td)).isMap
          simp [tagOf, e2] at this))
      · show w4.ownsRow 0 _ 1 (upd q.Vd f v' g) _ _
        rw [upd_other _ _ e, upd_other _ _ e]
        exact hrow (h.last g) (fun k hk k' hk' e2 => e (h.aq g f k hk (by rw [e2]; exact hk')))
    · rw [hs3]; exact hrow h.pend (fun k hk k' hk' => hne (h.tvp hk) (h.tVd hk') (by simp))
    · rw [hs3]; exact h.list.block (hsame _ (hmap _ h.tl) (tag_lt h.tl) h.nld)
    · rw [hs4]; exact hrow h.keep (fun k hk k' hk' => hne (h.tvk hk) (h.tVd hk') (by simp))
    · rcases hVd g k h1 with ⟨a1, a2⟩ | ⟨a1, a2⟩ <;> rcases hVd g' k h2 with ⟨b1, b2⟩ | ⟨b1, b2⟩
      · exact h.aq g g' k a2 b2
      · rcases b2 with b2 | b2
        · exact absurd (h.aq g f k a2 b2) a1
        · have := tag_lt (h.tVd a2); omega
      · rcases a2 with a2 | a2
        · exact absurd (h.aq g' f k b2 a2) b1
        · have := tag_lt (h.tVd b2); omega
      · rw [a1, b1]
    · rcases hVd g' k h2 with ⟨a1, a2⟩ | ⟨a1, a2 | a2⟩
      · exact h.apq g g' k h1 a2
      · exact h.apq g f k h1 a2
      · have := tag_lt (h.tVf h1); omega
  · exact (Chg.of_grown hg (fun k hk => .inl (.inr hk))).trans (Chg.of_turned (S := fun b => b = q.bd) hT (.inl rfl)) (fun i hi => .inl (.inl hi))

theorem rd_sub {w : World} {v : Value} {M : List UInt8} (h : RdAt w v M) (x y : Nat) (hxy : x ≤ y) (hy : y ≤ M.length) : ∃ v', (Instr.slice 70 v (some (.int .i64 x)) (some (.int .i64 y)) none).run Tryd.prog w = .ok v' w ∧ RdAt w v' ((M.drop x).take (y - x)) := by
  obtain ⟨a, c, rfl, hc, hM⟩ := h
  have hl : ((M.drop x).take (y - x)).length = y - x := by rw [List.length_take, List.length_drop]; omega
  refine ⟨_, by rw [run_slice_lh (P := Tryd.prog) w 70 a M.length c undB .i64 .i64 x y (by omega) (by omega) (by omega), elemB, sizeB]; rfl, ?_⟩
  refine ⟨if c = x then a else a.map (·.add (x * 1)), c - x, by rw [hl]; rfl, by rw [hl]; omega, ?_⟩
  rcases hM with rfl | ⟨b, o, rfl, hcell⟩
  · exact .inl (by simp)
  · by_cases e : c = x
    · refine .inl (List.eq_nil_of_length_eq_zero (by rw [hl]; omega))
    · refine .inr ⟨b, o + x, by rw [if_neg e]; simp [Addr.add_lit], fun j u hj => ?_⟩
      rw [List.getElem?_take] at hj
      split at hj
      · rw [List.getElem?_drop] at hj
        have := hcell (x + j) u hj
        rwa [Nat.add_assoc]
      · cases hj
/-- What the last statement of harden reads. -/
def HS (p z bd : Nat) (f : Int) (n : Nat) (ad : Option Addr) (K c M : Nat) (ad1 : Option Addr) (T : List UInt8) (c1 : Nat) (w' : World) : Prop :=
  w'.cell? ⟨p, 1, none⟩ = some (.map (some bd)) ∧ w'.cell? ⟨z, 0, none⟩ = some (.int .i64 f) ∧
    (Instr.slice 70 (.slice ad K c) (some (.int .i64 ((n : Int) * 64))) (some (.int .i64 (M : Int))) none).run Tryd.prog w' = .ok (.slice ad1 T.length c1) w' ∧
    (convert 70 9 (.slice ad1 T.length c1)).run Tryd.prog w' = .ok (.string (bs T)) w'
theorem slice_free {w w' : World} {a a' : Option Addr} {n c n' c' : Nat} {lo hi : Int} (h0 : 0 ≤ lo) (h1 : lo ≤ hi) (h2 : hi ≤ c) (h : (Instr.slice 70 (.slice a n c) (some (.int .i64 lo)) (some (.int .i64 hi)) none).run Tryd.prog w = .ok (.slice a' n' c') w) :
    (Instr.slice 70 (.slice a n c) (some (.int .i64 lo)) (some (.int .i64 hi)) none).run Tryd.prog w' = .ok (.slice a' n' c') w' := by
  rw [run_slice_lh (P := Tryd.prog) w 70 a n c undB .i64 .i64 lo hi h0 h1 h2, elemB, sizeB] at h
  rw [run_slice_lh (P := Tryd.prog) w' 70 a n c undB .i64 .i64 lo hi h0 h1 h2, elemB, sizeB]
  simp only [Result.andThen, Result.ok.injEq, and_true] at h ⊢
  exact h
set_option maxHeartbeats 4000000 in
theorem harden0 {w : World} {p : Nat} {s : St} {q : Parts} (h : Dk0 w p s q) (f : Int) (n : Nat) (hf : isF f) (hn : 64 * n < (s.now f).length) (hcap : (s.now f).length ≤ 16777216) (hcap2 : (s.last f).length ≤ 16777216) :
    Calls Tryd.prog 38 #[.pointer (some ⟨p, 0, none⟩), .agg #[.int .i64 f, .int .i64 n]] w fun e w' => e = .returned (.tuple #[]) ∧
      ∃ v', Dk0 w' p { s with last := hard s.now (f, n) s.last } { q with Vd := upd q.Vd f v' } ∧ (v'.ownBlock = (q.Vd f).ownBlock ∨ ∃ k, v'.ownBlock = some k ∧ w.heap.size ≤ k) ∧ Chg (fun b => b = q.bd ∨ (q.Vd f).ownBlock = some b) w w' := by
  have h1 := h.alloc (.cells #[.int .i64 f, .int .i64 n] 78)
  have d0 := h1.c0
  have k0 : (w.alloc (.cells #[.int .i64 f, .int .i64 n] 78)).cell? ⟨w.heap.size, 0, none⟩ = some (.int .i64 f) := by rw [Lib.cell_of_heap (heap_alloc_new w _)]; rfl
  have k1 : (w.alloc (.cells #[.int .i64 f, .int .i64 n] 78)).cell? ⟨w.heap.size, 1, none⟩ = some (.int .i64 n) := by rw [Lib.cell_of_heap (heap_alloc_new w _)]; rfl
  have l0 := h1.files.look (inI_of hf)
  have l0d := h1.drew.files.look (inI_of hf)
  obtain ⟨ad, c, hv⟩ := row_form (h.now f)
  rw [hv] at l0 l0d
  have W2 := Lib.hid (show ∃ w2, w2 = (w.alloc (.cells #[.int .i64 f, .int .i64 n] 78)).drew from ⟨_, rfl⟩)
  have H1 := Lib.hid h1
  have HV := Lib.hid hv
  have HN := Lib.hid hn
  have HC := Lib.hid hcap
  have HC2 := Lib.hid hcap2
  have HF := Lib.hid hf
  have hsz0 : w.heap.size < (w.alloc (.cells #[.int .i64 f, .int .i64 n] 78)).heap.size := by simp
  have hbel : Below w.heap.size w (w.alloc (.cells #[.int .i64 f, .int .i64 n] 78)).drew := ((Below.refl _ w).alloc (Nat.le_refl _) _).drew
  have HB := Lib.hid hbel
  clear h1 hv hn hcap hcap2 hf h hsz0 hbel
  go_enter Tryd.func38, Tryd.ntmps38
  go_wp2
  go_region
  have h2 := H1.out.drew
  have j0 : (w.alloc (.cells #[.int .i64 f, .int .i64 n] 78)).drew.cell? ⟨w.heap.size, 0, none⟩ = some (.int .i64 f) := k0
  have jt : tagOf (w.alloc (.cells #[.int .i64 f, .int .i64 n] 78)).drew w.heap.size = some (.cells 78) := by
    show (match (w.alloc (.cells #[.int .i64 f, .int .i64 n] 78)).heap[w.heap.size]? with | some (.map _ _) => some Tag.map | some (.cells _ t _) => some (.cells t) | _ => none) = _
    rw [heap_alloc_new]
  have j1 : (w.alloc (.cells #[.int .i64 f, .int .i64 n] 78)).drew.cell? ⟨w.heap.size, 1, none⟩ = some (.int .i64 n) := k1
  clear l0 l0d d0 k0 k1 H1 W2
  generalize (w.alloc (.cells #[.int .i64 f, .int .i64 n] 78)).drew = w2 at *
  have hn := HN.out
  have hcap := HC.out
  have hcap2 := HC2.out
  have hf := HF.out
  have d0 := h2.c0
  have d1 := h2.c1
  have E1 : (if ((s.now f).length : Int) < (n : Int) * 64 + 64 then ((s.now f).length : Int) else (n : Int) * 64 + 64) = ((min (64 * n + 64) (s.now f).length : Nat) : Int) := by split <;> omega
  have hw1 : wrap64 ((n : Int) * 64) = (n : Int) * 64 := by unfold wrap64; omega
  have hw2 : wrap64 ((n : Int) * 64 + 64) = (n : Int) * 64 + 64 := by unfold wrap64; omega
  obtain ⟨v1, r1, hv1⟩ := rd_sub (rdAt_row (h2.drew.now f)) (64 * n) (min (64 * n + 64) (s.now f).length) (by omega) (by omega)
  have hsec : ((s.now f).drop (64 * n)).take (min (64 * n + 64) (s.now f).length - 64 * n) = sec (s.now f) n := by
    unfold sec
    rcases Nat.le_total (64 * n + 64) (s.now f).length with hl | hl
    · rw [Nat.min_eq_left hl, show 64 * n + 64 - 64 * n = 64 by omega]
    · rw [Nat.min_eq_right hl, List.take_of_length_le (by rw [List.length_drop]; omega), List.take_of_length_le (by rw [List.length_drop]; omega)]
  rw [hsec] at hv1
  have r2 := rd_string hv1
  obtain ⟨ad1, c1, hv1', hzz1, hzz2⟩ := hv1
  clear hzz1 hzz2
  rw [HV.out] at r1
  rw [hv1'] at r1 r2
  have hsl : (sec (s.now f) n).length ≤ 64 ∧ 0 < (sec (s.now f) n).length := by rw [sec_len]; omega
  have hcM : ((min (64 * n + 64) (s.now f).length : Nat) : Int) ≤ (c : Int) := by
    have h8 := rdAt_row (h2.now f)
    rw [HV.out] at h8
    obtain ⟨_, _, h9, h10, _⟩ := h8
    simp at h9
    omega
  have HP := put_any (h2.drew.last f) (64 * n) (bs (sec (s.now f) n)) (by rw [bs_size]; omega) (by rw [bs_size]; omega) (by omega)
  rw [bs_data] at HP
  have e64 : ((64 * n : Nat) : Int) = (n : Int) * 64 := by omega
  rw [e64] at r1 HP
  have HPH := Lib.hid HP
  have ld := h2.drew.dur.look (inI_of hf)
  have KEY := Lib.hid (show ∀ e w3, PutOut w2.drew (q.Vd f) (put (s.last f) (64 * n) (sec (s.now f) n)) e w3 → ∃ v', e = .returned v' ∧ HS p w.heap.size q.bd f n ad (s.now f).length c (min (64 * n + 64) (s.now f).length) ad1 (sec (s.now f) n) c1 w3 ∧
      ∃ w4, (Instr.mapUpdate 51 (.map (some q.bd)) (.int .i64 f) v').run Tryd.prog w3 = .ok () w4 ∧ HS p w.heap.size q.bd f n ad (s.now f).length c (min (64 * n + 64) (s.now f).length) ad1 (sec (s.now f) n) c1 w4 ∧
      ∃ v', Dk0 w4 p { s with last := hard s.now (f, n) s.last } { q with Vd := upd q.Vd f v' } ∧ (v'.ownBlock = (q.Vd f).ownBlock ∨ ∃ k, v'.ownBlock = some k ∧ w.heap.size ≤ k) ∧ Chg (fun b => b = q.bd ∨ (q.Vd f).ownBlock = some b) w w4 from by
    rintro e w3 ⟨v', he, hr, hg, hl⟩
    obtain ⟨hc, w4, hrun, hD, hC⟩ := h2.drew.storeVd hf hr hg (fun k hk => hl.elim (fun e => .inl (e ▸ hk)) (fun e => .inr (by rw [e] at hk; cases hk; exact Nat.le_refl _))) { s with last := hard s.now (f, n) s.last } rfl rfl rfl rfl rfl
    have hlt : w.heap.size < w2.heap.size := tag_lt jt
    have hS : ∀ w', (∀ i, w'.cell? ⟨p, i, none⟩ = w2.cell? ⟨p, i, none⟩) → (∀ b, b < w2.heap.size → tagOf w2 b ≠ some .map → (∀ k, (q.Vd f).ownBlock = some k → b ≠ k) → w'.heap[b]? = w2.heap[b]?) → HS p w.heap.size q.bd f n ad (s.now f).length c (min (64 * n + 64) (s.now f).length) ad1 (sec (s.now f) n) c1 w' := fun w' hc' hb' => by
      refine ⟨by rw [hc']; exact d1, ?_, ?_⟩
      · rw [← j0]
        exact World.cell?_of_block (w := w2) (hb' w.heap.size hlt (by rw [jt]; simp) (fun k hk e => by have h7 := h2.tVd hk; rw [← e, jt] at h7; simp at h7))
      · have hrow : ByteRow w' (q.Vf f) (s.now f) := row_block (h2.now f) (fun k hk => hb' k (tag_lt (h2.tVf hk)) (by rw [h2.tVf hk]; simp) (fun k' hk' e => h2.apq f f k hk (by rw [e]; exact hk')))
        obtain ⟨v1', r1', hv1''⟩ := rd_sub (rdAt_row hrow) (64 * n) (min (64 * n + 64) (s.now f).length) (by omega) (by omega)
        have e1 : v1' = .slice ad1 (sec (s.now f) n).length c1 := by
          have e2 := r1'
          rw [HV.out, e64] at e2
          have e3 := slice_free (w := w2.drew) (w' := w') (by omega) (by omega) hcM r1
          rw [e3] at e2
          simpa using e2.symm
        rw [HV.out, e64, e1] at r1'
        rw [hsec, e1] at hv1''
        exact ⟨r1', rd_string hv1''⟩
    refine ⟨v', he, hS w3 hc (fun b hb _ hne => hg.block b hb (fun e => hne b e.symm rfl)), w4, hrun, hS w4 (fun i => ?_) (fun b hb ht hne => ?_), v', hD, hl.imp id (fun h' => ⟨_, h', HB.out.size⟩), (Chg.of_below HB.out).drew.trans hC (fun i hi => .inl hi)⟩
    · exact World.cell?_of_block (hC.block p (tag_lt h2.tp) (fun h' => by
        rcases h' with h' | h'
        · have := h2.tp; rw [h', h2.td] at this; simp at this
        · have := h2.tp; rw [h2.tVd h'] at this; simp at this))
    · exact hC.block b hb (fun h' => by
        rcases h' with h' | h'
        · exact ht (by rw [h']; exact h2.td)
        · exact hne b h' rfl))
  have S2 : HS p w.heap.size q.bd f n ad (s.now f).length c (min (64 * n + 64) (s.now f).length) ad1 (sec (s.now f) n) c1 w2.drew := ⟨d1, j0, r1, r2⟩
  clear HP hsl hv1' hsec hcM HN HC HC2 HF hn hcap hcap2 hf h2 e64 HV HB jt r1 r2
  generalize min (64 * n + 64) (s.now f).length = M at *
  generalize (s.now f).length = K at *
  go_wp2
  go_region_held3 (fun w' => w'.cell? ⟨p, 1, none⟩ = some (.map (some q.bd)) ∧ w'.cell? ⟨w.heap.size, 0, none⟩ = some (.int .i64 f) ∧ (Instr.slice 70 (.slice ad K c) (some (.int .i64 ((n : Int) * 64))) (some (.int .i64 (M : Int))) none).run Tryd.prog w' = .ok (.slice ad1 (sec (s.now f) n).length c1) w' ∧ (convert 70 9 (.slice ad1 (sec (s.now f) n).length c1)).run Tryd.prog w' = .ok (.string (bs (sec (s.now f) n))) w') (first | exact S2 | exact S3 | exact S4) (first | (go_at_call 44; refine HPH.out.mono ?_; intro e w3 hp; obtain ⟨v', rfl, S3, w4, g2, S4, g3⟩ := KEY.out e w3 hp; have G3 := Lib.hid g3; clear g3 hp; have s31 := S3.1; have s32 := S3.2.1))
  go_end0
  exact ⟨rfl, G3.out⟩
end Go.Proofs.YtdejajpmebgidaaDoor
