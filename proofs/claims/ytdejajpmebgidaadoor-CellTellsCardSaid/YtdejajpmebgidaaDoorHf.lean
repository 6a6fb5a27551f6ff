/-
  THE REFERENCE OF LAYER 3: Put.
-/
import Derived.Test.YtdejajpmebgidaaDoorHe
import Derived.Deep.AppendSrc
namespace Go.Proofs.YtdejajpmebgidaaDoor
open Go.RowKit Go.Maps WireM DiskM
set_option linter.unusedVariables false
set_option linter.unusedSimpArgs false
set_option maxRecDepth 100000

/-- A slice of bytes in a block of the call's own, of whose cells none is frozen. -/
structure PBuf (w : World) (L : List UInt8) (g cap : Nat) (wr : World) : Prop where
  own : w.heap.size ≤ g
  room : L.length ≤ cap
  capm : cap ≤ maxLen
  row : ∃ cur fz, wr.heap[g]? = some (.cells cur 5 fz) ∧ cur.size = cap ∧ (∀ i, i < cap → ¬ (fz.1 ≤ i ∧ i < fz.2)) ∧ ∀ i, i < L.length → cur[i]? = some (.int .u8 (at0 L i).toNat)
  bel : Below w.heap.size w wr
theorem PBuf.fz {w wr : World} {L : List UInt8} {g cap : Nat} (h : PBuf w L g cap wr) {i : Nat} (hi : i < cap) : wr.frozen? ⟨g, i, none⟩ = false := by
  obtain ⟨cur, fz, h1, h2, h3, h4⟩ := h.row
  have := h3 i hi
  obtain ⟨lo, hi'⟩ := fz
  simp only [World.frozen?, h1, Bool.and_eq_false_iff, decide_eq_false_iff_not]
  simp only at this
  omega
theorem PBuf.cell {w wr : World} {L : List UInt8} {g cap : Nat} (h : PBuf w L g cap wr) {i : Nat} (hi : i < L.length) : wr.cell? ⟨g, i, none⟩ = some (.int .u8 (at0 L i).toNat) := by
  obtain ⟨cur, fz, h1, h2, h3, h4⟩ := h.row
  rw [cell_of_row wr g i cur _ fz h1, ← Array.getElem?_toList]
  simpa using h4 i hi
theorem PBuf.some {w wr : World} {L : List UInt8} {g cap : Nat} (h : PBuf w L g cap wr) {i : Nat} (hi : i < cap) : ∃ v, wr.cell? ⟨g, i, none⟩ = some v := by
  obtain ⟨cur, fz, h1, h2, h3, h4⟩ := h.row
  exact ⟨cur[i]'(by omega), by rw [cell_of_row wr g i cur _ fz h1]; simp⟩
theorem PBuf.lt {w wr : World} {L : List UInt8} {g cap : Nat} (h : PBuf w L g cap wr) : g < wr.heap.size := by
  obtain ⟨cur, fz, h1, _⟩ := h.row
  exact (Array.getElem?_eq_some_iff.1 h1).1
theorem PBuf.other {w wr w' : World} {L : List UInt8} {g cap : Nat} (h : PBuf w L g cap wr) (hb : Below wr.heap.size wr w') : PBuf w L g cap w' := by
  obtain ⟨cur, fz, h1, h2, h3, h4⟩ := h.row
  exact ⟨h.own, h.room, h.capm, ⟨cur, fz, (hb.block g h.lt).trans h1, h2, h3, h4⟩, h.bel.trans (hb.mono h.bel.size)⟩
theorem at0_nat (L : List UInt8) (i : Nat) : ((at0 L i).toNat : Int) = ((at0 L i).toNat : Nat) := rfl
/-- A cell is written. -/
theorem PBuf.set {w wr : World} {L : List UInt8} {g cap : Nat} (h : PBuf w L g cap wr) {i : Nat} {b : UInt8} (hi : i < cap) {M : List UInt8} (hl : M.length ≤ cap) (hM : ∀ j, j < M.length → at0 M j = if j = i then b else at0 L j) (hML : ∀ j, j < M.length → j ≠ i → j < L.length) :
    PBuf w M g cap (wr.setCell ⟨g, i, none⟩ (.int .u8 b.toNat)) := by
  obtain ⟨cur, fz, h1, h2, h3, h4⟩ := h.row
  refine ⟨h.own, hl, h.capm, ⟨cur.setIfInBounds i (.int .u8 b.toNat), fz, ?_, by simp [h2], h3, fun j hj => ?_⟩, ?_⟩
  · simp [World.setCell, Array.getElem?_modify, h1]
  · rw [hM j hj]
    by_cases e : j = i
    · subst e
      simp [h2, hi]
    · rw [if_neg e, Array.getElem?_setIfInBounds_ne (fun h => e h.symm)]
      exact h4 j (hML j hj e)
  · exact h.bel.setCell (p := ⟨g, i, none⟩) h.own _
theorem prun_append {w wr : World} {L : List UInt8} {g cap : Nat} (h : PBuf w L g cap wr) (hL : L.length ≤ 1073741824) (ty : TypeId) :
    ∃ g' cap' w3, (Builtin.append_ #[ 70, 70 ] ty #[.slice (some ⟨g, 0, none⟩) L.length cap, .slice (some ⟨wr.heap.size, 0, none⟩) 1 1]).run Tryd.prog (wr.alloc (.cells #[.int .u8 0] 5)) = .ok (.slice (some ⟨g', 0, none⟩) (L ++ [0]).length cap') w3 ∧ PBuf w (L ++ [0]) g' cap' w3 := by
  obtain ⟨i0, hi, hz0, hz1, hz2⟩ := info_parts infoB
  have hA := h.other ((Below.refl _ wr).alloc (Nat.le_refl _) (.cells #[.int .u8 0] 5))
  generalize hW : wr.alloc (.cells #[.int .u8 0] 5) = W at *
  have hc0 : W.cell? ⟨wr.heap.size, 0, none⟩ = some (.int .u8 0) := by rw [← hW, Lib.cell_of_heap (heap_alloc_new wr _)]; rfl
  have hsrc : Src Tryd.prog i0.size 70 (.slice (some ⟨wr.heap.size, 0, none⟩) 1 1) 1 [.int .u8 0] W :=
    Src.ofSlice W Tryd.underlying70 ⟨wr.heap.size, 0, none⟩ 1 1 [.int .u8 0] (by rw [hz1]; rfl) (fun j u hj => by
      cases j with
      | zero => simp at hj; subst hj; rw [show (⟨wr.heap.size, 0, none⟩ : Addr).add 0 = ⟨wr.heap.size, 0, none⟩ by unfold Addr.add; split <;> simp_all]; exact hc0
      | succ j => simp at hj) (fun u hu => by simp at hu; subst hu; rfl)
  have hlen : (L ++ [0]).length = L.length + 1 := by simp
  by_cases hroom : L.length + 1 ≤ cap
  · have hr := run_append_room_src (P := Tryd.prog) W 70 70 ty 5 i0 Tryd.underlying70 hi g 0 L.length cap (.slice (some ⟨wr.heap.size, 0, none⟩) 1 1) 1 [.int .u8 0] hsrc hroom
      (fun j hj => by
        simp at hj; subst hj
        obtain ⟨v, hv⟩ := hA.some (i := L.length) (by omega)
        rw [hz1, Nat.mul_one, Nat.zero_add, Nat.add_zero, hv]; rfl)
      (fun j hj => by
        simp at hj; subst hj
        rw [hz1, Nat.mul_one, Nat.zero_add, Nat.add_zero]
        exact hA.fz (by omega))
    refine ⟨g, cap, _, by rw [hlen]; exact hr, ?_⟩
    rw [hz1, Nat.mul_one, Nat.zero_add]
    refine hA.set (b := 0) (by omega) (by omega) (fun j hj => ?_) (fun j hj hne => by omega)
    rw [at0_append]
    by_cases e : j = L.length
    · subst e; simp [at0]
    · rw [if_neg e, if_pos (by omega)]
  · have hold : (Builtin.firstCells i0.size L.length (.slice (some ⟨g, 0, none⟩) L.length cap)).run Tryd.prog W.drew = .ok (Lib.byteCells L).toArray W.drew :=
      run_firstCells_some (P := Tryd.prog) W.drew i0.size L.length ⟨g, 0, none⟩ L.length cap (Lib.byteCells L) (by rw [hz1, Lib.byteCells_length]; omega) (fun j u hj => by
        have hjl : j < L.length := by have := (List.getElem?_eq_some_iff.1 hj).1; simpa [Lib.byteCells_length] using this
        have hadd : (⟨g, 0, none⟩ : Addr).add j = ⟨g, j, none⟩ := by unfold Addr.add; split <;> simp_all
        rw [hadd]
        have := hA.cell hjl
        show W.cell? ⟨g, j, none⟩ = some u
        rw [this]
        simp [Lib.byteCells, hjl] at hj
        rw [← hj, at0_lt hjl])
    have hcap := hA.capm
    have hr := run_append_grow_src (P := Tryd.prog) W 70 70 ty 5 i0 (.int .u8 0) Tryd.underlying70 hi hz0 (some ⟨g, 0, none⟩) L.length cap (Lib.byteCells L) hold (.slice (some ⟨wr.heap.size, 0, none⟩) 1 1) 1 [.int .u8 0] hsrc (by omega) (by omega) (growslice_fits (by omega) (by rw [hz2]; omega))
    have hge := grownCap_ge W (L.length + 1) cap 5
    have hcm : grownCap W (L.length + 1) cap 5 ≤ maxLen := grownCap_le_maxLen W (L.length + 1) cap 5 (by unfold maxLen; omega)
    refine ⟨_, _, _, by rw [hlen]; exact hr, ⟨Nat.le_trans hA.bel.size (Nat.le_refl _), by omega, hcm, ⟨_, _, heap_alloc_new W.drew _, ?_, fun i hi => by simp, fun j hj => ?_⟩, ?_⟩⟩
    · simp [size_zeroCells, Lib.byteCells_length, Value.cells]; omega
    · have hjl : j < (Lib.byteCells L ++ [Value.int .u8 0]).length := by simp [Lib.byteCells_length]; omega
      rw [Array.getElem?_append_left (by simpa using hjl)]
      by_cases e : j < L.length
      · simp [Lib.byteCells, e, List.getElem?_append, at0_append, at0_lt e]
      · have e2 : j = L.length := by omega
        subst e2
        simp [Lib.byteCells, List.getElem?_append, at0]
    · exact hA.bel.drew.alloc hA.bel.size _
theorem pbuf_string {w wr : World} {L : List UInt8} {g cap : Nat} (h : PBuf w L g cap wr) : (convert 70 9 (.slice (some ⟨g, 0, none⟩) L.length cap)).run Tryd.prog wr = .ok (.string (bs L)) wr := by
  refine run_convert_bytes_back (P := Tryd.prog) wr 70 9 5 ⟨g, 0, none⟩ cap L Tryd.underlying70 Tryd.underlying5 Tryd.underlying9 ?_
  intro j hj
  have hadd : (⟨g, 0, none⟩ : Addr).add j = ⟨g, j, none⟩ := by unfold Addr.add; split <;> simp_all
  rw [hadd, h.cell hj, at0_lt hj]
theorem pbuf_made (w : World) (s : ByteArray) (hs : s.size ≤ 16777216) : ∃ cap w1, (convert 9 70 (.string s)).run Tryd.prog w = .ok (.slice (some ⟨w.heap.size, 0, none⟩) s.size cap) w1 ∧ PBuf w s.data.toList w.heap.size cap w1 := by
  have hr := run_bytes_of_string (P := Tryd.prog) w 9 70 5 s Tryd.underlying9 Tryd.underlying70 Tryd.underlying5
  have hge := grownCap_ge w s.size 0 5
  have hcm : grownCap w s.size 0 5 ≤ maxLen := grownCap_le_maxLen w s.size 0 5 (by unfold maxLen; omega)
  refine ⟨_, _, hr, ⟨Nat.le_refl _, hge, hcm, ⟨_, _, heap_alloc_new w.drew _, ?_, ?_, ?_⟩, (Below.refl _ w).drew.alloc (Nat.le_refl _) _⟩⟩
  · unfold bytesRow; simp; have : s.data.size = s.size := rfl; omega
  · intro i hi h
    have hsz : (bytesRow s (grownCap w s.size 0 5)).size = grownCap w s.size 0 5 := by unfold bytesRow; simp; have : s.data.size = s.size := rfl; omega
    rw [hsz] at h
    omega
  · intro i hi
    have hi' : i < s.data.size := by simpa using hi
    unfold bytesRow
    rw [Array.getElem?_append_left (by simpa using hi'), Array.getElem?_map]
    rw [Array.getElem?_eq_getElem hi', Option.map_some]
    have e : at0 s.data.toList i = s.data[i] := by rw [at0_lt hi]; rfl
    rw [e]
theorem at0_set {l : List UInt8} {i : Nat} (hi : i < l.length) (b : UInt8) (x : Nat) : at0 (l.set i b) x = if x = i then b else at0 l x := by
  unfold at0
  rw [List.getD_eq_getElem?_getD, List.getElem?_set]
  by_cases e : i = x
  · subst e; simp [hi]
  · rw [if_neg e, if_neg (fun h => e h.symm), List.getD_eq_getElem?_getD]
def lenV : Value → Nat
  | .slice _ n _ => n
  | _ => 0
/-- What Put returns. -/
def putN (l : List UInt8) (a : Nat) (t : List UInt8) : List UInt8 := if t = [] then l else put l a t
theorem bytes_nil (t : ByteArray) (h : t.data.toList = []) : t = ⟨#[]⟩ := by
  have : t.data = #[] := by simpa using h
  cases t; simp_all
set_option maxHeartbeats 4000000 in
theorem rPut_any (s t : ByteArray) (a : Nat) (w : World) (hs : s.size ≤ 16777216) (ha : a + t.size ≤ 16777216) :
    Calls Tryd.prog 53 #[.string s, .int .i64 (a : Int), .string t] w fun e w' => e = .returned (.string (bs (putN s.data.toList a t.data.toList))) ∧ Below w.heap.size w w' := by
  unfold putN
  by_cases ht : t.data.toList = []
  · rw [if_pos ht]
    have e := bytes_nil t ht
    subst e
    have D0 := Lib.hid (Below.refl w.heap.size w)
    go_enter Tryd.func53, Tryd.ntmps53
    go_wp2
    go_ret
    exact ⟨rfl, D0.out⟩
  · rw [if_neg ht]
    have hne : t.toList.isEmpty = false := by
      rw [Lib.toList_data]
      cases hq : t.data.toList with
      | nil => exact absurd hq ht
      | cons a r => rfl
    obtain ⟨cap0, w1, hmk, hP⟩ := pbuf_made w s hs
    have hsl : s.data.toList.length = s.size := rfl
    rw [← hsl] at hmk
    generalize hS : s.data.toList = S at *
    have w0 : wrap64 ((a : Int) + (t.size : Int)) = (a : Int) + (t.size : Int) := by unfold wrap64; omega
    have H0 := Lib.hid hP
    clear hP
    have HT := Lib.hid ht
    clear ht
    go_enter Tryd.func53, Tryd.ntmps53
    go_wp2
    go_loopw [7] (fun v wr => ∃ (L : List UInt8) (g cap : Nat), v = .slice (some ⟨g, 0, none⟩) L.length cap ∧ Hid (PBuf w L g cap wr ∧ ∃ k, L = S ++ List.replicate k 0 ∧ L.length ≤ max S.length (a + t.size))) (fun v _ => a + t.size - lenV v)
    case atStart => exact ⟨S, _, _, by rw [hsl], Lib.hid ⟨H0.out, 0, by simp, by omega⟩⟩
    case round =>
      obtain ⟨L, g, cap, rfl, HL⟩ := hrel
      by_cases hlt : L.length < a + t.size
      · have g0 : (L.length : Int) < (a : Int) + (t.size : Int) := by omega
        obtain ⟨g', cap', w3, hr, hP3⟩ := prun_append HL.out.1 (by omega) 70
        have hl1 : (L ++ [0]).length = L.length + 1 := by simp
        rw [hl1] at hr
        have HR := Lib.hid hr
        have MEAS := Lib.hid (show a + t.size - lenV (.slice (some ⟨g', 0, none⟩) (L.length + 1) cap') < a + t.size - lenV (.slice (some ⟨g, 0, none⟩) L.length cap) by simp only [lenV]; omega)
        have NX := Lib.hid (show ∃ (M : List UInt8) (g2 cap2 : Nat), Value.slice (some ⟨g', 0, none⟩) (L.length + 1) cap' = .slice (some ⟨g2, 0, none⟩) M.length cap2 ∧ Hid (PBuf w M g2 cap2 w3 ∧ ∃ k, M = S ++ List.replicate k 0 ∧ M.length ≤ max S.length (a + t.size)) from ⟨L ++ [0], g', cap', by rw [hl1], Lib.hid ⟨hP3, by
          obtain ⟨k, hk, hk2⟩ := HL.out.2
          exact ⟨k + 1, by rw [hk, List.replicate_succ', List.append_assoc], by rw [hl1]; omega⟩⟩⟩)
        clear hr hP3 hl1 hlt HL
        go_wp2_with (at_builtin; go_loud (refine Lib.wpList_append_run _ rfl _ _ _ _ rfl _ _ rfl rfl _ _ HR.out ?_))
        go_roundw
        case rel => exact NX.out
        case measure => exact MEAS.out
      · have g0 : ¬ (L.length : Int) < (a : Int) + (t.size : Int) := by omega
        have hE : L = DiskM.ext S (a + t.size) := by
          obtain ⟨k, hk, hk2⟩ := HL.out.2
          have hkl : L.length = S.length + k := by rw [hk]; simp
          unfold DiskM.ext
          rw [hk, show k = a + t.size - S.length by omega]
        have HP := Lib.hid HL.out.1
        have HE := Lib.hid hE
        have HGE := Lib.hid hlt
        clear hE HL hlt
        go_wp2
        go_loopw [8] (fun i wr => ∃ j : Nat, j ≤ t.size ∧ i = .int .i64 (j : Int) ∧ Hid (∃ M : List UInt8, M.length = L.length ∧ PBuf w M g cap wr ∧ ∀ x, at0 M x = if a ≤ x ∧ x < a + j then at0 t.data.toList (x - a) else at0 L x)) (fun i _ => t.size - (intOf i).toNat)
        case atStart => exact ⟨0, Nat.zero_le _, rfl, Lib.hid ⟨L, rfl, HP.out, fun x => by rw [if_neg (by omega)]⟩⟩
        case round =>
          obtain ⟨j, hj, rfl, HM⟩ := hrel
          by_cases hlt : j < t.size
          · have g1 : (j : Int) < (t.size : Int) := by omega
            have w1 : wrap64 ((j : Int) + 1) = (j : Int) + 1 := by unfold wrap64; omega
            have w2 : wrap64 ((a : Int) + (j : Int)) = (a : Int) + (j : Int) := by unfold wrap64; omega
            have gl : a + j < L.length := by have := HGE.out; omega
            have gl' : (a : Int) + (j : Int) < (L.length : Int) := by omega
            obtain ⟨M, hm1, hm2, hm3⟩ := HM.out
            have hroom := hm2.room
            have z1 := hm2.fz (i := a + j) (by omega)
            obtain ⟨v0, z2⟩ := hm2.some (i := a + j) (by omega)
            have W1 := Lib.hid w1
            have NX := Lib.hid (show ∃ j' : Nat, j' ≤ t.size ∧ Value.int .i64 ((j : Int) + 1) = .int .i64 (j' : Int) ∧ Hid (∃ M : List UInt8, M.length = L.length ∧ PBuf w M g cap (wr.setCell ⟨g, a + j, none⟩ (.int .u8 t[j].toNat)) ∧ ∀ x, at0 M x = if a ≤ x ∧ x < a + j' then at0 t.data.toList (x - a) else at0 L x) from ⟨j + 1, hlt, rfl, Lib.hid ⟨M.set (a + j) t[j], by rw [List.length_set, hm1], by
              refine hm2.set (by omega) (by rw [List.length_set]; omega) (fun x hx => ?_) (fun x hx _ => by rw [List.length_set] at hx; exact hx)
              exact at0_set (by omega) _ x, fun x => by
              have hv : at0 t.data.toList j = t[j] := by rw [at0_lt (by simpa using hlt)]; rfl
              have hset := at0_set (l := M) (i := a + j) (by omega) t[j] x
              rw [hset]
              by_cases e : x = a + j
              · rw [if_pos e, if_pos ⟨by omega, by omega⟩, show x - a = j by omega, hv]
              · rw [if_neg e, hm3]
                by_cases e2 : a ≤ x ∧ x < a + j
                · rw [if_pos e2, if_pos ⟨e2.1, by omega⟩]
                · rw [if_neg e2, if_neg (by omega)]⟩⟩)
            have MEAS := Lib.hid (show t.size - (intOf (.int .i64 ((j : Int) + 1))).toNat < t.size - (intOf (.int .i64 (j : Int))).toNat by simp [intOf]; omega)
            clear HM hm2 hm3 hm1 hroom
            go_wp2
            go_roundw
            case rel => exact NX.out
            case measure => exact MEAS.out
          · have g1 : ¬ (j : Int) < (t.size : Int) := by omega
            obtain ⟨M, hm1, hm2, hm3⟩ := HM.out
            have hM : M = put S a t.data.toList := by
              have htl : t.data.toList.length = t.size := rfl
              refine ext_at ?_ (fun x => ?_)
              · rw [hm1, HE.out, put_len, ext_len, htl]
              · rw [hm3, put_at, HE.out, ext_at0, htl, show j = t.size by omega]
            have hst := pbuf_string hm2
            have D := Lib.hid hm2.bel
            rw [hM] at hst
            have hl := hm1
            rw [hM] at hl
            rw [hl] at hst
            clear hM hm1 hm2 hm3 HM hl
            go_wp2
            go_ret
            exact ⟨rfl, D.out⟩
end Go.Proofs.YtdejajpmebgidaaDoor
