/-
  FramesHold: the pages beside a memory; used, holds.
-/
import Derived.Test.YtpabkaihppnddaaCn
import Derived.Test.YtpabkaihppnddaaCp
namespace Go.Proofs.Ytpabkaihppnddaa
open Go.RowKit
set_option linter.unusedVariables false
set_option linter.unusedSimpArgs false
set_option maxRecDepth 100000
/-- One page's slice of bytes: of a free frame nothing. -/
def kPg (v : Value) (o : Option (List UInt8)) : Kd where
  is := fun M w => (∀ b, M b → b < w.heap.size) ∧ ∃ a c, v = .slice a (o.getD []).length c ∧ ∀ (j : Nat) (b : UInt8), (o.getD [])[j]? = some b → ∃ g, a = some ⟨g, 0, none⟩ ∧ M g ∧ w.cell? ⟨g, j, none⟩ = some (.int .u8 (b.toNat : Int)) ∧ w.frozen? ⟨g, j, none⟩ = false
  lt := fun M w ⟨h, _⟩ => h
  same := fun M w w' ⟨h0, a, c, e, h⟩ he => ⟨(fun b hb => by
      have h1 := h0 b hb
      have h2 := he b hb
      rw [Array.getElem?_eq_getElem h1] at h2
      exact (Array.getElem?_eq_some_iff.1 h2).1), a, c, e, (fun j b hb => by
      obtain ⟨g, e, m, h1, h2⟩ := h j b hb
      exact ⟨g, e, m, (World.cell?_of_block (he g m)).trans h1, by rw [← h2]; simp only [World.frozen?, he g m]⟩)⟩
def inn (vs : List Value) (L : Fm) : List Kd := List.zipWith kPg vs L
theorem inn_len {vs : List Value} {L : Fm} (h : vs.length = L.length) : (inn vs L).length = L.length := by simp [inn, h]
theorem inn_at {vs : List Value} {L : Fm} {f : Nat} {v : Value} {o : Option (List UInt8)} (hv : vs[f]? = some v) (ho : L[f]? = some o) : (inn vs L)[f]? = some (kPg v o) := by
  unfold inn; rw [List.getElem?_zipWith, hv, ho]
theorem inn_set (vs : List Value) (L : Fm) (f : Nat) (v : Value) (o : Option (List UInt8)) : (inn vs L).set f (kPg v o) = inn (vs.set f v) (L.set f o) := by
  unfold inn
  apply List.ext_getElem?
  intro i
  rw [List.getElem?_set, List.getElem?_zipWith, List.getElem?_zipWith, List.getElem?_set, List.getElem?_set, List.length_zipWith]
  by_cases e : f = i
  · subst e
    rw [if_pos rfl, if_pos rfl, if_pos rfl]
    by_cases h1 : f < vs.length <;> by_cases h2 : f < L.length <;> simp [h1, h2] <;> omega
  · rw [if_neg e, if_neg e, if_neg e]
/-- The slice of the pages. -/
def kOut (g N : Nat) (vs : List Value) : Kd := kRow 46 1 (.slice (some ⟨g, 0, none⟩) N N) N vs
section
variable {w0 w : World} {S : Nat → Prop} {tl : List Kd} {k : Kd} {g : Nat} {vs : List Value} {L : Fm}
theorem Tog.pgLen (h : Tog w0 S w (k :: kOut g L.length vs :: tl)) : vs.length = L.length := by
  have := (h.rowAt (j := 1) rfl).1
  omega
/-- What is read of a page. -/
theorem Tog.pgAt (h : Tog w0 S w (k :: kOut g L.length vs :: (inn vs L ++ tl))) {f : Nat} {o : Option (List UInt8)} (ho : L[f]? = some o) : ∃ a c, vs[f]? = some (.slice a (o.getD []).length c) ∧ w.cell? ⟨g, f, none⟩ = some (.slice a (o.getD []).length c) ∧
    (convert 46 9 (.slice a (o.getD []).length c)).run Try.prog w = .ok (.string (bs (o.getD []))) w ∧
    ∀ j (b : UInt8), (o.getD [])[j]? = some b → ∃ gb, a = some ⟨gb, 0, none⟩ ∧ w.cell? ⟨gb, j, none⟩ = some (.int .u8 (b.toNat : Int)) := by
  have hl := (List.getElem?_eq_some_iff.1 ho).1
  have hvl := h.pgLen
  obtain ⟨v, hv⟩ : ∃ v, vs[f]? = some v := ⟨_, List.getElem?_eq_getElem (by omega)⟩
  have hi : (k :: kOut g L.length vs :: (inn vs L ++ tl))[f + 2]? = some (kPg v o) := by
    rw [List.getElem?_cons_succ, List.getElem?_cons_succ, List.getElem?_append_left (by rw [inn_len hvl]; exact hl)]
    exact inn_at hv ho
  obtain ⟨M, ⟨_, a, c, rfl, H⟩, _⟩ := h.focus hi
  have cells : ∀ j (b : UInt8), (o.getD [])[j]? = some b → ∃ gb, a = some ⟨gb, 0, none⟩ ∧ w.cell? ⟨gb, j, none⟩ = some (.int .u8 (b.toNat : Int)) := fun j b hb => by
    obtain ⟨gb, e, _, h1, _⟩ := H j b hb
    exact ⟨gb, e, h1⟩
  refine ⟨a, c, hv, h.rowCell (i := 1) rfl hv, ?_, cells⟩
  cases a with
  | none =>
    have : o.getD [] = [] := by
      cases e : o.getD [] with
      | nil => rfl
      | cons x r => obtain ⟨gb, e2, _⟩ := cells 0 x (by rw [e]; rfl); cases e2
    rw [this]
    exact run_convert_bytes_nil (P := Try.prog) (w := w) 46 5 Try.underlying46 Try.underlying5 0 c 9 Try.underlying9
  | some ad =>
    by_cases hz : (o.getD []).length = 0
    · have : o.getD [] = [] := List.eq_nil_of_length_eq_zero hz
      rw [this]
      exact run_convert_bytes_back (P := Try.prog) w 46 9 5 ad c [] Try.underlying46 Try.underlying5 Try.underlying9 (fun j hj => by simp at hj)
    refine run_convert_bytes_back (P := Try.prog) w 46 9 5 ad c (o.getD []) Try.underlying46 Try.underlying5 Try.underlying9 (fun j hj => ?_)
    obtain ⟨gb, e, hc⟩ := cells j _ (List.getElem?_eq_getElem hj)
    cases e
    rw [addr_add, Nat.zero_add]
    exact hc
theorem used_any (h : Tog w0 S w (k :: kOut g L.length vs :: (inn vs L ++ tl))) (ok : FrOk L) : Calls Try.prog 23 #[.slice (some ⟨g, 0, none⟩) L.length L.length] w fun e w' => e = .returned (.int .i64 L.used) ∧ w' = w := by
  have CE := Lib.hid (fun f o (ho : L[f]? = some o) => h.pgAt ho)
  have OK := Lib.hid ok
  have hle := ok.len
  obtain ⟨R, hR⟩ : ∃ R, R = L.used := ⟨_, rfl⟩
  rw [← hR]
  have HR := Lib.hid hR
  clear h hR ok
  go_enter Try.func23, Try.ntmps23
  go_wp2_with fail
  go_loopw [4, 3] (fun i n wr => ∃ j : Nat, j ≤ L.length ∧ i = .int .i64 (j : Int) ∧ n = .int .i64 ((L.take j).countP (fun o => o.isSome)) ∧ wr = w) (fun i _ _ => L.length - (intOf i).toNat)
  case atStart => exact ⟨0, Nat.zero_le _, rfl, rfl, rfl⟩
  case round =>
    obtain ⟨j, hj, rfl, rfl, rfl⟩ := hrel
    have hcl : (L.take j).countP (fun o => o.isSome) ≤ j := Nat.le_trans List.countP_le_length (by rw [List.length_take]; omega)
    by_cases hlt : j < L.length
    · obtain ⟨o, ho⟩ : ∃ o, L[j]? = some o := ⟨_, List.getElem?_eq_getElem hlt⟩
      obtain ⟨a, c, _, hb, _, _⟩ := CE.out j o ho
      have g0 : (0 : Int) ≤ (j : Int) := by omega
      have g1 : (j : Int) < (L.length : Int) := by omega
      have w1 : wrap64 ((j : Int) + 1) = (j : Int) + 1 := by unfold wrap64; omega
      have W1 := Lib.hid w1
      have MEAS := Lib.hid (show L.length - (intOf (.int .i64 ((j : Int) + 1))).toNat < L.length - (intOf (.int .i64 (j : Int))).toNat by simp [intOf]; omega)
      have ts : L.take (j + 1) = L.take j ++ [o] := by rw [List.take_succ_eq_append_getElem hlt, (List.getElem?_eq_some_iff.1 ho).2]
      generalize hk : (L.take j).countP (fun o => o.isSome) = k at *
      cases o with
      | none =>
        have G := Lib.hid (show ∃ j' : Nat, j' ≤ L.length ∧ Value.int .i64 ((j : Int) + 1) = .int .i64 (j' : Int) ∧ Value.int .i64 (k : Int) = .int .i64 ((L.take j').countP (fun o => o.isSome)) ∧ True from ⟨j + 1, hlt, rfl, by rw [ts, List.countP_append, hk]; simp, trivial⟩)
        have hb' : wr.cell? ⟨g, j, none⟩ = some (.slice a 0 c) := hb
        clear ho hlt hj w1 ts hk hb
        go_wp2
        go_roundw
        case rel => first | exact G.out | (rw [W1.out]; exact G.out)
        case measure => first | exact MEAS.out | (rw [W1.out]; exact MEAS.out)
      | some q =>
        have w2 : wrap64 ((k : Int) + 1) = (k : Int) + 1 := by unfold wrap64; omega
        have W2 := Lib.hid w2
        have G := Lib.hid (show ∃ j' : Nat, j' ≤ L.length ∧ Value.int .i64 ((j : Int) + 1) = .int .i64 (j' : Int) ∧ Value.int .i64 ((k : Int) + 1) = .int .i64 ((L.take j').countP (fun o => o.isSome)) ∧ True from ⟨j + 1, hlt, rfl, by rw [ts, List.countP_append, hk]; simp, trivial⟩)
        have hb' : wr.cell? ⟨g, j, none⟩ = some (.slice a 64 c) := by rw [hb, Option.getD_some, OK.out.sz j q ho]
        clear ho hlt hj w1 w2 ts hk hb
        go_wp2
        go_roundw
        case rel => first | exact G.out | (rw [W1.out]; exact G.out) | (rw [W1.out, W2.out]; exact G.out) | (rw [W2.out]; exact G.out)
        case measure => first | exact MEAS.out | (rw [W1.out]; exact MEAS.out)
    · obtain rfl : j = L.length := by omega
      have g1 : ¬ (L.length : Int) < (L.length : Int) := by omega
      have E := Lib.hid (show ((L.take L.length).countP (fun o => o.isSome)) = R by rw [HR.out, List.take_length]; rfl)
      clear hlt hj
      rw [E.out]
      rw [E.out] at hcl
      go_wp2
      go_ret
      exact ⟨rfl, rfl⟩
set_option maxHeartbeats 1000000 in
theorem holds_any {p : Nat} (h : Tog w0 S w (kFr p L :: kOut g L.length vs :: (inn vs L ++ tl))) : Calls Try.prog 24 #[.pointer (some ⟨p, 0, none⟩), .slice (some ⟨g, 0, none⟩) L.length L.length] w fun e w' => e = .returned (.bool true) ∧ ∃ n, w' = w.drewN n := by
  have ok := h.okFr (i := 0) rfl
  have HH := Lib.hid h
  have OK := Lib.hid ok
  have hle := ok.len
  clear h ok
  go_enter Try.func24, Try.ntmps24
  go_wp2_with fail
  go_loopw [5] (fun i wr => ∃ j : Nat, j ≤ L.length ∧ i = .int .i64 (j : Int) ∧ Hid (∃ n, wr = w.drewN n)) (fun i _ => L.length - (intOf i).toNat)
  case atStart => exact ⟨0, Nat.zero_le _, rfl, Lib.hid ⟨0, rfl⟩⟩
  case round =>
    obtain ⟨j, hj, rfl, HW⟩ := hrel
    obtain ⟨n, hn⟩ := HW.out
    have T : Tog w0 S wr (kFr p L :: kOut g L.length vs :: (inn vs L ++ tl)) := by rw [hn]; exact HH.out.drewN n
    have DN : ∀ m, ∃ n', wr.drewN m = w.drewN n' := fun m => ⟨n + m, by rw [hn, World.drewN_drewN]⟩
    have HU := Lib.hid (T.xused (i := 0) rfl)
    have HV := Lib.hid (used_any T OK.out)
    have HWW := Lib.hid (show ∃ n', wr = w.drewN n' from ⟨n, hn⟩)
    clear hn HW HH
    by_cases hlt : j < L.length
    · obtain ⟨o, ho⟩ : ∃ o, L[j]? = some o := ⟨_, List.getElem?_eq_getElem hlt⟩
      obtain ⟨a, c, _, hb, cv, _⟩ := T.pgAt ho
      have g0 : (0 : Int) ≤ (j : Int) := by omega
      have g1 : (j : Int) < (L.length : Int) := by omega
      have w1 : wrap64 ((j : Int) + 1) = (j : Int) + 1 := by unfold wrap64; omega
      have W1 := Lib.hid w1
      have MEAS := Lib.hid (show L.length - (intOf (.int .i64 ((j : Int) + 1))).toNat < L.length - (intOf (.int .i64 (j : Int))).toNat by simp [intOf]; omega)
      have G := Lib.hid (show ∀ m, ∃ j' : Nat, j' ≤ L.length ∧ Value.int .i64 ((j : Int) + 1) = .int .i64 (j' : Int) ∧ Hid (∃ n', wr.drewN m = w.drewN n') from fun m => ⟨j + 1, hlt, rfl, Lib.hid (DN m)⟩)
      have hI : InI (j : Int) := by unfold InI; omega
      have e1 : L.has (j : Int) = o.isSome := by unfold Fm.has; rw [Fm.pg_at, ho]; rfl
      have e2 : L.page (j : Int) = bs (o.getD []) := by unfold Fm.page; rw [Fm.pg_at, ho]; rfl
      have C1 := Lib.hid (fun m => (T.drewN m).xhas (i := 0) rfl (j : Int) hI)
      have C2 := Lib.hid (fun m => (T.drewN m).xpage (i := 0) rfl (j : Int) hI)
      rw [e1] at C1
      rw [e2] at C2
      have ne1 : ((bs (o.getD [])).toList != (bs (o.getD [])).toList) = false := by simp
      have hb0 : wr.cell? ⟨g, j, none⟩ = some (.slice a (o.getD []).length c) := hb
      have CV : ∀ m, (convert 46 9 (.slice a (o.getD []).length c)).run Try.prog (wr.drewN m) = .ok (.string (bs (o.getD []))) (wr.drewN m) := fun m => by
        obtain ⟨a2, c2, _, hb2, cv, _⟩ := (T.drewN m).pgAt ho
        have : (wr.drewN m).cell? ⟨g, j, none⟩ = wr.cell? ⟨g, j, none⟩ := by simp
        rw [this, hb0] at hb2
        simp at hb2
        rw [hb2.1, hb2.2]; exact cv
      cases o with
      | none =>
        have hb' : wr.cell? ⟨g, j, none⟩ = some (.slice a 0 c) := hb0
        simp only [Option.getD_none, List.length_nil, Option.isSome_none] at C1 C2 ne1 CV
        clear ho hlt hj w1 hb hb0 e1 e2 hI T DN cv HU HV
        go_wp2_with fail
        go_quiet (first
          | (go_at_call 15; first | exact Calls.quiet_of_same (C1.out _))
          | (go_at_call 19; first | exact Calls.quiet_of_same (C2.out _)))
        go_wp2
        go_roundw
        case rel => first | exact G.out _ | (rw [W1.out]; exact G.out _)
        case measure => first | exact MEAS.out | (rw [W1.out]; exact MEAS.out)
      | some q =>
        have hql := OK.out.sz j q ho
        simp only [Option.getD_some, Option.isSome_some] at C1 C2 ne1 CV hb0
        rw [hql] at hb0 CV
        clear ho hlt hj w1 hb e1 e2 hI T DN cv HU HV
        go_wp2_with fail
        go_quiet (first
          | (go_at_call 15; first | exact Calls.quiet_of_same (C1.out _))
          | (go_at_call 19; first | exact Calls.quiet_of_same (C2.out _)))
        go_wp2
        go_roundw
        case rel => first | exact G.out _ | (rw [W1.out]; exact G.out _)
        case measure => first | exact MEAS.out | (rw [W1.out]; exact MEAS.out)
    · have g1 : ¬ (j : Int) < (L.length : Int) := by omega
      clear hlt hj T DN
      go_wp2_with (first
        | (go_at_call 13; refine HU.out.mono ?_; rintro e w1 ⟨rfl, hw⟩; subst w1)
        | (go_at_call 23; refine HV.out.mono ?_; rintro e w1 ⟨rfl, hw⟩; subst w1))
      go_ret
      exact ⟨rfl, HWW.out⟩
end
end Go.Proofs.Ytpabkaihppnddaa
