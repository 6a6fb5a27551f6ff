/-
  PACKAGE frames: Size, Has, Used, inPage, Byte, Page, slices.Index.
-/
import Derived.Test.YtpabkaihppnddaaCa
import Derived.Laws.IdiomStrings
namespace Go.Proofs.Ytpabkaihppnddaa
open Go.RowKit
set_option linter.unusedVariables false
set_option linter.unusedSimpArgs false
set_option maxRecDepth 100000
/-- An offset within a page? -/
def Fm.inP (a : Int) : Bool := decide (0 ≤ a ∧ a < 64)
theorem Fm.inP_iff {a : Int} : Fm.inP a = true ↔ 0 ≤ a ∧ a < 64 := by simp [Fm.inP]
theorem Fm.hole_le (L : Fm) : L.hole ≤ L.length := List.findIdx_le_length
theorem Fm.hole_none {L : Fm} {k : Nat} (hk : k ≤ L.hole) (h : L[k]? = some none) : L.hole = k := by
  obtain ⟨hl, e⟩ := List.getElem?_eq_some_iff.1 h
  rcases Nat.lt_or_ge k L.hole with h1 | h1
  · have := List.not_of_lt_findIdx (xs := L) (p := fun o => !o.isSome) h1
    rw [e] at this; simp at this
  · omega
theorem Fm.hole_some {L : Fm} {k : Nat} (hk : k ≤ L.hole) {q : List UInt8} (h : L[k]? = some (some q)) : k + 1 ≤ L.hole := by
  obtain ⟨hl, e⟩ := List.getElem?_eq_some_iff.1 h
  rcases Nat.lt_or_ge k L.hole with h1 | h1
  · omega
  · have e2 : L.hole = k := by omega
    have h3 : L.hole < L.length := by omega
    have := List.findIdx_getElem (xs := L) (p := fun o : Option (List UInt8) => !o.isSome) (w := h3)
    have e4 : L[List.findIdx (fun o : Option (List UInt8) => !o.isSome) L] = L[k] := by congr 1
    rw [e4, e] at this; simp at this
section
variable {w0 w : World} {S : Nat → Prop} {l : List Kd}
/-- What is read of a memory. -/
theorem Tog.frAt (h : Tog w0 S w l) {i p : Nat} {L : Fm} (hi : l[i]? = some (kFr p L)) : ∃ B a c a' c', PgOk B L ∧ w.cell? ⟨p, 0, none⟩ = some (.slice a L.length c) ∧ w.cell? ⟨p, 1, none⟩ = some (.slice a' L.length c') ∧
    (∀ (m : Nat) (o : Option (List UInt8)), L[m]? = some o → ∃ g g', a = some ⟨g, 0, none⟩ ∧ a' = some ⟨g', 0, none⟩ ∧ w.cell? ⟨g', m, none⟩ = some (.bool o.isSome) ∧ ∀ j u, (byteCells B)[j]? = some u → w.cell? ⟨g, j, none⟩ = some u) := by
  obtain ⟨M, h1, _⟩ := h.inner hi
  obtain ⟨ok, B, ⟨a, c⟩, ⟨a', c'⟩, ok2, h2⟩ := h1.openFr
  refine ⟨B, a, c, a', c', ok2, h2.cellAt (j := 0) rfl 0 rfl, h2.cellAt (j := 0) rfl 1 rfl, fun m o ho => ?_⟩
  have hl := (List.getElem?_eq_some_iff.1 ho).1
  obtain ⟨g, c2, e, _⟩ := row_pos (h2.rowAt (j := 1) rfl) (by omega)
  obtain ⟨g', c3, e', _⟩ := row_pos (h2.rowAt (j := 2) rfl) (by omega)
  obtain ⟨rfl, rfl⟩ : a = some ⟨g, 0, none⟩ ∧ c = c2 := by simpa [Sl.val] using e
  obtain ⟨rfl, rfl⟩ : a' = some ⟨g', 0, none⟩ ∧ c' = c3 := by simpa [Sl.val] using e'
  exact ⟨g, g', rfl, rfl, h2.rowCell (i := 2) rfl (boolCells_at ho), fun j u hu => h2.rowCell (i := 1) rfl hu⟩
theorem Tog.xsize (h : Tog w0 S w l) {i p : Nat} {L : Fm} (hi : l[i]? = some (kFr p L)) : Calls Try.prog 21 #[.pointer (some ⟨p, 0, none⟩)] w fun e w' => e = .returned (.int .i64 L.length) ∧ w' = w := by
  obtain ⟨B, a, c, a', c', _, c0, _, _⟩ := h.frAt hi
  have hle := (h.okFr hi).len
  clear h hi
  go_enter Try.func21, Try.ntmps21
  go_wp2
  go_ret
  exact ⟨rfl, rfl⟩
theorem inPage_any (at' : Int) (w : World) : Calls Try.prog 34 #[.int .i64 at'] w fun e w' => e = .returned (.bool (Fm.inP at')) ∧ w' = w := by
  by_cases h0 : 0 ≤ at'
  · by_cases h1 : at' < 64
    · have E : Fm.inP at' = true := Fm.inP_iff.2 ⟨h0, h1⟩
      rw [E]
      clear E
      go_enter Try.func34, Try.ntmps34
      go_wp2
      go_ret
      exact ⟨rfl, rfl⟩
    · have E : Fm.inP at' = false := by cases e : Fm.inP at' with | false => rfl | true => exact absurd (Fm.inP_iff.1 e).2 h1
      rw [E]
      clear E
      go_enter Try.func34, Try.ntmps34
      go_wp2
      go_ret
      exact ⟨rfl, rfl⟩
  · have E : Fm.inP at' = false := by cases e : Fm.inP at' with | false => rfl | true => exact absurd (Fm.inP_iff.1 e).1 h0
    rw [E]
    clear E
    go_enter Try.func34, Try.ntmps34
    go_wp2
    go_ret
    exact ⟨rfl, rfl⟩
theorem Tog.xhas (h : Tog w0 S w l) {i p : Nat} {L : Fm} (hi : l[i]? = some (kFr p L)) (f : Int) (hf : InI f) : Calls Try.prog 15 #[.pointer (some ⟨p, 0, none⟩), .int .i64 f] w fun e w' => e = .returned (.bool (L.has f)) ∧ w' = w := by
  have SZ := Lib.hid (h.xsize hi)
  obtain ⟨B, a, c, a', c', _, c0, c1, H⟩ := h.frAt hi
  have hle := (h.okFr hi).len
  clear h hi
  by_cases h0 : 0 ≤ f
  · by_cases h1 : f < L.length
    · obtain ⟨m, rfl⟩ : ∃ m : Nat, f = m := ⟨f.toNat, by omega⟩
      obtain ⟨o, ho⟩ : ∃ o, L[m]? = some o := ⟨_, List.getElem?_eq_getElem (by omega)⟩
      obtain ⟨g, g', rfl, rfl, hb, _⟩ := H m o ho
      have E : L.has (m : Int) = o.isSome := by unfold Fm.has; rw [Fm.pg_at, ho]; rfl
      rw [E]
      clear H E ho
      go_enter Try.func15, Try.ntmps15
      go_wp2_with (go_at_call 21; refine SZ.out.mono ?_; rintro e w' ⟨rfl, rfl⟩)
      go_ret
      exact ⟨rfl, rfl⟩
    · have E : L.has f = false := by unfold Fm.has; rw [Fm.pg_big L (by omega)]; rfl
      rw [E]
      clear H E
      go_enter Try.func15, Try.ntmps15
      go_wp2_with (go_at_call 21; refine SZ.out.mono ?_; rintro e w' ⟨rfl, rfl⟩)
      go_ret
      exact ⟨rfl, rfl⟩
  · have E : L.has f = false := by unfold Fm.has; rw [Fm.pg_neg L (by omega)]; rfl
    rw [E]
    clear H E
    go_enter Try.func15, Try.ntmps15
    go_wp2
    go_ret
    exact ⟨rfl, rfl⟩
theorem Tog.xindex (h : Tog w0 S w l) {i p : Nat} {L : Fm} (hi : l[i]? = some (kFr p L)) {a' : Option Addr} {c' : Nat} (hc : w.cell? ⟨p, 1, none⟩ = some (.slice a' L.length c')) :
    Calls Try.prog 35 #[.slice a' L.length c', .bool false] w fun e w' => e = .returned (.int .i64 (if L.hole < L.length then (L.hole : Int) else -1)) ∧ w' = w := by
  obtain ⟨_, _, _, a2, c2, _, _, c1, H⟩ := h.frAt hi
  have hle := (h.okFr hi).len
  obtain ⟨rfl, rfl⟩ : a' = a2 ∧ c' = c2 := by rw [c1] at hc; simp at hc; exact ⟨hc.1.symm, hc.2.symm⟩
  have CE := Lib.hid (show ∀ (m : Nat) (o : Option (List UInt8)), L[m]? = some o → ∃ g, a' = some ⟨g, 0, none⟩ ∧ w.cell? ⟨g, m, none⟩ = some (.bool o.isSome) from fun m o ho => by
    obtain ⟨_, g', _, e, hb, _⟩ := H m o ho; exact ⟨g', e, hb⟩)
  have HLE := L.hole_le
  obtain ⟨R, hR⟩ : ∃ R, R = (if L.hole < L.length then (L.hole : Int) else -1) := ⟨_, rfl⟩
  rw [← hR]
  have HR := Lib.hid hR
  clear h hi hc c1 H hR
  go_enter Try.func35, Try.ntmps35
  go_wp2_with fail
  go_loopw [8, 5] (fun i _ wr => ∃ j : Nat, j ≤ L.length ∧ i = .int .i64 (j : Int) ∧ wr = w ∧ Hid (j ≤ L.hole)) (fun i _ _ => L.length - (intOf i).toNat)
  case atStart => exact ⟨0, Nat.zero_le _, rfl, rfl, Lib.hid (Nat.zero_le _)⟩
  case round =>
    obtain ⟨j, hj, rfl, rfl, HO⟩ := hrel
    by_cases hlt : j < L.length
    · obtain ⟨o, ho⟩ : ∃ o, L[j]? = some o := ⟨_, List.getElem?_eq_getElem hlt⟩
      obtain ⟨g, rfl, hb⟩ := CE.out j o ho
      have g0 : (0 : Int) ≤ (j : Int) := by omega
      have g1 : (j : Int) < (L.length : Int) := by omega
      have w1 : wrap64 ((j : Int) + 1) = (j : Int) + 1 := by unfold wrap64; omega
      have W1 := Lib.hid w1
      have MEAS := Lib.hid (show L.length - (intOf (.int .i64 ((j : Int) + 1))).toNat < L.length - (intOf (.int .i64 (j : Int))).toNat by simp [intOf]; omega)
      cases o with
      | none =>
        have E := Lib.hid (show R = (j : Int) by rw [HR.out, if_pos (by rw [Fm.hole_none HO.out ho]; exact hlt), Fm.hole_none HO.out ho])
        simp only [Option.isSome_none] at hb
        clear ho hlt hj w1 HLE
        go_wp2
        go_ret
        exact ⟨by rw [E.out]; rfl, rfl⟩
      | some q =>
        have G := Lib.hid (show ∃ j' : Nat, j' ≤ L.length ∧ Value.int .i64 ((j : Int) + 1) = .int .i64 (j' : Int) ∧ True ∧ Hid (j' ≤ L.hole) from ⟨j + 1, hlt, rfl, trivial, Lib.hid (Fm.hole_some HO.out ho)⟩)
        simp only [Option.isSome_some] at hb
        clear ho hlt hj w1 HLE
        go_wp2
        go_roundw
        case rel => first | exact G.out | (rw [W1.out]; exact G.out)
        case measure => first | exact MEAS.out | (rw [W1.out]; exact MEAS.out)
    · have g1 : ¬ (j : Int) < (L.length : Int) := by omega
      have E := Lib.hid (show R = -1 by have := HO.out; rw [HR.out, if_neg (by omega)])
      clear hlt hj HO HLE
      go_wp2
      go_ret
      exact ⟨by rw [E.out]; rfl, rfl⟩
theorem Tog.xused (h : Tog w0 S w l) {i p : Nat} {L : Fm} (hi : l[i]? = some (kFr p L)) : Calls Try.prog 13 #[.pointer (some ⟨p, 0, none⟩)] w fun e w' => e = .returned (.int .i64 L.used) ∧ w' = w := by
  obtain ⟨_, _, _, a', c', _, _, c1, H⟩ := h.frAt hi
  have hle := (h.okFr hi).len
  have CE := Lib.hid (show ∀ (m : Nat) (o : Option (List UInt8)), L[m]? = some o → ∃ g, a' = some ⟨g, 0, none⟩ ∧ w.cell? ⟨g, m, none⟩ = some (.bool o.isSome) from fun m o ho => by
    obtain ⟨_, g', _, e, hb, _⟩ := H m o ho; exact ⟨g', e, hb⟩)
  obtain ⟨R, hR⟩ : ∃ R, R = L.used := ⟨_, rfl⟩
  rw [← hR]
  have HR := Lib.hid hR
  clear h hi H hR
  go_enter Try.func13, Try.ntmps13
  go_wp2_with fail
  go_loopw [11, 3, 5] (fun i n _ wr => ∃ j : Nat, j ≤ L.length ∧ i = .int .i64 (j : Int) ∧ n = .int .i64 ((L.take j).countP (fun o => o.isSome)) ∧ wr = w) (fun i _ _ _ => L.length - (intOf i).toNat)
  case atStart => exact ⟨0, Nat.zero_le _, rfl, rfl, rfl⟩
  case round =>
    obtain ⟨j, hj, rfl, rfl, rfl⟩ := hrel
    have hcl : (L.take j).countP (fun o => o.isSome) ≤ j := Nat.le_trans List.countP_le_length (by rw [List.length_take]; omega)
    by_cases hlt : j < L.length
    · obtain ⟨o, ho⟩ : ∃ o, L[j]? = some o := ⟨_, List.getElem?_eq_getElem hlt⟩
      obtain ⟨g, rfl, hb⟩ := CE.out j o ho
      have g0 : (0 : Int) ≤ (j : Int) := by omega
      have g1 : (j : Int) < (L.length : Int) := by omega
      have w1 : wrap64 ((j : Int) + 1) = (j : Int) + 1 := by unfold wrap64; omega
      have W1 := Lib.hid w1
      have MEAS := Lib.hid (show L.length - (intOf (.int .i64 ((j : Int) + 1))).toNat < L.length - (intOf (.int .i64 (j : Int))).toNat by simp [intOf]; omega)
      have ts : L.take (j + 1) = L.take j ++ [o] := by rw [List.take_succ_eq_append_getElem hlt, (List.getElem?_eq_some_iff.1 ho).2]
      generalize hk : (L.take j).countP (fun o => o.isSome) = k at *
      cases o with
      | none =>
        have G := Lib.hid (show ∃ j' : Nat, j' ≤ L.length ∧ Value.int .i64 ((j : Int) + 1) = .int .i64 (j' : Int) ∧ Value.int .i64 (k : Int) = .int .i64 ((L.take j').countP (fun o => o.isSome)) ∧ True from ⟨j + 1, hlt, rfl, by rw [ts, List.countP_append, hk]; simp, trivial⟩)
        simp only [Option.isSome_none] at hb
        clear ho hlt hj w1 ts hk
        go_wp2
        go_roundw
        case rel => first | exact G.out | (rw [W1.out]; exact G.out)
        case measure => first | exact MEAS.out | (rw [W1.out]; exact MEAS.out)
      | some q =>
        have w2 : wrap64 ((k : Int) + 1) = (k : Int) + 1 := by unfold wrap64; omega
        have W2 := Lib.hid w2
        have G := Lib.hid (show ∃ j' : Nat, j' ≤ L.length ∧ Value.int .i64 ((j : Int) + 1) = .int .i64 (j' : Int) ∧ Value.int .i64 ((k : Int) + 1) = .int .i64 ((L.take j').countP (fun o => o.isSome)) ∧ True from ⟨j + 1, hlt, rfl, by rw [ts, List.countP_append, hk]; simp, trivial⟩)
        simp only [Option.isSome_some] at hb
        clear ho hlt hj w1 w2 ts hk
        go_wp2
        go_roundw
        case rel => first | exact G.out | (rw [W1.out]; exact G.out) | (rw [W1.out, W2.out]; exact G.out) | (rw [W2.out]; exact G.out)
        case measure => first | exact MEAS.out | (rw [W1.out]; exact MEAS.out)
    · obtain rfl : j = L.length := by omega
      have g1 : ¬ (L.length : Int) < (L.length : Int) := by omega
      have E := Lib.hid (show ((L.take L.length).countP (fun o => o.isSome)) = R by rw [HR.out, List.take_length]; rfl)
      clear hlt hj
      rw [E.out]
      rw [E.out] at hcl
      go_wp2
      go_ret
      exact ⟨rfl, rfl⟩
theorem Tog.pageAt (h : Tog w0 S w l) {i p : Nat} {L : Fm} (hi : l[i]? = some (kFr p L)) {m : Nat} {q : List UInt8} (hq : L[m]? = some (some q)) : ∃ g c, w.cell? ⟨p, 0, none⟩ = some (.slice (some ⟨g, 0, none⟩) L.length c) ∧ q.length = 64 ∧ ∀ (j : Nat) (b : UInt8), q[j]? = some b → w.cell? ⟨g, m * 64 + j, none⟩ = some (.int .u8 (b.toNat : Int)) := by
  obtain ⟨B, a, c, a', c', hB, c0, c1, H⟩ := h.frAt hi
  obtain ⟨g, g', rfl, rfl, _, hc⟩ := H m _ hq
  have hql := (h.okFr hi).sz m q hq
  refine ⟨g, c, c0, hql, fun j b hb => ?_⟩
  have hj : j < 64 := by have := (List.getElem?_eq_some_iff.1 hb).1; omega
  exact hc _ _ (byteCells_at (by rw [hB.byte hq hj]; exact hb))
theorem Tog.xbyte (h : Tog w0 S w l) {i p : Nat} {L : Fm} (hi : l[i]? = some (kFr p L)) (f at' : Int) (hf : InI f) : Calls Try.prog 17 #[.pointer (some ⟨p, 0, none⟩), .int .i64 f, .int .i64 at'] w fun e w' => e = .returned (.int .u8 (L.byte f at')) ∧ w' = w := by
  have HAS := h.xhas hi f hf
  have INP := inPage_any at' w
  have hle := (h.okFr hi).len
  cases hp : L.pg f with
  | none =>
    have E : L.byte f at' = 0 := by unfold Fm.byte; rw [hp]; split <;> simp
    have e1 : L.has f = false := by unfold Fm.has; rw [hp]; rfl
    rw [E]
    rw [e1] at HAS
    have C := Lib.hid HAS
    clear h hi E e1 HAS INP hp
    go_enter Try.func17, Try.ntmps17
    go_wp2_with (go_at_call 15; refine C.out.mono ?_; rintro e w' ⟨rfl, rfl⟩)
    go_ret
    exact ⟨rfl, rfl⟩
  | some q =>
    have e1 : L.has f = true := by unfold Fm.has; rw [hp]; rfl
    obtain ⟨m, rfl, hm, hq⟩ := Fm.pg_some hp
    obtain ⟨g, c, c0, hql, H⟩ := h.pageAt hi hq
    rw [e1] at HAS
    have C := Lib.hid HAS
    cases hin : Fm.inP at' with
    | false =>
      rw [hin] at INP
      have D := Lib.hid INP
      have E : L.byte (m : Int) at' = 0 := by unfold Fm.byte; rw [if_neg (fun e => by rw [Fm.inP_iff.2 e] at hin; cases hin)]
      rw [E]
      clear h hi E e1 HAS INP hp H hq
      go_enter Try.func17, Try.ntmps17
      go_wp2_with (first
        | (go_at_call 15; refine C.out.mono ?_; rintro e w' ⟨rfl, rfl⟩)
        | (go_at_call 34; refine D.out.mono ?_; rintro e w' ⟨rfl, rfl⟩))
      go_ret
      exact ⟨rfl, rfl⟩
    | true =>
      rw [hin] at INP
      have D := Lib.hid INP
      obtain ⟨h0, h1⟩ := Fm.inP_iff.1 hin
      obtain ⟨k, rfl⟩ : ∃ k : Nat, at' = k := ⟨at'.toNat, by omega⟩
      obtain ⟨b, hb⟩ : ∃ b, q[k]? = some b := ⟨_, List.getElem?_eq_getElem (by omega)⟩
      have cb := H k b hb
      have E : L.byte (m : Int) (k : Int) = b.toNat := by unfold Fm.byte; rw [if_pos ⟨h0, h1⟩, hp, Int.toNat_natCast, Option.getD_some, hb]; rfl
      rw [E]
      have g0 : (0 : Int) ≤ (m : Int) := by omega
      have g1 : (m : Int) < (L.length : Int) := by omega
      clear h hi E e1 HAS INP hp H hq hin hb
      go_enter Try.func17, Try.ntmps17
      go_wp2_with (first
        | (go_at_call 15; refine C.out.mono ?_; rintro e w' ⟨rfl, rfl⟩)
        | (go_at_call 34; refine D.out.mono ?_; rintro e w' ⟨rfl, rfl⟩))
      go_ret
      exact ⟨rfl, rfl⟩
theorem Tog.xpage (h : Tog w0 S w l) {i p : Nat} {L : Fm} (hi : l[i]? = some (kFr p L)) (f : Int) (hf : InI f) : Calls Try.prog 19 #[.pointer (some ⟨p, 0, none⟩), .int .i64 f] w fun e w' => e = .returned (.string (L.page f)) ∧ w' = w := by
  have HAS := h.xhas hi f hf
  have hle := (h.okFr hi).len
  cases hp : L.pg f with
  | none =>
    have E : L.page f = ⟨#[]⟩ := by unfold Fm.page; rw [hp]; rfl
    have e1 : L.has f = false := by unfold Fm.has; rw [hp]; rfl
    rw [E]
    rw [e1] at HAS
    have C := Lib.hid HAS
    clear h hi E e1 HAS hp
    go_enter Try.func19, Try.ntmps19
    go_wp2_with (go_at_call 15; refine C.out.mono ?_; rintro e w' ⟨rfl, rfl⟩)
    go_ret
    exact ⟨rfl, rfl⟩
  | some q =>
    have e1 : L.has f = true := by unfold Fm.has; rw [hp]; rfl
    obtain ⟨m, rfl, hm, hq⟩ := Fm.pg_some hp
    obtain ⟨g, c, c0, hql, H⟩ := h.pageAt hi hq
    rw [e1] at HAS
    have C := Lib.hid HAS
    have E : L.page (m : Int) = bs q := by unfold Fm.page; rw [hp]; rfl
    have CV : (convert 46 9 (.slice (some ⟨g, m * 64, none⟩) 64 64)).run Try.prog w = .ok (.string (bs q)) w := by
      have := run_convert_bytes_back (P := Try.prog) w 46 9 5 ⟨g, m * 64, none⟩ 64 q Try.underlying46 Try.underlying5 Try.underlying9 (fun j hj => by
        rw [addr_add]; exact H j _ (List.getElem?_eq_getElem hj))
      rw [hql] at this
      exact this
    rw [E]
    have g0 : (0 : Int) ≤ (m : Int) := by omega
    have g1 : (m : Int) < (L.length : Int) := by omega
    clear h hi E e1 HAS hp H hq
    go_enter Try.func19, Try.ntmps19
    go_wp2_with (go_at_call 15; refine C.out.mono ?_; rintro e w' ⟨rfl, rfl⟩)
    go_ret
    exact ⟨rfl, rfl⟩
end
end Go.Proofs.Ytpabkaihppnddaa
