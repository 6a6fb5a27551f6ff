/-
  WireReads: the statement's own walk.
-/
import Derived.Test.YtenlbohacgamlaaDoorRs
import Derived.Test.YtenlbohacgamlaaDoorLb
namespace Go.Proofs.YtenlbohacgamlaaDoor
open Go.RowKit WireM
set_option linter.unusedVariables false
set_option linter.unusedSimpArgs false

def vOf {α : Type} (d : α) (r : Option (α × List UInt8)) : α := match r with | some p => p.1 | none => d
def sOf {α : Type} (r : Option (α × List UInt8)) : ByteArray := match r with | some p => bs p.2 | none => bs []
def fOf {α : Type} (r : Option (α × List UInt8)) : Bool := match r with | some _ => false | none => true
theorem fOf_true {α : Type} (r : Option (α × List UInt8)) (h : fOf r = true) : sOf r = bs [] := by
  cases r with
  | none => rfl
  | some p => cases h
theorem sOf_le {α : Type} {r : Option (α × List UInt8)} {s : ByteArray} (h : ∀ v t, r = some (v, t) → t.length ≤ s.data.toList.length) (hs : s.size ≤ 400) : (sOf r).size ≤ 400 := by
  have h0 : s.size = s.data.toList.length := by simp
  cases r with
  | none => show (bs []).size ≤ 400; exact Nat.zero_le _
  | some p =>
    have := h p.1 p.2 rfl
    show (bs p.2).size ≤ 400
    rw [bs_size]; omega
theorem rd_pick {α : Type} {b : Nat} {w w' : World} {f : Bool} {mk : α → Value} {d : α} {r : Option (α × List UInt8)} {en : Ending} (h : RdPost b w f mk (mk d) r en w') (hf : f = true → r = none) :
    en = .returned (mk (vOf d r)) ∧ RdOut b w w' (sOf r) (fOf r) := by
  cases r with
  | none => exact h
  | some p =>
    cases f
    · exact h
    · cases hf rfl
theorem rq_pick {α : Type} {b : Nat} {w w' : World} {f : Bool} {mk : α → Value} {d : α} {r : Option (α × List UInt8)} {en : Ending} (h : RqPost b w f mk (mk d) r en w') (hf : f = true → r = none) :
    en = .returned (mk (vOf d r)) ∧ RqOut b w w' (sOf r) (fOf r) := by
  cases r with
  | none => exact h
  | some p =>
    cases f
    · exact h
    · cases hf rfl
theorem rdNum_le {L t : List UInt8} {v : Int} (h : rdNum L = some (v, t)) : t.length ≤ L.length := by
  unfold rdNum at h
  cases hd : dgMax 59 L with
  | none => rw [hd] at h; cases h
  | some p =>
    rw [hd] at h
    have := dgMax_len hd
    simp at h
    rw [← h.2]; omega
theorem Rd.past {w w' : World} {b q : Nat} {s : ByteArray} {f : Bool} (h : Rd w b s f) (g : w.grownBy w' (some q)) (hne : b ≠ q) : Rd w' b s f := (g.block b h.lt (by simp; omega)).trans h
theorem Rq.past {w w' : World} {b q : Nat} {s : ByteArray} {f : Bool} (h : Rq w b s f) (g : w.grownBy w' (some q)) (hne : b ≠ q) : Rq w' b s f := (g.block b h.lt (by simp; omega)).trans h

theorem rdNums_le {L t : List UInt8} {v : List Int} (h : rdNums L = some (v, t)) : t.length ≤ L.length := by
  have e := congrArg List.length (rdNums_canon h)
  rw [List.length_append] at e; omega
theorem rdTexts_le {L t : List UInt8} {v : List ByteArray} (h : rdTexts L = some (v, t)) : t.length ≤ L.length := by
  have e := congrArg List.length (rdTexts_canon h)
  rw [List.length_append] at e; omega
theorem encTexts_ge (l : List ByteArray) : l.length ≤ (encTexts l).length := by
  have h : ∀ l : List ByteArray, l.length ≤ (l.flatMap fun s => encText s.data.toList).length := by
    intro l
    induction l with
    | nil => simp
    | cons x r ih =>
      have h1 : 1 ≤ (encText x.data.toList).length := by unfold encText; simp; try omega
      rw [List.flatMap_cons, List.length_append, List.length_cons]; omega
  have := h l
  simp only [encTexts, encList, List.length_append, List.length_cons, List.length_nil]
  omega
theorem numsLen {s : ByteArray} (hs : s.size ≤ 400) : (vOf [] (rdNums s.data.toList)).length ≤ 1099511627776 := by
  have h0 : s.size = s.data.toList.length := by simp
  cases h : rdNums s.data.toList with
  | none => exact Nat.zero_le _
  | some p =>
    have e := congrArg List.length (rdNums_canon (l := p.1) (t := p.2) h)
    have g := encNums_ge p.1
    rw [List.length_append] at e
    show p.1.length ≤ _
    omega
theorem textsLen {s : ByteArray} (hs : s.size ≤ 400) : (vOf [] (rdTexts s.data.toList)).length ≤ 1099511627776 := by
  have h0 : s.size = s.data.toList.length := by simp
  cases h : rdTexts s.data.toList with
  | none => exact Nat.zero_le _
  | some p =>
    have e := congrArg List.length (rdTexts_canon (l := p.1) (t := p.2) h)
    have g := encTexts_ge p.1
    rw [List.length_append] at e
    show p.1.length ≤ _
    omega
theorem rl_pick {α : Type} {b : Nat} {ty : TypeId} {w w' : World} {mk : α → Value} {r : Option (List α × List UInt8)} {en : Ending} (h : RlPost b ty mk w r en w') :
    ∃ v, en = .returned v ∧ w'.ownsRow w.heap.size ty 1 v (vOf [] r).length ((vOf [] r).map mk) ∧ RdOut b w w' (sOf r) (fOf r) := by
  cases r with
  | none => exact ⟨_, h.1, World.ownsRow_nil _ _ _ _, h.2⟩
  | some p => obtain ⟨⟨v, h1, h2⟩, h3⟩ := h; exact ⟨v, h1, h2, h3⟩
theorem ql_pick {α : Type} {b : Nat} {ty : TypeId} {w w' : World} {mk : α → Value} {r : Option (List α × List UInt8)} {en : Ending} (h : QlPost b ty mk w r en w') :
    ∃ v, en = .returned v ∧ w'.ownsRow w.heap.size ty 1 v (vOf [] r).length ((vOf [] r).map mk) ∧ RqOut b w w' (sOf r) (fOf r) := by
  cases r with
  | none => exact ⟨_, h.1, World.ownsRow_nil _ _ _ _, h.2⟩
  | some p => obtain ⟨⟨v, h1, h2⟩, h3⟩ := h; exact ⟨v, h1, h2, h3⟩
theorem text_nil : rdText (bs []).data.toList = none := by rw [bs_data]; rfl

set_option maxHeartbeats 4000000 in
set_option maxRecDepth 100000 in
theorem reads_any (s : ByteArray) (a : Option Addr) (cap : Nat) (l : List Int) (w : World) (ht : Tab w) (hm : s.size ≤ 9223372036854775807) (hl : l.length ≤ 9223372036854775807) (hc : CellsIn w.heap.size w a (l.map (Value.int .i64))) :
    Calls Tryd.prog 4 #[.string s, .slice a l.length cap] w fun e w' => e = .returned (.bool true) ∧ Below w.heap.size w w' := by
  have HC := Lib.hid hc
  clear hc
  go_enter Tryd.func4, Tryd.ntmps4
  go_wp2_with fail
  go_at_call 9
  refine (small_any _ ht).mono ?_
  rintro e w1 ⟨rfl, b1⟩
  by_cases hs : 400 < s.size
  · go_wp2_with fail
    go_ret
    exact ⟨rfl, b1⟩
  · by_cases hn : 20 < l.length
    · go_wp2_with fail
      go_ret
      exact ⟨rfl, b1⟩
    · have dn : decide (20 < (l.length : Int)) = false := by simp; omega
      have ds : decide (400 < (s.size : Int)) = false := by simp; omega
      go_wp2_with fail
      go_at_call 21
      refine (open_any s _).mono ?_
      rintro e w2 ⟨rfl, hr, b2⟩
      have hB := b1.size
      replace b1 := below_step b1 b2
      clear b2
      generalize w1.heap.size = r at *
      go_wp2_with fail
      go_at_call 22
      refine (qopen_any s _).mono ?_
      rintro e w3 ⟨rfl, hq, b3⟩
      have hQ := b1.size
      have hrq := hr.lt
      replace b1 := below_step b1 b3
      replace hr := hr.below b3
      clear b3
      generalize w2.heap.size = q at *
      go_wp2_with fail
      go_loopw [8] (fun i wq => ∃ k s' f', k ≤ l.length ∧ i = .int .i64 (k : Nat) ∧ Rd wq r s' f' ∧ Rq wq q s' f' ∧ (f' = true → s' = bs []) ∧ s'.size ≤ 400 ∧ Below w.heap.size w wq) (fun i _ => l.length - (intOf i).toNat)
      case atStart => exact ⟨0, s, false, Nat.zero_le _, rfl, hr, hq, (fun h => by cases h), by omega, b1⟩
      case round =>
        obtain ⟨k, s', f', hk, rfl, hrd, hrq2, hf, hs', bk⟩ := hrel
        clear hr hq b1
        by_cases hlt : k < l.length
        · rcases HC.out with h1 | ⟨bb, o, rfl, hb, hcells⟩
          · simp at h1; subst h1; simp at hlt
          · have c0 : wr.cell? ⟨bb, o + k, none⟩ = some (.int .i64 l[k]) := by
              rw [bk.cell (p := ⟨bb, o + k, none⟩) hb, hcells k (by simpa using hlt)]; simp [hlt]
            clear hcells
            generalize l[k] = K at *
            go_wp2_with fail
            go_at_call 23
            refine (kind_any K 0 .empty none none 0 0 0 0 _).mono ?_
            rintro e w4 ⟨rfl, b4⟩
            replace bk := bk.trans (b4.mono bk.size)
            replace hrd := hrd.below b4
            replace hrq2 := hrq2.below' b4
            clear b4 c0
            by_cases hk0 : K % 5 = 0
            · have HK := Lib.hid hk0
              clear hk0
              rw [HK.out]
              go_wp2_with fail
              go_at_call 24
              refine (rNum_any r s' f' _ hrd (by omega)).mono ?_
              rintro e w5 hp
              obtain ⟨rfl, ho⟩ := rd_pick (d := (0 : Int)) hp (fun h => by rw [hf h]; rfl)
              have hq5 := hrq2.past ho.2 (by omega)
              clear hp
              go_wp2_with fail
              go_at_call 25
              refine (qNum_any q s' f' _ hq5 (by omega)).mono ?_
              rintro e w6 hp
              obtain ⟨rfl, ho6⟩ := rq_pick (d := (0 : Int)) hp (fun h => by rw [hf h]; rfl)
              have hd6 := ho.1.past ho6.2 (by omega)
              have hlt5 := ho.1.lt
              replace bk := (bk.trans (below_of_grownBy ho.2 hB hrd.lt)).trans (below_of_grownBy ho6.2 hQ hq5.lt)
              have hs6 : (sOf (rdNum s'.data.toList)).size ≤ 400 := sOf_le (fun _ _ => rdNum_le) hs'
              have hf6 := fOf_true (rdNum s'.data.toList)
              have hq6 := ho6.1
              clear hp ho ho6 hq5
              generalize sOf (rdNum s'.data.toList) = s6 at *
              generalize fOf (rdNum s'.data.toList) = f6 at *
              generalize vOf (0 : Int) (rdNum s'.data.toList) = v6 at *
              go_wp2_with fail
              go_at_call 36
              refine (left_any r _ _ _ hd6).mono ?_
              rintro e w7 ⟨rfl, rfl⟩
              go_wp2_with fail
              go_at_call 37
              refine (qleft_any q _ _ _ hq6).mono ?_
              rintro e w7 ⟨rfl, rfl⟩
              go_wp2_with fail
              go_at_call 38
              refine (done_any r _ _ _ hd6).mono ?_
              rintro e w7 ⟨rfl, rfl⟩
              go_wp2_with fail
              go_at_call 39
              refine (qdone_any q _ _ _ hq6).mono ?_
              rintro e w7 ⟨rfl, rfl⟩
              go_wp2_with fail
              go_roundw
              case rel => exact ⟨k + 1, s6, f6, by omega, by go_num, hd6, hq6, hf6, hs6, bk⟩
              case measure => simp [intOf]; omega
            · skip
              by_cases hk1 : K % 5 = 1
              · have HK := Lib.hid hk1
                clear hk1
                rw [HK.out]
                go_wp2_with fail
                go_at_call 26
                refine (rInt_any r s' f' _ hrd (by omega)).mono ?_
                rintro e w5 hp
                obtain ⟨rfl, ho⟩ := rd_pick (d := (0 : Int)) hp (fun h => by rw [hf h]; rfl)
                have hq5 := hrq2.past ho.2 (by omega)
                clear hp
                go_wp2_with fail
                go_at_call 27
                refine (qInt_any q s' f' _ hq5 (by omega)).mono ?_
                rintro e w6 hp
                obtain ⟨rfl, ho6⟩ := rq_pick (d := (0 : Int)) hp (fun h => by rw [hf h]; rfl)
                have hd6 := ho.1.past ho6.2 (by omega)
                have hlt5 := ho.1.lt
                replace bk := (bk.trans (below_of_grownBy ho.2 hB hrd.lt)).trans (below_of_grownBy ho6.2 hQ hq5.lt)
                have hs6 : (sOf (rdInt s'.data.toList)).size ≤ 400 := sOf_le (fun _ _ h => Nat.le_of_lt (rdInt_len h)) hs'
                have hf6 := fOf_true (rdInt s'.data.toList)
                have hq6 := ho6.1
                clear hp ho ho6 hq5
                generalize sOf (rdInt s'.data.toList) = s6 at *
                generalize fOf (rdInt s'.data.toList) = f6 at *
                generalize vOf (0 : Int) (rdInt s'.data.toList) = v6 at *
                go_wp2_with fail
                go_at_call 36
                refine (left_any r _ _ _ hd6).mono ?_
                rintro e w7 ⟨rfl, rfl⟩
                go_wp2_with fail
                go_at_call 37
                refine (qleft_any q _ _ _ hq6).mono ?_
                rintro e w7 ⟨rfl, rfl⟩
                go_wp2_with fail
                go_at_call 38
                refine (done_any r _ _ _ hd6).mono ?_
                rintro e w7 ⟨rfl, rfl⟩
                go_wp2_with fail
                go_at_call 39
                refine (qdone_any q _ _ _ hq6).mono ?_
                rintro e w7 ⟨rfl, rfl⟩
                go_wp2_with fail
                go_roundw
                case rel => exact ⟨k + 1, s6, f6, by omega, by go_num, hd6, hq6, hf6, hs6, bk⟩
                case measure => simp [intOf]; omega
              · skip
                by_cases hk2 : K % 5 = 2
                · have HK := Lib.hid hk2
                  clear hk2
                  rw [HK.out]
                  go_wp2_with fail
                  go_at_call 28
                  refine (rText_any r s' f' _ hrd (by omega)).mono ?_
                  rintro e w5 hp
                  obtain ⟨rfl, ho⟩ := rd_pick (d := (bs [])) hp (fun h => by rw [hf h]; exact text_nil)
                  have hq5 := hrq2.past ho.2 (by omega)
                  clear hp
                  go_wp2_with fail
                  go_at_call 29
                  refine (qText_any q s' f' _ hq5 hf (by omega)).mono ?_
                  rintro e w6 hp
                  obtain ⟨rfl, ho6⟩ := rq_pick (d := (bs [])) hp (fun h => by rw [hf h]; exact text_nil)
                  have hd6 := ho.1.past ho6.2 (by omega)
                  have hlt5 := ho.1.lt
                  replace bk := (bk.trans (below_of_grownBy ho.2 hB hrd.lt)).trans (below_of_grownBy ho6.2 hQ hq5.lt)
                  have hs6 : (sOf (rdText s'.data.toList)).size ≤ 400 := sOf_le (fun _ _ h => Nat.le_of_lt (rdText_len h)) hs'
                  have hf6 := fOf_true (rdText s'.data.toList)
                  have hq6 := ho6.1
                  clear hp ho ho6 hq5
                  generalize sOf (rdText s'.data.toList) = s6 at *
                  generalize fOf (rdText s'.data.toList) = f6 at *
                  generalize vOf (bs []) (rdText s'.data.toList) = v6 at *
                  go_wp2_with fail
                  go_at_call 36
                  refine (left_any r _ _ _ hd6).mono ?_
                  rintro e w7 ⟨rfl, rfl⟩
                  go_wp2_with fail
                  go_at_call 37
                  refine (qleft_any q _ _ _ hq6).mono ?_
                  rintro e w7 ⟨rfl, rfl⟩
                  go_wp2_with fail
                  go_at_call 38
                  refine (done_any r _ _ _ hd6).mono ?_
                  rintro e w7 ⟨rfl, rfl⟩
                  go_wp2_with fail
                  go_at_call 39
                  refine (qdone_any q _ _ _ hq6).mono ?_
                  rintro e w7 ⟨rfl, rfl⟩
                  go_wp2_with fail
                  go_roundw
                  case rel => exact ⟨k + 1, s6, f6, by omega, by go_num, hd6, hq6, hf6, hs6, bk⟩
                  case measure => simp [intOf]; omega
                · skip
                  by_cases hk3 : K % 5 = 3
                  · have HK := Lib.hid hk3
                    clear hk3
                    rw [HK.out]
                    go_wp2_with fail
                    go_at_call 31
                    refine (rNums_any r s' f' _ hrd hf (by omega)).mono ?_
                    rintro e w5 hp
                    obtain ⟨x1, rfl, hown, ho⟩ := rl_pick hp
                    have hq5 := hrq2.past ho.2 (by omega)
                    have hne := own_ne hown hrq2.lt
                    clear hp
                    go_wp2_with fail
                    go_at_call 32
                    refine (qNums_any q s' f' _ hq5 hf (by omega)).mono ?_
                    rintro e w6 hp
                    obtain ⟨x2, rfl, hown2, ho6⟩ := ql_pick hp
                    replace hown := hown.kept ho6.2 hne
                    have hd6 := ho.1.past ho6.2 (by omega)
                    have hlt5 := ho.1.lt
                    replace bk := (bk.trans (below_of_grownBy ho.2 hB hrd.lt)).trans (below_of_grownBy ho6.2 hQ hq5.lt)
                    have hs6 : (sOf (rdNums s'.data.toList)).size ≤ 400 := sOf_le (fun _ _ => rdNums_le) hs'
                    have hf6 := fOf_true (rdNums s'.data.toList)
                    have hl6 := numsLen hs'
                    have hq6 := ho6.1
                    clear hp ho ho6 hq5
                    generalize sOf (rdNums s'.data.toList) = s6 at *
                    generalize fOf (rdNums s'.data.toList) = f6 at *
                    generalize vOf [] (rdNums s'.data.toList) = v6 at *
                    obtain ⟨a1, p1, rfl, hc1⟩ := own_cells hown (by simp)
                    obtain ⟨a2, p2, rfl, hc2⟩ := own_cells hown2 (by simp)
                    have HC1 := Lib.hid hc1
                    have HC2 := Lib.hid hc2
                    clear hc1 hc2 hown hown2
                    go_wp2_with fail
                    go_at_call 30
                    refine (sameNums_any a1 a2 p1 p2 v6 _ hl6 HC1.out HC2.out).mono ?_
                    rintro e w7 ⟨rfl, n7, rfl⟩
                    replace hd6 : Rd (w6.drewN n7) r s6 f6 := hd6
                    replace hq6 : Rq (w6.drewN n7) q s6 f6 := hq6
                    replace bk := Go.below_drewN bk n7
                    generalize w6.drewN n7 = w7 at *
                    go_wp2_with fail
                    go_at_call 36
                    refine (left_any r _ _ _ hd6).mono ?_
                    rintro e w7 ⟨rfl, rfl⟩
                    go_wp2_with fail
                    go_at_call 37
                    refine (qleft_any q _ _ _ hq6).mono ?_
                    rintro e w7 ⟨rfl, rfl⟩
                    go_wp2_with fail
                    go_at_call 38
                    refine (done_any r _ _ _ hd6).mono ?_
                    rintro e w7 ⟨rfl, rfl⟩
                    go_wp2_with fail
                    go_at_call 39
                    refine (qdone_any q _ _ _ hq6).mono ?_
                    rintro e w7 ⟨rfl, rfl⟩
                    go_wp2_with fail
                    go_roundw
                    case rel => exact ⟨k + 1, s6, f6, by omega, by go_num, hd6, hq6, hf6, hs6, bk⟩
                    case measure => simp [intOf]; omega
                  · have HK := Lib.hid (show K % 5 = 4 by omega)
                    clear hk0 hk1 hk2 hk3
                    rw [HK.out]
                    go_wp2_with fail
                    go_at_call 34
                    refine (rTexts_any r s' f' _ hrd hf (by omega)).mono ?_
                    rintro e w5 hp
                    obtain ⟨x1, rfl, hown, ho⟩ := rl_pick hp
                    have hq5 := hrq2.past ho.2 (by omega)
                    have hne := own_ne hown hrq2.lt
                    clear hp
                    go_wp2_with fail
                    go_at_call 35
                    refine (qTexts_any q s' f' _ hq5 hf (by omega)).mono ?_
                    rintro e w6 hp
                    obtain ⟨x2, rfl, hown2, ho6⟩ := ql_pick hp
                    replace hown := hown.kept ho6.2 hne
                    have hd6 := ho.1.past ho6.2 (by omega)
                    have hlt5 := ho.1.lt
                    replace bk := (bk.trans (below_of_grownBy ho.2 hB hrd.lt)).trans (below_of_grownBy ho6.2 hQ hq5.lt)
                    have hs6 : (sOf (rdTexts s'.data.toList)).size ≤ 400 := sOf_le (fun _ _ => rdTexts_le) hs'
                    have hf6 := fOf_true (rdTexts s'.data.toList)
                    have hl6 := textsLen hs'
                    have hq6 := ho6.1
                    clear hp ho ho6 hq5
                    generalize sOf (rdTexts s'.data.toList) = s6 at *
                    generalize fOf (rdTexts s'.data.toList) = f6 at *
                    generalize vOf [] (rdTexts s'.data.toList) = v6 at *
                    obtain ⟨a1, p1, rfl, hc1⟩ := own_cells hown (by simp)
                    obtain ⟨a2, p2, rfl, hc2⟩ := own_cells hown2 (by simp)
                    have HC1 := Lib.hid hc1
                    have HC2 := Lib.hid hc2
                    clear hc1 hc2 hown hown2
                    go_wp2_with fail
                    go_at_call 33
                    refine (sameTexts_any a1 a2 p1 p2 v6 _ hl6 HC1.out HC2.out).mono ?_
                    rintro e w7 ⟨rfl, n7, rfl⟩
                    replace hd6 : Rd (w6.drewN n7) r s6 f6 := hd6
                    replace hq6 : Rq (w6.drewN n7) q s6 f6 := hq6
                    replace bk := Go.below_drewN bk n7
                    generalize w6.drewN n7 = w7 at *
                    go_wp2_with fail
                    go_at_call 36
                    refine (left_any r _ _ _ hd6).mono ?_
                    rintro e w7 ⟨rfl, rfl⟩
                    go_wp2_with fail
                    go_at_call 37
                    refine (qleft_any q _ _ _ hq6).mono ?_
                    rintro e w7 ⟨rfl, rfl⟩
                    go_wp2_with fail
                    go_at_call 38
                    refine (done_any r _ _ _ hd6).mono ?_
                    rintro e w7 ⟨rfl, rfl⟩
                    go_wp2_with fail
                    go_at_call 39
                    refine (qdone_any q _ _ _ hq6).mono ?_
                    rintro e w7 ⟨rfl, rfl⟩
                    go_wp2_with fail
                    go_roundw
                    case rel => exact ⟨k + 1, s6, f6, by omega, by go_num, hd6, hq6, hf6, hs6, bk⟩
                    case measure => simp [intOf]; omega
        · obtain rfl : k = l.length := by omega
          have HZ := Lib.hid hf
          go_wp2_with fail
          go_at_call 40
          refine (rest_any r _ _ _ hrd).mono ?_
          rintro e w7 ⟨rfl, ho⟩
          have hq7 := hrq2.past ho.2 (by omega)
          have hr7 := ho.1
          replace bk := bk.trans (below_of_grownBy ho.2 hB hrd.lt)
          clear ho
          go_wp2_with fail
          go_at_call 41
          refine (qtail_any q _ _ _ hq7).mono ?_
          rintro e w8 ⟨rfl, ho⟩
          have hr8 := hr7.past ho.2 (by omega)
          have hq8 := ho.1
          replace bk := bk.trans (below_of_grownBy ho.2 hQ hq7.lt)
          clear ho
          go_wp2_with fail
          go_at_call 36
          refine (left_any r _ _ _ hr8).mono ?_
          rintro e w9 ⟨rfl, rfl⟩
          go_wp2_with fail
          go_at_call 37
          refine (qleft_any q _ _ _ hq8).mono ?_
          rintro e w9 ⟨rfl, rfl⟩
          go_wp2_with fail
          go_at_call 38
          refine (done_any r _ _ _ hr8).mono ?_
          rintro e w9 ⟨rfl, rfl⟩
          go_wp2_with fail
          go_at_call 39
          refine (qdone_any q _ _ _ hq8).mono ?_
          rintro e w9 ⟨rfl, rfl⟩
          go_wp2_with fail
          go_ret
          exact ⟨rfl, bk⟩
end Go.Proofs.YtenlbohacgamlaaDoor
