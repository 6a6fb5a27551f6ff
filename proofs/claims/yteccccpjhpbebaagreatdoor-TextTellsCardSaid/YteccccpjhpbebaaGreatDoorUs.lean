/-
  ROWS OF BOOLS THAT THE CALL HAS MADE.
-/
import Derived.Test.YteccccpjhpbebaaGreatDoorUo
import Derived.OneCell
import Derived.RegionTactic
namespace Go.Proofs.YteccccpjhpbebaaGreatDoor
open Go.RowKit WireM
set_option linter.unusedVariables false
set_option linter.unusedSimpArgs false

theorem infoBool : (Tryz.prog.info? 4).map (fun i => (i.zero, i.size, i.bytes)) = some (some (.bool false), 1, 1) := by kernel_rfl
def boolCells (n : Nat) (f : Nat → Bool) : List Value := (List.range n).map fun j => .bool (f j)
theorem boolCells_len (n : Nat) (f : Nat → Bool) : (boolCells n f).length = n := by simp [boolCells]
theorem boolCells_at (n : Nat) (f : Nat → Bool) (j : Nat) (h : j < n) : (boolCells n f)[j]? = some (.bool (f j)) := by simp [boolCells, h]
theorem boolCells_congr {n : Nat} {f f' : Nat → Bool} (h : ∀ j, j < n → f j = f' j) : boolCells n f = boolCells n f' := by
  unfold boolCells
  refine List.map_congr_left fun j hj => ?_
  rw [h j (List.mem_range.1 hj)]
theorem boolCells_set (n : Nat) (f : Nat → Bool) (j : Nat) (u : Bool) : (boolCells n f).set j (.bool u) = boolCells n (fun i => if i = j then u else f i) := by
  apply List.ext_getElem?
  intro i
  by_cases hi : i < n
  · rw [boolCells_at n _ i hi, List.getElem?_set, boolCells_len]
    by_cases e : j = i
    · subst e; simp [hi]
    · rw [if_neg e, boolCells_at n f i hi, if_neg (fun h => e h.symm)]
  · rw [List.getElem?_eq_none (by rw [List.length_set, boolCells_len]; omega), List.getElem?_eq_none (by rw [boolCells_len]; omega)]
/-- A slice of bools at the head of its own block. -/
def BRow (B g n : Nat) (f : Nat → Bool) (wr : World) : Prop := wr.ownsRow B 4 1 (.slice (some ⟨g, 0, none⟩) n n) n (boolCells n f)
theorem BRow.congr {B g n : Nat} {f f' : Nat → Bool} {wr : World} (h : BRow B g n f wr) (he : ∀ j, j < n → f j = f' j) : BRow B g n f' wr := by
  unfold BRow; rw [← boolCells_congr he]; exact h
theorem BRow.cell {B g n : Nat} {f : Nat → Bool} {wr : World} (h : BRow B g n f wr) (j : Nat) (hj : j < n) : wr.cell? ⟨g, j, none⟩ = some (.bool (f j)) := by
  rw [World.ownsRow.cellAt h j (by omega), boolCells_at n f j hj]
theorem BRow.free {B g n : Nat} {f : Nat → Bool} {wr : World} (h : BRow B g n f wr) (j : Nat) : wr.frozen? ⟨g, j, none⟩ = false := World.ownsRow.frozenAt h j
theorem BRow.lt {B g n : Nat} {f : Nat → Bool} {wr : World} (h : BRow B g n f wr) : B ≤ g ∧ g < wr.heap.size := World.ownsRow.lt h g rfl
theorem BRow.below {B g n : Nat} {f : Nat → Bool} {wr w2 : World} (h : BRow B g n f wr) (hb : Below wr.heap.size wr w2) : BRow B g n f w2 :=
  World.ownsRow.kept h (grownBy_of_below hb) (.inr (by simp [Value.ownBlock]))
theorem BRow.store {B g n : Nat} {f : Nat → Bool} {wr : World} (h : BRow B g n f wr) (j : Nat) (u : Bool) : BRow B g n (fun i => if i = j then u else f i) (wr.setCell ⟨g, j, none⟩ (.bool u)) := by
  have := (World.ownsRow.stored h j (.bool u)).1
  rw [boolCells_set] at this
  exact this
theorem BRow.other {B g g2 n : Nat} {f : Nat → Bool} {wr : World} (h : BRow B g n f wr) (hne : g ≠ g2) (j : Nat) (u : Value) : BRow B g n f (wr.setCell ⟨g2, j, none⟩ u) :=
  ownsRow_setCell_other h (by simpa [Value.ownBlock] using hne) u
theorem wpList_make_bools (w : World) {ops : Array Oper} {rest : List Oper} {o : Oper} {a : Act} {Q : Exit → Act → World → Prop}
    (hg : o.guard = none) (l c : Operand) (hop : o.op = Op.makeSlice 54 l c) (B n : Nat) (C : Int) (hl : a.eval l = .int .i64 C) (hc : a.eval c = .int .i64 C) (hC : C = (n : Int)) (hn : n ≤ 1000000000) (hB : B ≤ w.heap.size)
    (hK : ∀ g w', w.heap.size ≤ g → BRow B g n (fun _ => false) w' → Below w.heap.size w w' → wpList Tryz.prog ops Q rest (a.put o.dst (.slice (some ⟨g, 0, none⟩) n n)) w') :
    wpList Tryz.prog ops Q (o :: rest) a w := by
  obtain ⟨i0, hi, hz0, hz1, hz2⟩ := info_parts infoBool
  refine wpList_make_full w hg l c _ hop B 4 i0 (.bool false) 1 Tryz.underlying54 hi hz0 hz1 .i64 .i64 C C n hl hc hC hC (by rw [hz2]; omega) (by unfold maxLen; omega) hB ?_
  intro w' h1 h2
  refine hK _ w' (Nat.le_refl _) ?_ ((Below.refl _ _).grown h2 (Nat.le_refl _) (fun k h => by cases h))
  have e : (madeCells (Value.cells (.bool false)) (n * 1)).toList = boolCells n (fun _ => false) := by
    show (madeCells #[.bool false] (n * 1)).toList = _
    rw [toList_madeCells_one, Nat.mul_one]
    apply List.ext_getElem?
    intro j
    by_cases hj : j < n
    · rw [boolCells_at n _ j hj]; simp [hj]
    · rw [List.getElem?_eq_none (by simp; omega), List.getElem?_eq_none (by rw [boolCells_len]; omega)]
  rw [e] at h1
  exact h1
/-- The table of a match, up to a place. -/
def upTo (Q : List (List UInt8)) (D : List UInt8) (j : Nat) (x : Nat) : Bool := if x < j then tab Q D x else false
theorem upTo_next {B g n : Nat} {Q : List (List UInt8)} {D : List UInt8} {j : Nat} {wr : World} (h : BRow B g n (upTo Q D j) wr) (u : Bool) (hu : tab Q D j = u) : BRow B g n (upTo Q D (j + 1)) (wr.setCell ⟨g, j, none⟩ (.bool u)) := by
  refine (h.store j u).congr fun i _ => ?_
  unfold upTo
  by_cases e : i = j
  · subst e; rw [if_pos rfl, if_pos (by omega), hu]
  · rw [if_neg e]
    by_cases h2 : i < j
    · rw [if_pos h2, if_pos (by omega)]
    · rw [if_neg h2, if_neg (by omega)]
theorem upTo_skip {B g n : Nat} {Q : List (List UInt8)} {D : List UInt8} {wr : World} (h : BRow B g n (upTo Q D 0) wr) (hu : tab Q D 0 = false) : BRow B g n (upTo Q D (0 + 1)) wr := by
  refine h.congr fun i _ => ?_
  unfold upTo
  rw [if_neg (by omega)]
  by_cases e : i = 0
  · subst e; rw [if_pos (by omega), hu]
  · rw [if_neg (by omega)]
theorem upTo_all {B g n : Nat} {Q : List (List UInt8)} {D : List UInt8} {wr : World} (h : BRow B g n (upTo Q D n) wr) : BRow B g n (tab Q D) wr := by
  refine h.congr fun i hi => ?_
  unfold upTo; rw [if_pos hi]
theorem upTo_none (B g n : Nat) (Q : List (List UInt8)) (D : List UInt8) (wr : World) (h : BRow B g n (fun _ => false) wr) : BRow B g n (upTo Q D 0) wr := by
  refine h.congr fun i hi => ?_
  unfold upTo; rw [if_neg (by omega)]
theorem tab_first {B g n : Nat} {D : List UInt8} {wr : World} (h : BRow B g n (fun _ => false) wr) (hn : n = D.length + 1) : BRow B g n (tab [] D) (wr.setCell ⟨g, 0, none⟩ (.bool true)) := by
  refine (h.store 0 true).congr fun i hi => ?_
  rw [tab_nil D i (by omega)]
  by_cases e : i = 0
  · subst e; simp
  · simp [e]

/-- What the outer loop holds. -/
def PoAt (L : List (List UInt8)) (D : List UInt8) (w1 : World) (k g : Nat) (wr : World) : Prop :=
  BRow w1.heap.size g (D.length + 1) (tab (L.take k) D) wr ∧ Below w1.heap.size w1 wr
/-- What the inner loop holds. -/
def PiAt (L : List (List UInt8)) (D : List UInt8) (w1 : World) (k g g2 j : Nat) (wr : World) : Prop :=
  BRow w1.heap.size g (D.length + 1) (tab (L.take k) D) wr ∧ BRow w1.heap.size g2 (D.length + 1) (upTo (L.take (k + 1)) D j) wr ∧ Below w1.heap.size w1 wr
theorem setP_len (t : List UInt8) : (setP t).length ≤ t.length := by
  unfold setP setOf
  split
  · split
    · rw [List.length_drop, List.length_drop, List.length_take]; omega
    · rw [List.length_drop, List.length_take]; omega
  · simp
theorem PiAt.next {L : List (List UInt8)} {D : List UInt8} {w1 : World} {k g g2 j : Nat} {wr : World} (h : PiAt L D w1 k g g2 j wr) (hne : g ≠ g2) (u : Bool) (hu : tab (L.take (k + 1)) D j = u) : PiAt L D w1 k g g2 (j + 1) (wr.setCell ⟨g2, j, none⟩ (.bool u)) :=
  ⟨h.1.other hne _ _, upTo_next h.2.1 u hu, h.2.2.setCell (p := ⟨g2, j, none⟩) h.2.1.lt.1 _⟩
theorem PiAt.drew {L : List (List UInt8)} {D : List UInt8} {w1 : World} {k g g2 j : Nat} {wr : World} (h : PiAt L D w1 k g g2 j wr) : PiAt L D w1 k g g2 j wr.drew :=
  ⟨h.1, h.2.1, h.2.2.drew⟩
theorem PiAt.below {L : List (List UInt8)} {D : List UInt8} {w1 : World} {k g g2 j : Nat} {wr w2 : World} (h : PiAt L D w1 k g g2 j wr) (hb : Below wr.heap.size wr w2) : PiAt L D w1 k g g2 j w2 :=
  ⟨h.1.below hb, h.2.1.below hb, below_step h.2.2 hb⟩
theorem PiAt.skip {L : List (List UInt8)} {D : List UInt8} {w1 : World} {k g g2 j : Nat} {wr : World} (h : PiAt L D w1 k g g2 j wr) (h0 : j = 0) (hu : tab (L.take (k + 1)) D j = false) : PiAt L D w1 k g g2 (j + 1) wr := by
  subst h0
  exact ⟨h.1, upTo_skip h.2.1 hu, h.2.2⟩
theorem PiAt.can {L : List (List UInt8)} {D : List UInt8} {w1 : World} {k g g2 j : Nat} {wr : World} (h : PiAt L D w1 k g g2 j wr) (i : Nat) (hi : i < D.length + 1) (u : Bool) (hu : tab (L.take k) D i = u) : wr.cell? ⟨g, i, none⟩ = some (.bool u) := by
  rw [h.1.cell i hi, hu]
theorem PiAt.old {L : List (List UInt8)} {D : List UInt8} {w1 : World} {k g g2 j : Nat} {wr : World} (h : PiAt L D w1 k g g2 j wr) (i : Nat) (hi : i < D.length + 1) (hij : i < j) : wr.cell? ⟨g2, i, none⟩ = some (.bool (tab (L.take (k + 1)) D i)) := by
  rw [h.2.1.cell i hi]; unfold upTo; rw [if_pos hij]
theorem PiAt.new {L : List (List UInt8)} {D : List UInt8} {w1 : World} {k g g2 j : Nat} {wr : World} (h : PiAt L D w1 k g g2 j wr) (hj : j < D.length + 1) : wr.cell? ⟨g2, j, none⟩ = some (.bool false) ∧ wr.frozen? ⟨g2, j, none⟩ = false := by
  refine ⟨?_, h.2.1.free j⟩
  rw [h.2.1.cell j hj]; unfold upTo; rw [if_neg (by omega)]
set_option maxHeartbeats 8000000 in
set_option maxRecDepth 100000 in
theorem rpattern_any (p s : ByteArray) (hp : p.size ≤ 1000000000) (hs : s.size ≤ 100000000) (w : World) :
    Calls Tryz.prog 21 #[.string p, .string s] w fun e w' => e = .returned (.bool (patB p.data.toList s.data.toList)) ∧ Below w.heap.size w w' := by
  obtain ⟨L, hL⟩ : ∃ L, parts p.data.toList = L := ⟨_, rfl⟩
  obtain ⟨D, hD⟩ : ∃ D, s.data.toList = D := ⟨_, rfl⟩
  have es : D.length = s.size := by rw [← hD]; simp
  have HP := Lib.hid (show patB p.data.toList s.data.toList = tab L D D.length by rw [← hL, ← hD, tab_pat])
  have hll : L.length ≤ 1000000000 := by
    have := parts_len _ p.data.toList (Nat.le_refl _)
    rw [hL] at this
    have e : p.data.toList.length = p.size := by simp
    omega
  have HT := Lib.hid (show ∀ t ∈ L, 1 ≤ t.length ∧ t.length ≤ 1000000000 from fun t ht => by
    have := parts_pos _ p.data.toList (Nat.le_refl _) t (by rw [hL]; exact ht)
    have e : p.data.toList.length = p.size := by simp
    omega)
  have HB := Lib.hid (show ∀ (k : Nat) (h : k < s.size) (h2 : k < D.length), D[k] = s[k] from fun k h h2 => by
    subst hD; simp; rfl)
  have HES := Lib.hid es
  rw [hD] at HP ⊢
  clear es hD
  have hsz : (s.size : Int) ≤ 100000000 := by omega
  go_enter Tryz.func21, Tryz.ntmps21
  go_wp2_with fail
  go_at_call 39
  refine (rparts_any p hp _).mono ?_
  rintro e w1 ⟨v, rfl, hrow⟩
  rw [hL] at hrow
  clear hL
  obtain ⟨a, cap, rfl⟩ := prow_form hrow
  have b1 := hrow.2
  have hm : (L.length : Int) ≤ 1000000000 := by omega
  go_wp2_with (at_make; refine wpList_make_bools _ rfl _ _ rfl w1.heap.size (s.size + 1) _ rfl rfl (by omega) (by omega) (Nat.le_refl _) ?_; intro g w2 hg hr2 b2; have hcA := hr2.cell 0 (by omega); have hfA := hr2.free 0)
  have hfst := tab_first hr2 (D := D) (by rw [HES.out])
  have b3 := b2.setCell (p := ⟨g, 0, none⟩) hg (.bool true)
  have hst : PoAt L D w1 0 g (w2.setCell ⟨g, 0, none⟩ (.bool true)) := ⟨by rw [HES.out, List.take_zero]; exact hfst, b3⟩
  clear hfst b3 hcA hfA hr2
  generalize w2.setCell ⟨g, 0, none⟩ (.bool true) = w3 at *
  go_loopw [7, 6, 8, 9] (fun i v x y wr => ∃ k g : Nat, k ≤ L.length ∧ i = .int .i64 k ∧ v = .slice (some ⟨g, 0, none⟩) (s.size + 1) (s.size + 1) ∧ PoAt L D w1 k g wr) (fun i _ _ _ _ => L.length - (intOf i).toNat)
  case atStart => exact ⟨0, g, Nat.zero_le _, rfl, rfl, hst⟩
  case round =>
    obtain ⟨k, g, hk, rfl, rfl, hrow1, hb1⟩ := hrel
    clear hst hg
    rw [HES.out] at hrow1
    by_cases hlt : k < L.length
    · have hlz : (k : Int) < L.length := by omega
      have hwl := hb1.size
      obtain ⟨b, rfl, hbl, -, hcells⟩ := prow_cell hrow (Below.refl _ _) hlt
      have HCELL := Lib.hid hcells
      clear hcells
      have ht := HT.out (L.getD k []) (by simp [List.getD, hlt])
      have HQ := Lib.hid (show L.take (k + 1) = L.take k ++ [L.getD k []] by rw [List.take_succ_eq_append_getElem hlt]; simp [List.getD, hlt])
      generalize L.getD k [] = t at *
      have HKS := Lib.hid (kind_star t)
      have hkl := kind_le t
      go_wp2_with (at_make; refine wpList_make_bools _ rfl _ _ rfl w1.heap.size (s.size + 1) _ rfl rfl (by omega) (by omega) hb1.size ?_; intro g2 w4 hg2 hr2 b4)
      have hne : g ≠ g2 := by have := hrow1.lt; omega
      have hst2 : PiAt L D w1 k g g2 0 w4 := ⟨by rw [HES.out]; exact hrow1.below b4, by rw [HES.out]; exact upTo_none _ _ _ _ _ _ hr2, hb1.trans (b4.mono hb1.size)⟩
      clear hr2 hrow1
      go_loopw [9] (fun y wr => ∃ j : Nat, j ≤ s.size + 1 ∧ y = .int .i64 j ∧ PiAt L D w1 k g g2 j wr) (fun y _ => s.size + 1 - (intOf y).toNat)
      case atStart => exact ⟨0, Nat.zero_le _, rfl, hst2⟩
      case round =>
        obtain ⟨j, hj, rfl, hpi⟩ := hrel
        clear hst2
        have hc0 : wr.cell? ⟨b, k * 5, none⟩ = some (.int .i64 (kindOf t)) := (hpi.2.2.cell (p := ⟨b, k * 5 + 0, none⟩) hbl).trans (HCELL.out 0 _ rfl)
        by_cases hjl : j ≤ s.size
        · have hjz : (j : Int) ≤ s.size := by omega
          have hjn : j < s.size + 1 := by omega
          obtain ⟨hcN, hfN⟩ := hpi.new (by rw [HES.out]; omega)
          by_cases hstar : t = WireM.star
          · have hk1 : kindOf t = 1 := HKS.out.2 hstar
            have f1 : ((kindOf t : Int) == 1) = true := by rw [beq_iff_eq, hk1]; rfl
            clear hk1
            cases hca : tab (L.take k) D j with
            | true =>
              have hcA := hpi.can j (by rw [HES.out]; omega) true hca
              have hfd := hpi.next hne true (by
                rw [HQ.out, hstar, Bool.eq_iff_iff, tab_star _ _ _ (by rw [HES.out]; omega)]
                exact ⟨fun _ => rfl, fun _ => ⟨j, Nat.le_refl _, hca⟩⟩)
              clear hca hstar hpi
              go_wp2_with fail
              go_roundw
              case rel => exact ⟨j + 1, by omega, by go_num, hfd⟩
              case measure => simp [intOf]; omega
            | false =>
              have hcA := hpi.can j (by rw [HES.out]; omega) false hca
              by_cases h0 : j = 0
              · have hz : ¬ (0 : Int) < j := by omega
                have hfd := hpi.next hne false (by rw [HQ.out, hstar, h0, tab_star_zero, ← h0]; exact hca)
                clear hca hstar hpi h0
                go_wp2_with fail
                go_roundw
                case rel => exact ⟨j + 1, by omega, by go_num, hfd⟩
                case measure => simp [intOf]; omega
              · have hz : (0 : Int) < j := by omega
                obtain ⟨i, hi⟩ : ∃ i, j = i + 1 := ⟨j - 1, by omega⟩
                have hsub : (j : Int) - 1 = i := by omega
                have hin : i < s.size + 1 := by omega
                have hcB := hpi.old i (by rw [HES.out]; omega) (by omega)
                have hfd := hpi.next hne (tab (L.take (k + 1)) D i) (by rw [HQ.out, hstar, hi, tab_star_succ _ _ _ (by rw [HES.out]; omega), ← hi, hca, Bool.false_or])
                clear hca hstar hpi hi h0
                generalize tab (L.take (k + 1)) D i = bi at *
                go_wp2_with fail
                go_roundw
                case rel => exact ⟨j + 1, by omega, by go_num, hfd⟩
                case measure => simp [intOf]; omega
          · have f1 : ((kindOf t : Int) == 1) = false := by
              rw [beq_eq_false_iff_ne]; intro h; exact hstar (HKS.out.1 (by omega))
            by_cases h0 : j = 0
            · have hz : ¬ (0 : Int) < j := by omega
              have hfd := hpi.skip h0 (by rw [HQ.out, h0, tab_one_zero _ _ hstar])
              clear hstar hpi h0
              go_wp2_with fail
              go_roundw
              case rel => exact ⟨j + 1, by omega, by go_num, hfd⟩
              case measure => simp [intOf]; omega
            · have hz : (0 : Int) < j := by omega
              obtain ⟨i, hi⟩ : ∃ i, j = i + 1 := ⟨j - 1, by omega⟩
              have hsub : (j : Int) - 1 = i := by omega
              have hin : i < s.size + 1 := by omega
              have his : i < s.size := by omega
              have hid : i < D.length := by rw [HES.out]; omega
              have HTB := Lib.hid (show tab (L.take (k + 1)) D j = (tab (L.take k) D i && fit t s[i]) by rw [HQ.out, hi, tab_one_succ _ _ hstar i hid, HB.out i his hid])
              cases hca : tab (L.take k) D i with
              | false =>
                have hcA := hpi.can i (by rw [HES.out]; omega) false hca
                have hfd := (hpi.next hne false (by rw [HTB.out, hca]; rfl)).drew
                clear hca hstar hpi hi h0
                go_wp2_with fail
                go_region
                go_wp2_with fail
                go_roundw
                case rel => exact ⟨j + 1, by omega, by go_num, hfd⟩
                case measure => simp [intOf]; omega
              | true =>
                have hcA := hpi.can i (by rw [HES.out]; omega) true hca
                have hcell := fun j u h => (hpi.2.2.cell (p := ⟨b, k * 5 + j, none⟩) hbl).trans (HCELL.out j u h)
                have hc1 := hcell 1 _ rfl
                have hc2 := hcell 2 _ rfl
                have hc3 := hcell 3 _ rfl
                have hc4 := hcell 4 _ rfl
                clear hcell
                have hft : ∀ W, Calls Tryz.prog 40 #[.agg #[.int .i64 (kindOf t), .int .u8 (byteOf t).toNat, .string (bs (setP t)), .bool (notP t), .string (bs t)], .int .u8 s[i].toNat] W fun e w' => e = .returned (.bool (fit t s[i])) ∧ Below W.heap.size W w' := fun W => by
                  have h := rfits_any (kindOf t) (byteOf t) s[i] (bs (setP t)) (bs t) (notP t) hkl (by rw [bs_size]; have := setP_len t; omega) W
                  rw [bs_data, fit_parts ht.1 hstar] at h
                  exact h
                have HFT := Lib.hid hft
                have HTB2 := Lib.hid (show tab (L.take (k + 1)) D j = fit t s[i] by rw [HTB.out, hca, Bool.true_and])
                generalize fit t s[i] = ff at *
                clear hca hstar hi h0 hft HTB
                generalize kindOf t = kd at *
                generalize byteOf t = bt at *
                generalize bs (setP t) = st at *
                generalize notP t = nt at *
                generalize bs t = tt at *
                go_wp2_with fail
                have hwr : IntKind.i64.wrap (i : Int) = i := IntWalk.i64_in _ (by omega)
                have hi0 : (0 : Int) ≤ i := by omega
                have hi1 : (i : Int) < (s.size : Int) + 1 := by omega
                have hi2 : (i : Int) < ((s.size + 1 : Nat) : Int) := by omega
                have hi3 : (i : Int) < s.size := by omega
                have hiN : ((i : Int)).toNat = i := by omega
                go_region_with ((go_at_call 40; refine (HFT.out _).mono ?_; rintro e w5 ⟨rfl, b5⟩; have hpi5 := hpi.drew.below b5; have hN5 := hpi5.new (by rw [HES.out]; omega); obtain ⟨hcN5, hfN5⟩ := hN5))
                all_goals
                  clear hwr hcN hfN hpi hc0 hc1 hc2 hc3 hc4 hcA
                  have hfd := hpi5.next hne ff HTB2.out
                  clear hpi5 hcN5 hfN5
                  go_wp2_with fail
                  go_roundw
                  case rel => exact ⟨j + 1, by omega, by go_num, hfd⟩
                  case measure => simp [intOf]; omega
        · obtain rfl : j = s.size + 1 := by omega
          have hjz : ¬ ((s.size + 1 : Nat) : Int) ≤ s.size := by omega
          have hfd : PoAt L D w1 (k + 1) g2 wr := ⟨upTo_all (by have := hpi.2.1; rw [HES.out] at this ⊢; exact this), hpi.2.2⟩
          clear hpi
          go_wp2_with fail
          go_roundw
          case rel => exact ⟨k + 1, g2, by omega, by go_num, rfl, hfd⟩
          case measure => simp [intOf]; omega
    · obtain rfl : k = L.length := by omega
      have hlz : ¬ ((L.length : Nat) : Int) < L.length := by omega
      have hc := hrow1.cell s.size (by omega)
      rw [List.take_length] at hc
      have HPE := Lib.hid (show patB p.data.toList D = tab L D s.size by rw [HP.out, HES.out])
      generalize tab L D s.size = tt at *
      go_wp2_with fail
      go_ret
      exact ⟨by rw [HPE.out]; rfl, b1.trans (hb1.mono b1.size)⟩
end Go.Proofs.YteccccpjhpbebaaGreatDoor
