/-
  THE WRITERS: wire.Num, Int, Text, Nums, Texts: what they return (layer 1).
-/
import Derived.Test.YtenlbohacgamlaaDoorWr
import Derived.Test.YtenlbohacgamlaaDoorMa
import Derived.WalkSmall
namespace Go.Proofs.YtenlbohacgamlaaDoor
open Go.RowKit WireM
set_option linter.unusedVariables false
set_option linter.unusedSimpArgs false

/-- The table of powers of ten lies as the program's text lays it. -/
def Tab (w : World) : Prop := Lib.TabIs Tryd.prog w "internal/strconv.uint64pow10" .u64 Lib.pow10Tab ∧ 3 ≤ w.heap.size
theorem gPow : Tryd.prog.globalNamed "internal/strconv.uint64pow10" = some 0 := by kernel_rfl
theorem Tab.below {B : Nat} {w w' : World} (h : Tab w) (hb : Below B w w') (hB : 3 ≤ B) : Tab w' :=
  ⟨Go.var?_below hb gPow (by omega) h.1, by have := hb.size; have := h.2; omega⟩

theorem itoa_any (n : Int) (h0 : -9223372036854775808 ≤ n) (h1 : n ≤ 9223372036854775807) (w : World) (ht : Tab w) :
    Calls Tryd.prog 44 #[.int .i64 n] w fun e w' => e = .returned (.string (bs (Lib.itoa n))) ∧ Below w.heap.size w w' := by
  refine (Tryd.strconv_Itoa n h0 h1 w ht.1).mono ?_
  rintro e w' ⟨rfl, k, os, rfl⟩
  exact ⟨rfl, (Go.below_drewN (Below.refl _ w) k).trans ⟨rfl, rfl, rfl, by simp [Go.Sort.grow], fun i hi => by
    have hi' : i < (w.drewN k).heap.size := hi
    show ((w.drewN k).heap ++ os)[i]? = _
    rw [Array.getElem?_append_left hi']⟩⟩

theorem int_any (n : Int) (h0 : -9223372036854775808 ≤ n) (h1 : n ≤ 9223372036854775807) (w : World) (ht : Tab w) :
    Calls Tryd.prog 13 #[.int .i64 n] w fun e w' => e = .returned (.string (bs (encInt n))) ∧ Below w.heap.size w w' := by
  have hz : (bs (Lib.itoa n)).size ≤ 20 := (itoa_len n h0 h1).1
  go_enter Tryd.func13, Tryd.ntmps13
  go_wp2_with (go_at_call 44; refine (itoa_any n h0 h1 _ ht).mono ?_; rintro e w' ⟨rfl, hb⟩)
  go_ret
  exact ⟨congrArg (fun x => Ending.returned (Value.string x)) (ext (by rw [app_data]; rfl)), hb⟩

theorem num_any (n : Int) (h0 : 0 ≤ n) (h1 : n ≤ 9223372036854775807) (w : World) (ht : Tab w) :
    Calls Tryd.prog 11 #[.int .i64 n] w fun e w' => e = .returned (.string (bs (encInt n))) ∧ Below w.heap.size w w' := by
  have hn : ¬ n < 0 := by omega
  go_enter Tryd.func11, Tryd.ntmps11
  go_wp2_with (go_at_call 13; refine (int_any n (by omega) h1 _ ht).mono ?_; rintro e w' ⟨rfl, hb⟩)
  go_ret
  exact ⟨rfl, hb⟩

theorem num_neg (n : Int) (h0 : n < 0) (w : World) :
    Calls Tryd.prog 11 #[.int .i64 n] w fun e w' => e = .returned (.string (bs [])) ∧ w = w' := by
  go_enter Tryd.func11, Tryd.ntmps11
  go_wp2
  go_ret
  exact ⟨rfl, rfl⟩

theorem text_any (s : ByteArray) (hs : s.size ≤ 1099511627776) (w : World) (ht : Tab w) :
    Calls Tryd.prog 15 #[.string s] w fun e w' => e = .returned (.string (bs (encText s.data.toList))) ∧ Below w.heap.size w w' := by
  have hz : (bs (Lib.itoa (s.size : Int))).size ≤ 20 := (itoa_len (s.size : Int) (by omega) (by omega)).1
  have hm : (s.size : Int) ≤ 9223372036854775807 := by omega
  go_enter Tryd.func15, Tryd.ntmps15
  go_wp2_with (go_at_call 44; refine (itoa_any s.size (by omega) hm _ ht).mono ?_; rintro e w' ⟨rfl, hb⟩)
  go_ret
  exact ⟨congrArg (fun x => Ending.returned (Value.string x)) (ext (by simp only [app_data]; rfl)), hb⟩

theorem grownBy_of_below {w w' : World} (h : Below w.heap.size w w') : w.grownBy w' none := ⟨h.os, h.tape, h.output, h.size, fun k hk _ => h.block k hk⟩
theorem builderAt_below {T e : TypeId} {B b : Nat} {p : Value} {xs : List Value} {w w' : World} (h : Lib.BuilderAt T e B b p xs w) (hb : Below w.heap.size w w') : Lib.BuilderAt T e B b p xs w' := by
  have hlt := h.lt
  obtain ⟨h1, v, h2, h3, h4⟩ := h
  refine ⟨h1, v, by rw [hb.block b hlt]; exact h2, h3.kept (grownBy_of_below hb) ?_, h4⟩
  cases hv : v.ownBlock with
  | none => exact .inl rfl
  | some g => exact .inr (by simp)
theorem isBuilder_below {T e : TypeId} {B b : Nat} {xs : List Value} {w w' : World} (h : Lib.IsBuilder T e B b xs w) (hb : Below w.heap.size w w') : Lib.IsBuilder T e B b xs w' :=
  h.imp (builderAt_below · hb) (builderAt_below · hb)

def numsTo (l : List Int) (k : Nat) : List UInt8 := Lib.itoa l.length ++ [91] ++ (l.take k).flatMap encInt
theorem numsTo_zero (l : List Int) : numsTo l 0 = Lib.itoa l.length ++ [91] := by simp [numsTo]
theorem numsTo_succ (l : List Int) (k : Nat) (h : k < l.length) : numsTo l (k + 1) = numsTo l k ++ encInt (l.getD k 0) := by
  unfold numsTo
  rw [List.take_succ_eq_append_getElem h, List.flatMap_append]
  simp [List.getD, h]
theorem numsTo_all (l : List Int) : encNums l = numsTo l l.length ++ [93] := by
  simp [numsTo, encNums, encList]
theorem flatMap_len (l : List Int) (hr : ∀ z ∈ l, -9223372036854775808 ≤ z ∧ z ≤ 9223372036854775807) : (l.flatMap encInt).length ≤ 21 * l.length := by
  induction l with
  | nil => simp
  | cons a l ih =>
    have h1 := ih fun z hz => hr z (List.mem_cons_of_mem _ hz)
    have h2 := encInt_len a (hr a List.mem_cons_self).1 (hr a List.mem_cons_self).2
    simp only [List.flatMap_cons, List.length_append, List.length_cons]
    omega
theorem numsTo_len (l : List Int) (k : Nat) (hl : l.length ≤ 100000) (hr : ∀ z ∈ l, -9223372036854775808 ≤ z ∧ z ≤ 9223372036854775807) : (numsTo l k).length ≤ 10000000 := by
  have h1 := flatMap_len (l.take k) fun z hz => hr z (List.mem_of_mem_take hz)
  have h2 := (itoa_len (l.length : Int) (by omega) (by omega)).1
  have h3 : (l.take k).length ≤ l.length := by simp; omega
  simp only [numsTo, List.length_append, List.length_cons, List.length_nil]
  omega

/-- What the loop of writeList holds at a round's head. -/
def WlAt (w : World) (xs : List UInt8) (wr : World) : Prop :=
  Lib.IsBuilder 69 5 w.heap.size w.heap.size (Lib.byteCells xs) wr ∧ Below w.heap.size w wr ∧ w.heap.size < wr.heap.size

/-- A slice value that reads as a list of values. -/
def CellsAt (w : World) (a : Option Addr) (xs : List Value) : Prop :=
  xs = [] ∨ ∃ b o, a = some ⟨b, o, none⟩ ∧ b < w.heap.size ∧ ∀ (i : Nat), i < xs.length → w.cell? ⟨b, o + i, none⟩ = xs[i]?

set_option maxHeartbeats 1000000 in
theorem writeNums_any (a : Option Addr) (cap : Nat) (l : List Int) (w : World) (ht : Tab w) (hl : l.length ≤ 100000)
    (hr : ∀ z ∈ l, -9223372036854775808 ≤ z ∧ z ≤ 9223372036854775807)
    (hc : CellsAt w a (l.map (Value.int .i64))) :
    Calls Tryd.prog 46 #[.slice a l.length cap, .func (.func 13) #[] #[]] w fun e w' => e = .returned (.string (bs (encNums l))) ∧ Below w.heap.size w w' := by
  have hm : (l.length : Int) ≤ 9223372036854775807 := by omega
  have H0 := Lib.hid (numsTo_zero l)
  have HL := Lib.hid (fun k => numsTo_len l k hl hr)
  have HR := Lib.hid hr
  have hi : (bs (Lib.itoa (l.length : Int))).size ≤ 20 := (itoa_len (l.length : Int) (by omega) (by omega)).1
  have ht1 := ht.below ((Below.refl _ w).alloc (Nat.le_refl _) (.cells #[.pointer none, .slice none 0 0] 69)) ht.2
  have hf := Lib.fresh_isBuilder 69 5 w
  clear hr
  go_enter Tryd.func46, Tryd.ntmps46
  go_wp2_with fail
  go_at_call 44
  refine (itoa_any l.length (by omega) hm _ ht1).mono ?_
  rintro e w1 ⟨rfl, hb1⟩
  have hf1 := isBuilder_below hf hb1
  have hs1 : w.heap.size < w1.heap.size := by have := hb1.size; simp at this; omega
  have B1 : Below w.heap.size w w1 := ((Below.refl _ w).alloc (Nat.le_refl _) _).trans (hb1.mono (by simp))
  clear hb1 hf
  go_wp2_with fail
  go_at_call 59
  refine (writeString_any w.heap.size w.heap.size [] _ w1 hf1 (by simp; omega) (by omega)).mono ?_
  rintro e w2 ⟨rfl, hf2, hb2⟩
  have hs2 : w.heap.size < w2.heap.size := by have := hb2.size; omega
  have B2 := B1.trans hb2
  clear hf1 hb2 B1 hs1
  go_wp2_with fail
  go_at_call 60
  refine (writeByte_any w.heap.size w.heap.size _ _ w2 hf2 (by simp [Lib.strCells_length]; omega) (by omega)).mono ?_
  rintro e w3 ⟨rfl, hf3, hb3⟩
  have hw3 : WlAt w (numsTo l 0) w3 := by
    refine ⟨?_, B2.trans hb3, by have := hb3.size; omega⟩
    rw [H0.out]
    simpa [Lib.byteCells, Lib.strCells, bs_data] using hf3
  clear hf2 hf3 hb3 B2 hs2
  go_wp2_with fail
  go_loopw [15] (fun i wr => ∃ k : Nat, k ≤ l.length ∧ i = .int .i64 k ∧ WlAt w (numsTo l k) wr) (fun i _ => l.length - (intOf i).toNat)
  case atStart => exact ⟨0, Nat.zero_le _, rfl, hw3⟩
  case round =>
    obtain ⟨k, hk, rfl, hwk⟩ := hrel
    clear hw3
    obtain ⟨hb4, B4, hs4⟩ := hwk
    by_cases hlt : k < l.length
    · rcases hc with hc | ⟨b, o, rfl, hbs, hcells⟩
      · simp at hc; subst hc; simp at hlt
      · have hcell : wr.cell? ⟨b, o + k, none⟩ = some (.int .i64 (l.getD k 0)) := by
          rw [B4.cell (p := ⟨b, o + k, none⟩) hbs, hcells k (by simpa using hlt)]
          simp [List.getD, hlt]
        have hz := HR.out (l.getD k 0) (by simp [List.getD, hlt])
        obtain ⟨hz1, hz2⟩ := hz
        have htk : Tab wr := ht.below B4 ht.2
        have hzl : (bs (encInt (l.getD k 0))).size ≤ 21 := (encInt_len _ hz1 hz2).1
        have hnl : (Lib.byteCells (numsTo l k)).length ≤ 10000000 := by rw [Lib.byteCells_length]; exact HL.out k
        generalize hz0 : l.getD k 0 = z at *
        have HZ := Lib.hid hz0
        clear hz0 hcells
        go_wp2_with fail
        go_at_call 13
        refine (int_any z hz1 hz2 _ htk).mono ?_
        rintro e w5 ⟨rfl, hb5⟩
        have hb6 := isBuilder_below hb4 hb5
        have hs5 := hb5.size
        go_wp2_with fail
        go_at_call 59
        refine (writeString_any w.heap.size w.heap.size _ _ w5 hb6 (by omega) (by omega)).mono ?_
        rintro e w7 ⟨rfl, hb8, hb9⟩
        have hwn : WlAt w (numsTo l (k + 1)) w7 := by
          refine ⟨?_, (B4.trans (hb5.mono (by omega))).trans hb9, by have := hb9.size; omega⟩
          rw [numsTo_succ l k hlt, HZ.out]
          simpa [Lib.byteCells, Lib.strCells, bs_data] using hb8
        clear hb8 hb9 hb6 hb4 hb5
        go_wp2_with fail
        go_roundw
        case rel => exact ⟨k + 1, by omega, by go_num, hwn⟩
        case measure => simp [intOf]; omega
    · obtain rfl : k = l.length := by omega
      have hnl : (Lib.byteCells (numsTo l l.length)).length ≤ 10000000 := by rw [Lib.byteCells_length]; exact HL.out _
      go_wp2_with fail
      go_at_call 60
      refine (writeByte_any w.heap.size w.heap.size _ _ wr hb4 (by omega) (by omega)).mono ?_
      rintro e w5 ⟨rfl, hb5, hb6⟩
      have hb7 : Lib.IsBuilder 69 5 w.heap.size w.heap.size (Lib.byteCells (encNums l)) w5 := by
        rw [numsTo_all]
        simpa [Lib.byteCells] using hb5
      have hs5 := hb6.size
      go_wp2_with fail
      go_at_call 61
      refine (Tryd.Builder_String_any w.heap.size w.heap.size (encNums l) w5 hb7 (by omega)).mono ?_
      rintro e w6 ⟨rfl, hb8⟩
      go_wp2_with fail
      go_ret
      exact ⟨rfl, (B4.trans hb6).trans hb8⟩
def textsTo (l : List ByteArray) (k : Nat) : List UInt8 := Lib.itoa l.length ++ [91] ++ (l.take k).flatMap fun s => encText s.data.toList
theorem textsTo_zero (l : List ByteArray) : textsTo l 0 = Lib.itoa l.length ++ [91] := by simp [textsTo]
theorem textsTo_succ (l : List ByteArray) (k : Nat) (h : k < l.length) : textsTo l (k + 1) = textsTo l k ++ encText (l.getD k .empty).data.toList := by
  unfold textsTo
  rw [List.take_succ_eq_append_getElem h, List.flatMap_append]
  simp [List.getD, h]
theorem textsTo_all (l : List ByteArray) : encTexts l = textsTo l l.length ++ [93] := by
  simp [textsTo, encTexts, encList]
theorem encText_ge (s : ByteArray) : s.size ≤ (encText s.data.toList).length := by
  have : s.size = s.data.toList.length := by simp
  simp only [encText, List.length_append, List.length_cons, List.length_nil]
  omega
theorem textsTo_mono (l : List ByteArray) (k : Nat) : (textsTo l k).length ≤ (encTexts l).length := by
  have h : ∀ (l : List ByteArray) (k : Nat), ((l.take k).flatMap fun s => encText s.data.toList).length ≤ (l.flatMap fun s => encText s.data.toList).length := by
    intro l
    induction l with
    | nil => simp
    | cons a l ih =>
      intro k
      cases k with
      | zero => simp
      | succ k =>
        have := ih k
        simp only [List.take_succ_cons, List.flatMap_cons, List.length_append]
        omega
  have := h l k
  simp only [textsTo, encTexts, encList, List.length_append, List.length_cons, List.length_nil]
  omega
theorem textsTo_len (l : List ByteArray) (k : Nat) : (textsTo l k).length ≤ (encTexts l).length := textsTo_mono l k
theorem encTexts_le (l : List ByteArray) : l.length ≤ (encTexts l).length := by
  have h : ∀ l : List ByteArray, l.length ≤ (l.flatMap fun s => encText s.data.toList).length := by
    intro l
    induction l with
    | nil => simp
    | cons a l ih =>
      have h1 : 1 ≤ (encText a.data.toList).length := by
        simp only [encText, List.length_append, List.length_cons, List.length_nil]; omega
      simp only [List.flatMap_cons, List.length_append, List.length_cons]
      omega
  have := h l
  simp only [encTexts, encList, List.length_append, List.length_cons, List.length_nil]
  omega
theorem text_le (l : List ByteArray) (k : Nat) (h : k < l.length) : (encText (l.getD k .empty).data.toList).length ≤ (encTexts l).length := by
  have h1 := textsTo_mono l (k + 1)
  rw [textsTo_succ l k h, List.length_append] at h1
  omega

set_option maxHeartbeats 1000000 in
theorem writeTexts_any (a : Option Addr) (cap : Nat) (l : List ByteArray) (w : World) (ht : Tab w) (hr : (encTexts l).length ≤ 1000000000)
    (hc : CellsAt w a (l.map Value.string)) :
    Calls Tryd.prog 47 #[.slice a l.length cap, .func (.func 15) #[] #[]] w fun e w' => e = .returned (.string (bs (encTexts l))) ∧ Below w.heap.size w w' := by
  have hl : l.length ≤ 1000000000 := Nat.le_trans (encTexts_le l) hr
  have hm : (l.length : Int) ≤ 9223372036854775807 := by omega
  have H0 := Lib.hid (textsTo_zero l)
  have HL := Lib.hid (fun k => Nat.le_trans (textsTo_len l k) hr)
  have HR := Lib.hid (fun k (h : k < l.length) => Nat.le_trans (text_le l k h) hr)
  have hi : (bs (Lib.itoa (l.length : Int))).size ≤ 20 := (itoa_len (l.length : Int) (by omega) (by omega)).1
  have ht1 := ht.below ((Below.refl _ w).alloc (Nat.le_refl _) (.cells #[.pointer none, .slice none 0 0] 69)) ht.2
  have hf := Lib.fresh_isBuilder 69 5 w
  clear hr
  go_enter Tryd.func47, Tryd.ntmps47
  go_wp2_with fail
  go_at_call 44
  refine (itoa_any l.length (by omega) hm _ ht1).mono ?_
  rintro e w1 ⟨rfl, hb1⟩
  have hf1 := isBuilder_below hf hb1
  have hs1 : w.heap.size < w1.heap.size := by have := hb1.size; simp at this; omega
  have B1 : Below w.heap.size w w1 := ((Below.refl _ w).alloc (Nat.le_refl _) _).trans (hb1.mono (by simp))
  clear hb1 hf
  go_wp2_with fail
  go_at_call 59
  refine (writeString_any w.heap.size w.heap.size [] _ w1 hf1 (by simp; omega) (by omega)).mono ?_
  rintro e w2 ⟨rfl, hf2, hb2⟩
  have hs2 : w.heap.size < w2.heap.size := by have := hb2.size; omega
  have B2 := B1.trans hb2
  clear hf1 hb2 B1 hs1
  go_wp2_with fail
  go_at_call 60
  refine (writeByte_any w.heap.size w.heap.size _ _ w2 hf2 (by simp [Lib.strCells_length]; omega) (by omega)).mono ?_
  rintro e w3 ⟨rfl, hf3, hb3⟩
  have hw3 : WlAt w (textsTo l 0) w3 := by
    refine ⟨?_, B2.trans hb3, by have := hb3.size; omega⟩
    rw [H0.out]
    simpa [Lib.byteCells, Lib.strCells, bs_data] using hf3
  clear hf2 hf3 hb3 B2 hs2
  go_wp2_with fail
  go_loopw [15] (fun i wr => ∃ k : Nat, k ≤ l.length ∧ i = .int .i64 k ∧ WlAt w (textsTo l k) wr) (fun i _ => l.length - (intOf i).toNat)
  case atStart => exact ⟨0, Nat.zero_le _, rfl, hw3⟩
  case round =>
    obtain ⟨k, hk, rfl, hwk⟩ := hrel
    clear hw3
    obtain ⟨hb4, B4, hs4⟩ := hwk
    by_cases hlt : k < l.length
    · rcases hc with hc | ⟨b, o, rfl, hbs, hcells⟩
      · simp at hc; subst hc; simp at hlt
      · have hcell : wr.cell? ⟨b, o + k, none⟩ = some (.string (l.getD k .empty)) := by
          rw [B4.cell (p := ⟨b, o + k, none⟩) hbs, hcells k (by simpa using hlt)]
          simp [List.getD, hlt]
        have hz1 := HR.out k hlt
        have htk : Tab wr := ht.below B4 ht.2
        have hzl : (bs (encText (l.getD k .empty).data.toList)).size ≤ 1000000000 := hz1
        have hzs : (l.getD k .empty).size ≤ 1000000000 := Nat.le_trans (encText_ge _) hz1
        have hnl : (Lib.byteCells (textsTo l k)).length ≤ 1000000000 := by rw [Lib.byteCells_length]; exact HL.out k
        generalize hz0 : l.getD k .empty = z at *
        have HZ := Lib.hid hz0
        clear hz0 hcells
        go_wp2_with fail
        go_at_call 15
        refine (text_any z (by omega) _ htk).mono ?_
        rintro e w5 ⟨rfl, hb5⟩
        have hb6 := isBuilder_below hb4 hb5
        have hs5 := hb5.size
        go_wp2_with fail
        go_at_call 59
        refine (writeString_any w.heap.size w.heap.size _ _ w5 hb6 (by omega) (by omega)).mono ?_
        rintro e w7 ⟨rfl, hb8, hb9⟩
        have hwn : WlAt w (textsTo l (k + 1)) w7 := by
          refine ⟨?_, (B4.trans (hb5.mono (by omega))).trans hb9, by have := hb9.size; omega⟩
          rw [textsTo_succ l k hlt, HZ.out]
          simpa [Lib.byteCells, Lib.strCells, bs_data] using hb8
        clear hb8 hb9 hb6 hb4 hb5
        go_wp2_with fail
        go_roundw
        case rel => exact ⟨k + 1, by omega, by go_num, hwn⟩
        case measure => simp [intOf]; omega
    · obtain rfl : k = l.length := by omega
      have hnl : (Lib.byteCells (textsTo l l.length)).length ≤ 1000000000 := by rw [Lib.byteCells_length]; exact HL.out _
      go_wp2_with fail
      go_at_call 60
      refine (writeByte_any w.heap.size w.heap.size _ _ wr hb4 (by omega) (by omega)).mono ?_
      rintro e w5 ⟨rfl, hb5, hb6⟩
      have hb7 : Lib.IsBuilder 69 5 w.heap.size w.heap.size (Lib.byteCells (encTexts l)) w5 := by
        rw [textsTo_all]
        simpa [Lib.byteCells] using hb5
      have hs5 := hb6.size
      go_wp2_with fail
      go_at_call 61
      refine (Tryd.Builder_String_any w.heap.size w.heap.size (encTexts l) w5 hb7 (by omega)).mono ?_
      rintro e w6 ⟨rfl, hb8⟩
      go_wp2_with fail
      go_ret
      exact ⟨rfl, (B4.trans hb6).trans hb8⟩
theorem nums_any (a : Option Addr) (cap : Nat) (l : List Int) (w : World) (ht : Tab w) (hl : l.length ≤ 100000)
    (hr : ∀ z ∈ l, -9223372036854775808 ≤ z ∧ z ≤ 9223372036854775807) (hc : CellsAt w a (l.map (Value.int .i64))) :
    Calls Tryd.prog 17 #[.slice a l.length cap] w fun e w' => e = .returned (.string (bs (encNums l))) ∧ Below w.heap.size w w' := by
  have HR := Lib.hid hr
  have HC := Lib.hid hc
  clear hr hc
  go_enter Tryd.func17, Tryd.ntmps17
  go_wp2_with (go_at_call 46; refine (writeNums_any a cap l _ ht hl HR.out HC.out).mono ?_; rintro e w' ⟨rfl, hb⟩)
  go_ret
  exact ⟨rfl, hb⟩

theorem texts_any (a : Option Addr) (cap : Nat) (l : List ByteArray) (w : World) (ht : Tab w) (hr : (encTexts l).length ≤ 1000000000) (hc : CellsAt w a (l.map Value.string)) :
    Calls Tryd.prog 19 #[.slice a l.length cap] w fun e w' => e = .returned (.string (bs (encTexts l))) ∧ Below w.heap.size w w' := by
  have HR := Lib.hid hr
  have HC := Lib.hid hc
  clear hr hc
  go_enter Tryd.func19, Tryd.ntmps19
  go_wp2_with (go_at_call 47; refine (writeTexts_any a cap l _ ht HR.out HC.out).mono ?_; rintro e w' ⟨rfl, hb⟩)
  go_ret
  exact ⟨rfl, hb⟩
end Go.Proofs.YtenlbohacgamlaaDoor
