/-
  WHAT THE LAWS OF LAYER 4 WITH A LIST OF OPERATIONS ASK: few; Set and again with what they leave of the value; a string of many zeros.
-/
import Derived.Test.YtdejajpmebgidaaDoorKg
import Derived.Test.YtdejajpmebgidaaDoorKe
import Derived.OneCell
import Derived.RegionTactic
namespace Go.Proofs.YtdejajpmebgidaaDoor
open Go.RowKit Go.Maps WireM DiskM CellM
set_option linter.unusedVariables false
set_option linter.unusedSimpArgs false
set_option maxRecDepth 100000

theorem OpOk.below {B : Nat} {w w' : World} {A : OpV} (h : OpOk B w A) (hb : Below B w w') : OpOk B w' A := by
  refine ⟨h.d, h.n, h.s, ?_, h.low⟩
  rcases h.keep with h1 | ⟨b, off, c, hv, h1⟩
  · exact .inl h1
  · refine .inr ⟨b, off, c, hv, fun j u hj => ?_⟩
    have hlt : b < B := h.low (fun e => by rw [e] at hj; simp [intCells] at hj) b (by rw [hv]; rfl)
    rw [← h1 j u hj]
    exact hb.cell (p := ⟨b, off + j, none⟩) hlt
theorem OpsAt.below {B : Nat} {w w' : World} {a : Option Addr} {l : List OpV} (h : OpsAt B w a l) (hb : Below B w w') : OpsAt B w' a l := by
  refine ⟨h.cells.imp id ?_, fun A hA => (h.ok A hA).below hb, h.len⟩
  rintro ⟨b, o, e, hlt, hc⟩
  refine ⟨b, o, e, hlt, fun i A hA => ?_⟩
  have k := hc i A hA
  exact ⟨(hb.cell (p := ⟨b, _, none⟩) hlt).trans k.c0, (hb.cell (p := ⟨b, _, none⟩) hlt).trans k.c1, (hb.cell (p := ⟨b, _, none⟩) hlt).trans k.c2, (hb.cell (p := ⟨b, _, none⟩) hlt).trans k.c3⟩
def okOp (A : OpV) : Prop := A.s.size ≤ 400 ∧ A.keep.length ≤ 100
instance (A : OpV) : Decidable (okOp A) := by unfold okOp; infer_instance
def OFew (l : List OpV) : Prop := (∀ A ∈ l, okOp A) ∧ l.length ≤ 30
instance (l : List OpV) : Decidable (OFew l) := by unfold OFew; infer_instance
set_option maxHeartbeats 4000000 in
theorem ofew_any {B : Nat} {w : World} {a : Option Addr} {c : Nat} {l : List OpV} (h : OpsAt B w a l) :
    Calls Tryd.prog 6 #[.slice a l.length c] w fun e w' => e = .returned (.bool (decide (OFew l))) ∧ w = w' := by
  have H := Lib.hid h
  have hlen := h.len
  unfold maxLen at hlen
  clear h
  go_enter Tryd.func6, Tryd.ntmps6
  go_wp2_with fail
  go_loopw [3] (fun i wr => ∃ j : Nat, j ≤ l.length ∧ i = .int .i64 (j : Int) ∧ wr = w ∧ Hid (∀ m A, m < j → l[m]? = some A → okOp A)) (fun i _ => l.length - (intOf i).toNat)
  case atStart => exact ⟨0, Nat.zero_le _, rfl, rfl, Lib.hid (fun m A hm => by omega)⟩
  case round =>
    obtain ⟨j, hj, rfl, rfl, HO⟩ := hrel
    by_cases hlt : j < l.length
    · obtain ⟨A, hA⟩ : ∃ A, l[j]? = some A := ⟨_, List.getElem?_eq_getElem hlt⟩
      rcases H.out.cells with e | ⟨b, o, rfl, hb, hc⟩
      · rw [e] at hlt; simp at hlt
      obtain ⟨c0, c1, c2, c3⟩ := hc j A hA
      have g0 : (0 : Int) ≤ (j : Int) := by omega
      have g1 : (j : Int) < (l.length : Int) := by omega
      have w1 : wrap64 ((j : Int) + 1) = (j : Int) + 1 := by unfold wrap64; omega
      have W1 := Lib.hid w1
      have BAD := Lib.hid (show ¬ okOp A → decide (OFew l) = false from fun hn => by
        refine decide_eq_false (fun hf => hn (hf.1 A (List.mem_of_getElem? hA))))
      have GOOD := Lib.hid (show okOp A → ∃ j' : Nat, j' ≤ l.length ∧ Value.int .i64 ((j : Int) + 1) = .int .i64 (j' : Int) ∧ True ∧ Hid (∀ m A, m < j' → l[m]? = some A → okOp A) from fun hok => ⟨j + 1, hlt, rfl, trivial, Lib.hid (fun m A' hm hA' => by
        by_cases e : m = j
        · subst e; rw [hA] at hA'; cases hA'; exact hok
        · exact HO.out m A' (by omega) hA')⟩)
      have MEAS := Lib.hid (show l.length - (intOf (.int .i64 ((j : Int) + 1))).toNat < l.length - (intOf (.int .i64 (j : Int))).toNat by simp [intOf]; omega)
      clear hc hA hlt hj w1
      by_cases h1 : 400 < A.s.size
      · have B1 := BAD.out (fun hn => by have := hn.1; omega)
        have B2 := Lib.hid B1
        have i1 : (400 : Int) < (A.s.size : Int) := by omega
        clear BAD GOOD h1 B1
        go_wp2
        go_ret
        exact ⟨by rw [B2.out]; rfl, rfl⟩
      have i1 : ¬ (400 : Int) < (A.s.size : Int) := by omega
      by_cases h2 : 100 < A.keep.length
      · have B1 := BAD.out (fun hn => by have := hn.2; omega)
        have B2 := Lib.hid B1
        have i2 : (100 : Int) < (A.keep.length : Int) := by omega
        clear BAD GOOD h1 h2 B1
        go_wp2
        go_ret
        exact ⟨by rw [B2.out]; rfl, rfl⟩
      have i2 : ¬ (100 : Int) < (A.keep.length : Int) := by omega
      have G := Lib.hid (GOOD.out ⟨by omega, by omega⟩)
      clear BAD GOOD h1 h2
      go_wp2
      go_roundw
      case rel => first | exact G.out | (rw [W1.out]; exact G.out)
      case measure => first | exact MEAS.out | (rw [W1.out]; exact MEAS.out)
    · have g1 : ¬ (j : Int) < (l.length : Int) := by omega
      have hall : ∀ A ∈ l, okOp A := fun A hA => by
        obtain ⟨m, hm⟩ := List.getElem?_of_mem hA
        exact HO.out m A (by have := (List.getElem?_eq_some_iff.1 hm).1; omega) hm
      have E : decide (OFew l) = decide ((l.length : Int) ≤ 30) := by
        by_cases h4 : l.length ≤ 30
        · rw [decide_eq_true (show OFew l from ⟨hall, h4⟩), decide_eq_true (by omega)]
        · rw [decide_eq_false (fun hf : OFew l => h4 hf.2), decide_eq_false (by omega)]
      have E2 := Lib.hid E
      clear E hall hlt hj HO
      go_wp2
      go_ret
      refine ⟨?_, rfl⟩
      rw [E2.out]
      first | rfl | (congr 2; simp; try omega)
theorem ofew_at {w W : World} {a : Option Addr} {c : Nat} {l : List OpV} {d : Bool} (h : OpsAt w.heap.size w a l) (hb : Below w.heap.size w W) (hd : decide (OFew l) = d) :
    Calls Tryd.prog 6 #[.slice a l.length c] W fun e w' => e = .returned (.bool d) ∧ W = w' := by
  have := ofew_any (c := c) (h.below hb)
  rw [hd] at this
  exact this
theorem OpOk.nums {w : World} {A : OpV} (h : OpOk w.heap.size w A) (hk : okOp A) : NumsAt w A.ka A.kc A.keep := ⟨h.keep, h.low, by have := hk.2; omega⟩
/-- Set, with what it answers. -/
theorem set_at {w0 w : World} {p z : Nat} {s s' : St} {c c' : CS} {r : Int} (h : Tog w0 w [kDisk p s, kCell 61 z p 3 c]) (hS : Slots w0) (S : ByteArray) (e1 : setS s 3 c S.data.toList = (s', c', r)) :
    Calls Tryd.prog 11 #[.pointer (some ⟨z, 0, none⟩), .string S] w fun e w' => e = .returned (.int .i64 r) ∧ Tog w0 w' [kDisk p s', kCell 61 z p 3 c'] := by
  have := cset_any (l := [kDisk p St.new, kDisk p St.new]) (i := 0) (j := 1) (by decide) (by simp) (by simp) h hS S.data.toList
  rw [e1] at this
  exact this
/-- Set, with what stands in the file. -/
theorem set_gd {w0 w : World} {p z : Nat} {s : St} {c : CS} {no : Prop} {may : List (List UInt8)} (h : Tog w0 w [kDisk p s, kCell 61 z p 3 c]) (hS : Slots w0) (g : CellM.Good s 3 c no may) (S : ByteArray) :
    Calls Tryd.prog 11 #[.pointer (some ⟨z, 0, none⟩), .string S] w fun e w' => ∃ s' c' r, e = .returned (.int .i64 r) ∧ Tog w0 w' [kDisk p s', kCell 61 z p 3 c'] ∧ SetPost (s', c', r) 3 no may S.data.toList := by
  obtain ⟨s', c', r, e1⟩ : ∃ s' c' r, setS s 3 c S.data.toList = (s', c', r) := ⟨_, _, _, rfl⟩
  have P := set_good g S.data.toList
  rw [e1] at P
  refine (set_at h hS S e1).mono ?_
  rintro e w' ⟨rfl, t⟩
  exact ⟨s', c', r, rfl, t, P⟩
theorem post_any {s' : St} {c' : CS} {r : Int} {f : Int} {no : Prop} {may : List (List UInt8)} {t : List UInt8} (h : SetPost (s', c', r) f no may t) : ∃ no' may', CellM.Good s' f c' no' may' := by
  by_cases e : r = 0
  · exact ⟨_, _, (h.1 e).2.2.2⟩
  · exact ⟨_, _, h.2 e⟩
/-- A restart, with what stands in the file. -/
theorem again_gd {w0 w : World} {p z : Nat} {s : St} {c : CS} {no : Prop} {may : List (List UInt8)} (h : Tog w0 w [kDisk p s, kCell 61 z p 3 c]) (hS : Slots w0) (g : CellM.Good s 3 c no may) {a : Option Addr} {cc : Nat} {k : List Int} (K : NumsAt w0 a cc k) :
    Calls Tryd.prog 17 #[.pointer (some ⟨p, 0, none⟩), .slice a k.length cc] w fun e w' => ∃ z' s' c', e = .returned (.tuple #[.pointer (some ⟨z', 0, none⟩), .int .i64 0]) ∧ Tog w0 w' [kDisk p s', kCell 61 z' p 3 c'] ∧ ((c'.slot = 0 ∧ no ∧ CellM.Good s' 3 c' no []) ∨ (c'.slot ≠ 0 ∧ c'.val ∈ may ∧ CellM.Good s' 3 c' False [c'.val])) := by
  obtain ⟨c', ho, hd, hh⟩ := good_again g k
  have A := again_any h hS (i := 0) rfl K
  rw [ho] at A
  refine A.mono ?_
  rintro e w' ⟨z', rfl, t⟩
  refine ⟨z', _, c', rfl, t.sub (fun i => if i = 0 then 0 else 2) (fun i k hk => ?_) (fun i j hi hj e => ?_), hh⟩
  · rcases i with _ | _ | i
    · exact hk
    · exact hk
    · simp at hk
  · simp at hi hj e
    have : i = 0 ∨ i = 1 := by omega
    have : j = 0 ∨ j = 1 := by omega
    rcases ‹i = 0 ∨ i = 1› with rfl | rfl <;> rcases ‹j = 0 ∨ j = 1› with rfl | rfl <;> simp_all
theorem get_gd {w0 w : World} {p z : Nat} {s : St} {c : CS} (h : Tog w0 w [kDisk p s, kCell 61 z p 3 c]) {S : ByteArray} {d : Bool} (hv : bs c.val = S) (hd : decide (c.slot ≠ 0) = d) :
    Calls Tryd.prog 20 #[.pointer (some ⟨z, 0, none⟩)] w fun e w' => e = .returned (.tuple #[.string S, .bool d]) ∧ Tog w0 w' [kDisk p s, kCell 61 z p 3 c] := by
  have := cget_any h (j := 1) rfl
  rw [hv, hd] at this
  exact this
/-- make([]byte, n), and the string of it. -/
theorem wpList_zeros (w : World) {ops : Array Oper} {rest : List Oper} {o : Oper} {a : Act} {Q : Exit → Act → World → Prop}
    (hg : o.guard = none) (l c : Operand) (hop : o.op = Op.makeSlice 70 l c) (n : Nat) (C : Int) (hl : a.eval l = .int .i64 C) (hc : a.eval c = .int .i64 C) (hC : C = (n : Int)) (hn : n ≤ 1000000000)
    (hK : ∀ g w', (convert 70 9 (.slice (some ⟨g, 0, none⟩) n n)).run Tryd.prog w' = .ok (.string (bs (List.replicate n 0))) w' → Below w.heap.size w w' → wpList Tryd.prog ops Q rest (a.put o.dst (.slice (some ⟨g, 0, none⟩) n n)) w') :
    wpList Tryd.prog ops Q (o :: rest) a w := by
  obtain ⟨i0, hi, hz0, hz1, hz2⟩ := info_parts infoB
  refine wpList_make_full w hg l c _ hop 0 5 i0 (.int .u8 0) 1 Tryd.underlying70 hi hz0 hz1 .i64 .i64 C C n hl hc hC hC (by rw [hz2]; omega) (by unfold maxLen; omega) (Nat.zero_le _) ?_
  intro w' h1 h2
  refine hK _ w' ?_ ((Below.refl _ _).grown h2 (Nat.le_refl _) (fun k h => by cases h))
  have e : (madeCells (Value.cells (.int .u8 0)) (n * 1)).toList = List.replicate n (.int .u8 0) := by
    show (madeCells #[.int .u8 0] (n * 1)).toList = _
    rw [toList_madeCells_one, Nat.mul_one]
  rw [e] at h1
  have h := run_convert_bytes_back (P := Tryd.prog) w' 70 9 5 ⟨w.heap.size, 0, none⟩ n (List.replicate n 0) Tryd.underlying70 Tryd.underlying5 Tryd.underlying9 (fun j hj => by
    have hj' : j < n := by simpa using hj
    have hadd : (⟨w.heap.size, 0, none⟩ : Addr).add j = ⟨w.heap.size, j, none⟩ := by unfold Addr.add; split <;> simp_all
    rw [hadd, World.ownsRow.cellAt h1 j (by omega)]
    simp [hj'])
  rw [List.length_replicate] at h
  exact h
end Go.Proofs.YtdejajpmebgidaaDoor
