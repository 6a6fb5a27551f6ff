/-
  THE REFERENCE's READER: its block, and what its methods return.
-/
import Derived.Test.YtenlbohacgamlaaDoorRw
import Derived.Test.YtenlbohacgamlaaDoorMc
namespace Go.Proofs.YtenlbohacgamlaaDoor
open Go.RowKit WireM
set_option linter.unusedVariables false
set_option linter.unusedSimpArgs false

/-- A reader in block b: what it has not read, and whether it has failed. -/
def Rq (w : World) (b : Nat) (s : ByteArray) (f : Bool) : Prop := w.heap[b]? = some (.cells #[.string s, .bool f] 56 (0, 0))
def RqOut (b : Nat) (w w' : World) (s : ByteArray) (f : Bool) : Prop := Rq w' b s f ∧ w.grownBy w' (some b)

theorem Rq.lt {w : World} {b : Nat} {s : ByteArray} {f : Bool} (h : Rq w b s f) : b < w.heap.size := by
  rcases Nat.lt_or_ge b w.heap.size with h' | h'
  · exact h'
  · simp [Rq, Array.getElem?_eq_none h'] at h
theorem Rq.c0 {w : World} {b : Nat} {s : ByteArray} {f : Bool} (h : Rq w b s f) : w.cell? ⟨b, 0, none⟩ = some (.string s) := by rw [Lib.cell_of_heap h]; rfl
theorem Rq.c1 {w : World} {b : Nat} {s : ByteArray} {f : Bool} (h : Rq w b s f) : w.cell? ⟨b, 1, none⟩ = some (.bool f) := by rw [Lib.cell_of_heap h]; rfl
theorem Rq.f0 {w : World} {b : Nat} {s : ByteArray} {f : Bool} (h : Rq w b s f) : w.frozen? ⟨b, 0, none⟩ = false := Lib.frozen_of_heap h 0
theorem Rq.f1 {w : World} {b : Nat} {s : ByteArray} {f : Bool} (h : Rq w b s f) : w.frozen? ⟨b, 1, none⟩ = false := Lib.frozen_of_heap h 1
theorem Rq.set0 {w : World} {b : Nat} {s : ByteArray} {f : Bool} (h : Rq w b s f) (s' : ByteArray) : Rq (w.setCell ⟨b, 0, none⟩ (.string s')) b s' f := by
  have h' : w.heap[b]? = _ := h
  simp [Rq, World.setCell, Array.getElem?_modify, h']
theorem Rq.set1 {w : World} {b : Nat} {s : ByteArray} {f : Bool} (h : Rq w b s f) (f' : Bool) : Rq (w.setCell ⟨b, 1, none⟩ (.bool f')) b s f' := by
  have h' : w.heap[b]? = _ := h
  simp [Rq, World.setCell, Array.getElem?_modify, h']

theorem Rq.below' {w w' : World} {b : Nat} {s : ByteArray} {f : Bool} (h : Rq w b s f) (hb : Below w.heap.size w w') : Rq w' b s f := (hb.block b h.lt).trans h
theorem RqOut.tr {b : Nat} {w w1 w2 : World} {s s2 : ByteArray} {f f2 : Bool} (h : RqOut b w w1 s f) (k : RqOut b w1 w2 s2 f2) : RqOut b w w2 s2 f2 := ⟨k.1, grownBy_trans h.2 k.2⟩
theorem RqOut.seen {b : Nat} {w w1 w2 : World} {s s2 : ByteArray} {f f2 : Bool} (h : w.grownBy w1 (some b)) (k : RqOut b w1 w2 s2 f2) : RqOut b w w2 s2 f2 := ⟨k.1, grownBy_trans h k.2⟩
theorem RqOut.below {b : Nat} {w w1 : World} {s : ByteArray} {f : Bool} (h : Rq w b s f) (hb : Below w.heap.size w w1) : RqOut b w w1 s f := ⟨(hb.block b h.lt).trans h, grownBy_to (grownBy_of_below hb)⟩

/-- What a read leaves: the value and the rest behind it; or the zero value and a reader that has failed. -/
def RqPost {α : Type} (b : Nat) (w : World) (f : Bool) (mk : α → Value) (z : Value) (r : Option (α × List UInt8)) (en : Ending) (w' : World) : Prop :=
  match r with
  | some (v, t) => en = .returned (mk v) ∧ RqOut b w w' (bs t) f
  | none => en = .returned z ∧ RqOut b w w' (bs []) true
theorem rqPost_none {α : Type} {b : Nat} {w w' : World} {f : Bool} {mk : α → Value} {z z' : Value} {r : Option (α × List UInt8)} (h : r = none) (hz : z' = z) (ho : RqOut b w w' (bs []) true) : RqPost b w f mk z r (.returned z') w' := by
  subst h; subst hz; exact ⟨rfl, ho⟩
theorem rqPost_some {α : Type} {b : Nat} {w w' : World} {f : Bool} {mk : α → Value} {z z' : Value} {r : Option (α × List UInt8)} {v : α} {t : List UInt8} {t' : ByteArray} (h : r = some (v, t)) (hz : z' = mk v) (ht : t' = bs t) (ho : RqOut b w w' t' f) : RqPost b w f mk z r (.returned z') w' := by
  subst h; subst hz; subst ht; exact ⟨rfl, ho⟩

theorem qfail_any (b : Nat) (s : ByteArray) (f : Bool) (w : World) (h : Rq w b s f) :
    Calls Tryd.prog 53 #[.pointer (some ⟨b, 0, none⟩)] w fun e w' => e = .returned (.int .i64 0) ∧ RqOut b w w' (bs []) true := by
  have c0 := h.c0
  have f0 := h.f0
  have f1 := h.f1
  have c1 := h.c1
  go_enter Tryd.func53, Tryd.ntmps53
  go_wp2
  go_ret
  exact ⟨rfl, (h.set0 _).set1 _, grownBy_trans (grownBy_set _ _ _ _) (grownBy_set _ _ _ _)⟩
theorem qleft_any (b : Nat) (s : ByteArray) (f : Bool) (w : World) (h : Rq w b s f) :
    Calls Tryd.prog 37 #[.pointer (some ⟨b, 0, none⟩)] w fun e w' => e = .returned (.int .i64 s.size) ∧ w = w' := by
  have c0 := h.c0
  go_enter Tryd.func37, Tryd.ntmps37
  go_wp2
  go_ret
  exact ⟨rfl, rfl⟩
theorem qtail_any (b : Nat) (s : ByteArray) (f : Bool) (w : World) (h : Rq w b s f) :
    Calls Tryd.prog 41 #[.pointer (some ⟨b, 0, none⟩)] w fun e w' => e = .returned (.string s) ∧ RqOut b w w' (bs []) f := by
  have c0 := h.c0
  have f0 := h.f0
  go_enter Tryd.func41, Tryd.ntmps41
  go_wp2
  go_ret
  exact ⟨rfl, h.set0 _, grownBy_set _ _ _ _⟩
theorem qopen_any (s : ByteArray) (w : World) :
    Calls Tryd.prog 22 #[.string s] w fun e w' => e = .returned (.pointer (some ⟨w.heap.size, 0, none⟩)) ∧ Rq w' w.heap.size s false ∧ Below w.heap.size w w' := by
  go_enter Tryd.func22, Tryd.ntmps22
  go_wp2
  go_ret
  exact ⟨rfl, heap_alloc_new w _, (Below.refl _ w).alloc (Nat.le_refl _) _⟩
theorem qdone_any (b : Nat) (s : ByteArray) (f : Bool) (w : World) (h : Rq w b s f) :
    Calls Tryd.prog 39 #[.pointer (some ⟨b, 0, none⟩)] w fun e w' => e = .returned (.bool (!f && decide (s.size = 0))) ∧ w = w' := by
  have c0 := h.c0
  have c1 := h.c1
  cases f
  · by_cases hs : s.size = 0
    · have hs' : s.toList = [] := by rw [Lib.toList_data]; exact List.eq_nil_of_length_eq_zero hs
      have hs2 : (!s.toList.isEmpty) = false := by simp [hs']
      have H := Lib.hid hs
      clear hs
      go_enter Tryd.func39, Tryd.ntmps39
      go_wp2
      go_ret
      exact ⟨by simp [H.out], rfl⟩
    · have hs' : s.toList ≠ [] := by rw [Lib.toList_data]; intro h0; exact hs (congrArg List.length h0)
      have hs2 : (s.toList.isEmpty) = false := by simp [hs']
      have H := Lib.hid hs
      clear hs
      go_enter Tryd.func39, Tryd.ntmps39
      go_wp2
      go_ret
      exact ⟨by simp [H.out], rfl⟩
  · go_enter Tryd.func39, Tryd.ntmps39
    go_wp2
    go_ret
    exact ⟨rfl, rfl⟩


theorem first_of {s : ByteArray} {e : UInt8} {r : List UInt8} (hL : s.data.toList = e :: r) : ∃ hp : 0 < s.size, s[0] = e ∧ s.extract 1 s.size = bs r := by
  have hp : 0 < s.size := by
    have h1 := congrArg List.length hL
    have h2 : s.size = s.data.toList.length := by simp
    simp at h1; omega
  have hd := drop_at s 0 hp
  rw [List.drop_zero, hL] at hd
  refine ⟨hp, ?_, ?_⟩
  · exact (List.cons.inj hd).1.symm
  · rw [extract_end, hL]; rfl
theorem qclose_yes (b : Nat) (s : ByteArray) (f : Bool) (e : UInt8) (r : List UInt8) (z : Int) (w : World) (h : Rq w b s f) (hz : (e.toNat : Int) = z) (hs : s.size ≤ 1099511627776) (hL : s.data.toList = e :: r) :
    Calls Tryd.prog 54 #[.pointer (some ⟨b, 0, none⟩), .int .u8 z] w fun en w' => en = .returned (.bool true) ∧ RqOut b w w' (bs r) f := by
  have c0 := h.c0
  have f0 := h.f0
  obtain ⟨hp, h0, hx⟩ := first_of hL
  have hc : (s[0].toNat : Int) = z := by rw [h0]; exact hz
  have hz0 : ((s.size : Int) == 0) = false := by rw [beq_eq_false_iff_ne]; omega
  have HX := Lib.hid hx
  clear hL h0 hz hx
  go_enter Tryd.func54, Tryd.ntmps54
  go_wp2_with fail
  go_ret
  exact ⟨rfl, by rw [← HX.out]; exact h.set0 _, grownBy_set _ _ _ _⟩
theorem qclose_no (b : Nat) (s : ByteArray) (f : Bool) (e : UInt8) (z : Int) (w : World) (h : Rq w b s f) (hz : (e.toNat : Int) = z) (hs : s.size ≤ 1099511627776) (hL : s.data.toList.head? ≠ some e) :
    Calls Tryd.prog 54 #[.pointer (some ⟨b, 0, none⟩), .int .u8 z] w fun en w' => en = .returned (.bool false) ∧ RqOut b w w' (bs []) true := by
  have c0 := h.c0
  have f0 := h.f0
  by_cases h0 : s.size = 0
  · have hz0 : ((s.size : Int) == 0) = true := by simp [h0]
    clear h0 hL hz
    go_enter Tryd.func54, Tryd.ntmps54
    go_wp2_with fail
    go_at_call 53
    refine (qfail_any b s f w h).mono ?_
    rintro e' w1 ⟨rfl, ho⟩
    go_wp2_with fail
    go_ret
    exact ⟨rfl, ho⟩
  · have hp : 0 < s.size := by omega
    have hz0 : ((s.size : Int) == 0) = false := by rw [beq_eq_false_iff_ne]; omega
    have hcb : ((s[0].toNat : Int) != z) = true := by
      rw [bne_iff_ne]
      intro hc
      have hd := drop_at s 0 hp
      rw [List.drop_zero] at hd
      rw [hd] at hL
      have : s[0] = e := UInt8.toNat_inj.1 (Int.ofNat.inj (hc.trans hz.symm))
      rw [this] at hL
      exact hL rfl
    clear hL hz h0
    go_enter Tryd.func54, Tryd.ntmps54
    go_wp2_with fail
    go_at_call 53
    refine (qfail_any b s f w h).mono ?_
    rintro e' w1 ⟨rfl, ho⟩
    go_wp2_with fail
    go_ret
    exact ⟨rfl, ho⟩
end Go.Proofs.YtenlbohacgamlaaDoor
