/-
  THE GROUND OF THE WALKS OVER PACKAGE text: what the library's variables hold, and the library's contracts in the words of the walks.
-/
import Derived.Test.YteccccpjhpbebaaGreatDoorWr
import Derived.Test.YteccccpjhpbebaaGreatDoorTp
import Derived.WalkSmall
import Derived.Lib.Hide
import Derived.Lib.AtoiErrMem
namespace Go.Proofs.YteccccpjhpbebaaGreatDoor
open Go.RowKit WireM
set_option linter.unusedVariables false
set_option linter.unusedSimpArgs false

/-- An error variable of the library holds some error. -/
def ErrVar (w : World) (n : String) : Prop := ∃ (tp : TypeId) (p : Value), w.var? Tryz.prog n = some #[.iface tp p]
/-- What the package-level variables of the library hold. -/
structure Glob (w : World) : Prop where
  pow : Lib.TabIs Tryz.prog w "internal/strconv.uint64pow10" .u64 Lib.pow10Tab
  utf : Lib.Utf8Tabs 2 3 w
  max : ∃ m, w.cell? ⟨4, 0, none⟩ = some (.int .i64 m)
  syn : ErrVar w "strconv.ErrSyntax"
  rng : ErrVar w "strconv.ErrRange"
  size : 8 ≤ w.heap.size
theorem gPow : Tryz.prog.globalNamed "internal/strconv.uint64pow10" = some 5 := by kernel_rfl
theorem gSyn : Tryz.prog.globalNamed "strconv.ErrSyntax" = some 0 := by kernel_rfl
theorem gRng : Tryz.prog.globalNamed "strconv.ErrRange" = some 1 := by kernel_rfl
theorem Glob.below {B : Nat} {w w' : World} (h : Glob w) (hb : Below B w w') (hB : 8 ≤ B) : Glob w' where
  pow := Go.var?_below hb gPow (by omega) h.pow
  utf := ⟨fun c hc => (hb.cell (p := ⟨2, c, none⟩) (show 2 < B by omega)).trans (h.utf.1 c hc),
    fun i hi => ⟨(hb.cell (p := ⟨3, 2 * i, none⟩) (show 3 < B by omega)).trans (h.utf.2 i hi).1,
      (hb.cell (p := ⟨3, 2 * i + 1, none⟩) (show 3 < B by omega)).trans (h.utf.2 i hi).2⟩⟩
  max := let ⟨m, hm⟩ := h.max; ⟨m, (hb.cell (p := ⟨4, 0, none⟩) (show 4 < B by omega)).trans hm⟩
  syn := let ⟨t, p, hp⟩ := h.syn; ⟨t, p, Go.var?_below hb gSyn (by omega) hp⟩
  rng := let ⟨t, p, hp⟩ := h.rng; ⟨t, p, Go.var?_below hb gRng (by omega) hp⟩
  size := by have := hb.size; have := h.size; omega
theorem Glob.step {w w' : World} (h : Glob w) (hb : Below w.heap.size w w') : Glob w' := h.below hb h.size
theorem below_step {w w1 w2 : World} (b : Below w.heap.size w w1) (c : Below w1.heap.size w1 w2) : Below w.heap.size w w2 := b.trans (c.mono b.size)
theorem Glob.of {w w1 : World} (h : Glob w) (b : Below w.heap.size w w1) : Glob w1 := h.step b

theorem grownBy_of_below {w w' : World} (h : Below w.heap.size w w') : w.grownBy w' none := ⟨h.os, h.tape, h.output, h.size, fun k hk _ => h.block k hk⟩
theorem builderAt_below {T e : TypeId} {B b : Nat} {p : Value} {xs : List Value} {w w' : World} (h : Lib.BuilderAt T e B b p xs w) (hb : Below w.heap.size w w') : Lib.BuilderAt T e B b p xs w' := by
  have hlt := h.lt
  obtain ⟨h1, v, h2, h3, h4⟩ := h
  refine ⟨h1, v, by rw [hb.block b hlt]; exact h2, h3.kept (grownBy_of_below hb) ?_, h4⟩
  cases hv : v.ownBlock with
  | none => exact .inl rfl
  | some g => exact .inr (by simp)
theorem isBuilder_below {T e : TypeId} {B b : Nat} {xs : List Value} {w w' : World} (h : Lib.IsBuilder T e B b xs w) (hb : Below w.heap.size w w') : Lib.IsBuilder T e B b xs w' :=
  h.imp (builderAt_below · hb) (builderAt_below · hb)
/-- A slice value that reads as a list of values. -/
def CellsAt (w : World) (a : Option Addr) (xs : List Value) : Prop :=
  xs = [] ∨ ∃ b o, a = some ⟨b, o, none⟩ ∧ b < w.heap.size ∧ ∀ (i : Nat), i < xs.length → w.cell? ⟨b, o + i, none⟩ = xs[i]?
theorem CellsAt.below {w w' : World} {a : Option Addr} {xs : List Value} (h : CellsAt w a xs) (hb : Below w.heap.size w w') : CellsAt w' a xs := by
  rcases h with h | ⟨b, o, rfl, h1, h2⟩
  · exact .inl h
  · exact .inr ⟨b, o, rfl, Nat.lt_of_lt_of_le h1 hb.size, fun i hi => (hb.cell (p := ⟨b, o + i, none⟩) h1).trans (h2 i hi)⟩
theorem own_cells {w : World} {base : Nat} {ty : TypeId} {v : Value} {n : Nat} {xs : List Value} (h : w.ownsRow base ty 1 v n xs) (hn : n = xs.length) : ∃ a cap, v = .slice a n cap ∧ CellsAt w a xs := by
  rcases h.2 with ⟨rfl, h0⟩ | ⟨g, cap, cur, rfl, hb, hg, hnc, hcm, hcs, htake⟩
  · subst h0
    exact ⟨none, 0, rfl, .inl (List.eq_nil_of_length_eq_zero hn.symm)⟩
  · refine ⟨_, cap, rfl, .inr ⟨g, 0, rfl, (h.lt g rfl).2, fun i hi => ?_⟩⟩
    have h2 := h.cells (g := g) rfl i xs[i] (by simp [hi])
    have hadd : (⟨g, 0, none⟩ : Addr).add i = ⟨g, i, none⟩ := by unfold Addr.add; split <;> simp_all
    rw [hadd] at h2
    rw [List.getElem?_eq_getElem hi, Nat.zero_add]
    exact h2
theorem infoString : (Tryz.prog.info? 9).map (fun i => (i.zero, i.size, i.bytes)) = some (some (.string .empty), 1, 16) := by kernel_rfl

/-! THE LIBRARY -/
theorem itoa_any (n : Int) (h0 : -9223372036854775808 ≤ n) (h1 : n ≤ 9223372036854775807) (w : World) (ht : Glob w) :
    Calls Tryz.prog 31 #[.int .i64 n] w fun e w' => e = .returned (.string (bs (Lib.itoa n))) ∧ Below w.heap.size w w' := by
  refine (Tryz.strconv_Itoa n h0 h1 w ht.pow).mono ?_
  rintro e w' ⟨rfl, k, os, rfl⟩
  exact ⟨rfl, (Go.below_drewN (Below.refl _ w) k).trans ⟨rfl, rfl, rfl, by simp [Go.Sort.grow], fun i hi => by
    have hi' : i < (w.drewN k).heap.size := hi
    show ((w.drewN k).heap ++ os)[i]? = _
    rw [Array.getElem?_append_left hi']⟩⟩
/-- strconv.Atoi: a number and no error, or some error. -/
def AtoiOut (s : ByteArray) (e : Ending) : Prop :=
  (∃ v, e = .returned (.tuple #[.int .i64 v, .nilIface]) ∧ InR v ∧ ∀ n, InR n → Lib.itoa n = s.data.toList → n = v) ∨
  (∃ v tp p, e = .returned (.tuple #[.int .i64 v, .iface tp p]) ∧ InR v ∧ ∀ n, InR n → Lib.itoa n ≠ s.data.toList)
theorem atoi_any (s : ByteArray) (hs : s.size ≤ 281474976710656) (w : World) (ht : Glob w) :
    Calls Tryz.prog 28 #[.string s] w fun e w' => AtoiOut s e ∧ Below w.heap.size w w' := by
  rcases h : Lib.atoiAll s.data.toList with v | _ | _
  · refine (Tryz.strconv_Atoi_ok s (by omega) v h w).mono ?_
    rintro e w' ⟨rfl, hw⟩
    refine ⟨.inl ⟨v, rfl, Lib.atoiAll_bounds h, fun n hn e => ?_⟩, ?_⟩
    · have := atoi_itoa n hn
      rw [e, h] at this
      injection this with this
      exact this.symm
    · rcases hw with rfl | ⟨t, rfl⟩
      · exact Below.refl _ _
      · exact Lib.bytesWorld_below _ _ _
  · obtain ⟨tp, p, hp⟩ := ht.syn
    refine (Any.strconv_Atoi_syntax_var Tryz.laysC172 s hs h tp p w hp).mono ?_
    rintro e w' ⟨N, rfl, _, _, hb⟩
    refine ⟨.inr ⟨0, _, _, rfl, by unfold InR; omega, fun n hn e => ?_⟩, hb⟩
    have := atoi_itoa n hn
    rw [e, h] at this; cases this
  · obtain ⟨tp, p, hp⟩ := ht.rng
    refine (Tryz.strconv_Atoi_range_var s hs h tp p w hp).mono ?_
    rintro e w' ⟨N, rfl, _, _, hb⟩
    refine ⟨.inr ⟨_, _, _, rfl, Lib.atoiSat_bounds _, fun n hn e => ?_⟩, hb⟩
    have := atoi_itoa n hn
    rw [e, h] at this; cases this

/-! DECIMAL, INT -/
theorem decimal_any (n : Int) (h0 : -9223372036854775808 ≤ n) (h1 : n ≤ 9223372036854775807) (w : World) (ht : Glob w) :
    Calls Tryz.prog 9 #[.int .i64 n] w fun e w' => e = .returned (.string (bs (Lib.itoa n))) ∧ Below w.heap.size w w' := by
  go_enter Tryz.func9, Tryz.ntmps9
  go_wp2_with (go_at_call 31; refine (itoa_any n h0 h1 _ ht).mono ?_; rintro e w' ⟨rfl, hb⟩)
  go_ret
  exact ⟨rfl, hb⟩
end Go.Proofs.YteccccpjhpbebaaGreatDoor
