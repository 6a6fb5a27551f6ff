/-
  PACKAGE frames: Fill.
-/
import Derived.Test.YtpabkaihppnddaaCe
import Derived.Laws.CopyRow
import Derived.Deep.WholeRow
namespace Go.Proofs.Ytpabkaihppnddaa
open Go.RowKit
set_option linter.unusedVariables false
set_option linter.unusedSimpArgs false
set_option maxRecDepth 100000
/-- copy of a string into a whole page. -/
theorem run_copy_page (w : World) (ty : TypeId) (s : ByteArray) : (Builtin.copy_ #[ 46, 9 ] ty #[.slice (some ⟨w.heap.size, 0, none⟩) 64 64, .string s]).run Try.prog (w.alloc (.cells zcells 64)) =
    .ok (.int .i64 ((min s.size 64 : Nat) : Int)) (w.alloc (.cells (byteCells (fillOf s)).toArray 64)) := by
  have hsl : s.data.toList.length = s.size := by simp
  have hlen : (byteCells (s.data.toList.take 64)).length = min s.size 64 := by rw [byteCells_len, List.length_take, hsl]; omega
  have hst := run_storeCells_at Try.prog w.heap.size 0 64 (byteCells (s.data.toList.take 64)) 0 zcells (w.alloc (.cells zcells 64)) (heap_alloc_last w _) (by rw [hlen, zcells_size]; omega) (byteCells_one _)
  have htk : List.take (Nat.min s.size 64) (List.map (fun b : UInt8 => Value.int IntKind.u8 (b.toNat : Int)) s.data.toList) = byteCells (s.data.toList.take 64) := by
    unfold byteCells
    rw [List.map_take]
    apply List.ext_getElem?
    intro j
    rw [List.getElem?_take, List.getElem?_take]
    by_cases h1 : j < 64
    · by_cases h2 : j < s.size
      · rw [if_pos (show j < min s.size 64 by omega), if_pos h1]
      · rw [if_neg (show ¬ j < min s.size 64 by omega), if_pos h1, List.getElem?_eq_none (by rw [List.length_map, hsl]; omega)]
    · rw [if_neg (show ¬ j < min s.size 64 by omega), if_neg h1]
  rw [hlen, World.setRow_alloc_new] at hst
  have hc : (zcells.toList.take (0 + 0) ++ byteCells (s.data.toList.take 64) ++ zcells.toList.drop (0 + 0 + min s.size 64)) = byteCells (fillOf s) := by
    rw [zcells_eq, Nat.zero_add, List.take_zero, List.nil_append, Nat.zero_add, byteCells_drop, ← byteCells_app]
    unfold fillOf zpage
    rw [List.drop_replicate]
  rw [hc] at hst
  obtain ⟨i0, hi, hz0, hz1, hz2⟩ := info_parts elByte.info
  simp [Builtin.copy_, run_underlying Try.underlying46, Builtin.lenOf, Builtin.firstCells, sizeOf, typeInfo, hi, hz1]
  rw [htk, hst]
  simp [Result.andThen, goInt]
theorem wpList_copy_run {P : Program} {ops : Array Oper} {rest : List Oper} {o : Oper} {act : Act} {Q : Exit → Act → World → Prop} {w : World} (hgd : o.guard = none) (d x : Operand) (dT sT : TypeId) (ho : o.op = .call { callee := .builtin .copy, args := #[d, x], argTypes := #[dT, sT] })
    {v X : Value} (hv : act.eval d = v) (hx : act.eval x = X) {r : Value} {w' : World} (hr : (Builtin.copy_ #[dT, sT] o.type #[v, X]).run P w = .ok r w') (hK : wpList P ops Q rest (act.put o.dst r) w') : wpList P ops Q (o :: rest) act w :=
  wpList_plain hgd fun K hk => by
    unfold Oper.wp execOp
    simp only [ho, resolve, invoke, builtin, Sem.run_bind, Sem.run_pure, Result.andThen_ok, List.map_toArray, List.map_cons, List.map_nil, hv, hx, hr]
    exact hk _ _ hK
section
variable {w0 w : World} {S : Nat → Prop} {l : List Kd}
/-- A page of an allocated frame is written whole. -/
theorem Tog.newBytes (h : Tog w0 S w l) {i p : Nat} {L : Fm} (hi : l[i]? = some (kFr p L)) {m : Nat} {q : List UInt8} (hq : L[m]? = some (some q)) {V : List UInt8} (hV : V.length = 64) : ∃ g c, w.cell? ⟨p, 0, none⟩ = some (.slice (some ⟨g, 0, none⟩) L.length c) ∧
    w.there g (m * 64) 64 ∧ (w.setCells g (m * 64) (byteCells V)).cell? ⟨p, 0, none⟩ = some (.slice (some ⟨g, 0, none⟩) L.length c) ∧ Tog w0 S (w.setCells g (m * 64) (byteCells V)) (l.set i (kFr p (L.set m (some V)))) := by
  have okL := h.okFr hi
  have hm : m < L.length := (List.getElem?_eq_some_iff.1 hq).1
  obtain ⟨M, h2, CL⟩ := h.inner hi
  obtain ⟨ok, B, ⟨a, c⟩, ⟨a', c'⟩, hB, h2⟩ := h2.openFr
  obtain ⟨g, c2, e, _⟩ := row_pos (h2.rowAt (j := 1) rfl) (by omega)
  obtain ⟨rfl, rfl⟩ : a = some ⟨g, 0, none⟩ ∧ c = c2 := by simpa [Sl.val] using e
  have hlB := hB.len
  have h4 := h2.setRow (i := 1) rfl (o := m * 64) (vs := byteCells V) (by rw [byteCells_len, byteCells_len]; omega)
  refine ⟨g, c, h2.cellAt (j := 0) rfl 0 rfl, h2.thereRow (i := 1) rfl (by rw [byteCells_len]; omega), h4.cellAt (j := 0) rfl 0 rfl, ?_⟩
  rw [byteCells_len, hV, byteCells_take, byteCells_drop, ← byteCells_app, ← byteCells_app] at h4
  have bl : boolCells (L.set m (some V)) = boolCells L := by
    rw [← boolCells_set]
    apply List.ext_getElem?
    intro j
    rw [List.getElem?_set]
    split
    · rename_i e; subst e; rw [if_pos (by simpa [boolCells_len] using hm), boolCells_at hq]; rfl
    · rfl
  have := CL _ _ [] (Tog.shutFr (x := (some ⟨g, 0, none⟩, c)) (y := (a', c')) (B := B.take (m * 64) ++ V ++ B.drop (m * 64 + 64)) (L := L.set m (some V)) (n := L.length) (by rw [bl]; exact h4) (by simp) (okL.set m (fun q e => by cases e; exact hV)) (hB.page hm hV))
  rwa [List.append_nil] at this
set_option maxHeartbeats 1000000 in
theorem Tog.xfill (h : Tog w0 S w l) {i p : Nat} {L : Fm} (hi : l[i]? = some (kFr p L)) (f : Int) (s : ByteArray) (hf : InI f) : Calls Try.prog 26 #[.pointer (some ⟨p, 0, none⟩), .int .i64 f, .string s] w fun e w' => e = .returned (.int .i64 (L.fill f s).2) ∧ Tog w0 S w' (l.set i (kFr p (L.fill f s).1)) := by
  have HAS := Lib.hid (h.xhas hi f hf)
  have hle := (h.okFr hi).len
  by_cases e1 : L.has f = true
  · obtain ⟨q, hp⟩ : ∃ q, L.pg f = some q := Option.isSome_iff_exists.1 e1
    obtain ⟨m, rfl, hm, hq⟩ := Fm.pg_some hp
    have E : L.fill (m : Int) s = (L.set m (some (fillOf s)), 0) := by unfold Fm.fill; rw [if_pos e1, Int.toNat_natCast]
    rw [E]
    rw [e1] at HAS
    have CP := Lib.hid (fun ty => run_copy_page w ty s)
    obtain ⟨M, h1, CL⟩ := h.inner hi
    have hX := (h1.block (.cells (byteCells (fillOf s)).toArray 64)).drew
    obtain ⟨g, c, c0, th, c0'', FN⟩ := hX.newBytes (i := 0) rfl hq (V := fillOf s) (fillOf_len s)
    have rg := World.rangeAt_of_block (hX.heapAt (j := 1) rfl) 0 64
    have rg2 := World.rangeAt_of_block (FN.heapAt (j := 1) rfl) 0 64
    have csl : (byteCells (fillOf s)).length = 64 := by rw [byteCells_len, fillOf_len]
    have hex : ((byteCells (fillOf s)).toArray.extract 0 (0 + 64)).toList = byteCells (fillOf s) := by
      rw [Nat.zero_add, List.extract_toArray, List.extract_eq_take_drop]
      simp only [List.drop_zero]
      exact List.take_of_length_le (by rw [csl]; exact Nat.le_refl _)
    rw [hex] at rg rg2
    have FIN := Lib.hid (show Tog w0 S ((w.alloc (.cells (byteCells (fillOf s)).toArray 64)).drew.setCells g (m * 64) (byteCells (fillOf s))) (l.set i (kFr p (L.set m (some (fillOf s))))) from (CL _ _ _ FN).front)
    have th2 := World.there_setCells th g (m * 64) (byteCells (fillOf s))
    have un : Try.prog.underlying 64 = some (.array 64 5) := Try.underlying64
    have inf : (Try.prog.info? 64).map (·.size) = some (byteCells (fillOf s)).length := by rw [csl]; exact infoPage
    have one := byteCells_one (fillOf s)
    generalize byteCells (fillOf s) = cs at *
    have g0 : (0 : Int) ≤ (m : Int) := by omega
    have g1 : (m : Int) < (L.length : Int) := by omega
    clear h hi E hm FN e1 hp hq hX CL h1 hex
    go_enter Try.func26, Try.ntmps26
    go_upto_region 5 with (first
      | (go_at_call 15; refine HAS.out.mono ?_; rintro e w' ⟨rfl, hw⟩; subst w')
      | (refine wpList_copy_run rfl _ _ _ _ rfl rfl rfl (CP.out _) ?_))
    go_region_held3 (fun w' => w'.cell? ⟨p, 0, none⟩ = some (.slice (some ⟨g, 0, none⟩) L.length c) ∧ w'.rangeAt w.heap.size 0 cs ∧ w'.there g (m * 64) 64) (first | exact ⟨c0, rg, th⟩ | exact ⟨c0'', rg2, th2⟩) (fail)
    go_wp2
    go_ret
    exact ⟨rfl, FIN.out⟩
  · have E : L.fill f s = (L, 4) := by unfold Fm.fill; rw [if_neg e1]
    have FIN := Lib.hid (show Tog w0 S w (l.set i (kFr p L)) by rw [Tog.sameAt hi]; exact h)
    rw [E]
    rw [Bool.not_eq_true] at e1
    rw [e1] at HAS
    clear h hi E e1
    go_enter Try.func26, Try.ntmps26
    go_wp2_with (go_at_call 15; refine HAS.out.mono ?_; rintro e w' ⟨rfl, rfl⟩)
    go_ret
    exact ⟨rfl, FIN.out⟩
end
end Go.Proofs.Ytpabkaihppnddaa
