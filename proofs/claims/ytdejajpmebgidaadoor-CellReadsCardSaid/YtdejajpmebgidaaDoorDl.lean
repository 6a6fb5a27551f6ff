/-
  PACKAGE disk: copyFiles: a map is cloned, and in a range over it each of its slices is stored anew.
-/
import Derived.Test.YtdejajpmebgidaaDoorDk
import Derived.Shelf.SlMaps.Clone
namespace Go.Proofs.YtdejajpmebgidaaDoor
open Go.RowKit Go.Maps WireM DiskM
open Go.WideElems (Fit rd rg rd_key rg_of)
open Go.ChangeMaps Go.MapKept Go.WideShapes
set_option linter.unusedVariables false
set_option linter.unusedSimpArgs false
set_option maxRecDepth 100000

/-- Two entries with one key and one stamp. -/
def Twin (x y : MapEntry) : Prop := x.key = y.key ∧ x.born = y.born
theorem rg_twin {k : TypeId} {es es' : Array MapEntry} {clock clock' : Nat} (F : Fit Tryd.prog k heldElem es clock) (F' : Fit Tryd.prog k heldElem es' clock') {x y : MapEntry} (hx : x ∈ es.toList) (hy : y ∈ es'.toList) (h : x.key = y.key) : (rg Tryd.prog k heldElem x).1 = (rg Tryd.prog k heldElem y).1 := by
  obtain ⟨a, ha⟩ := F.reads x hx
  obtain ⟨b, hb⟩ := F'.reads y hy
  rw [rg_of ha, rg_of hb]
  have h1 := rd_key ha
  have h2 := rd_key hb
  rw [h, h2] at h1
  exact (Option.some.inj h1).symm
/-- A store at a key that is there, in the round of a range over the map. -/
theorem ranges_store {w : World} {k t e : TypeId} {b r n : Nat} {D : DataW Value} {left : Lit → Bool} {cnt : Nat} (h : w.ranges Tryd.prog k heldElem b r n D left cnt) (K : Keyed Tryd.prog k) (ht : Tryd.prog.underlying t = some (.map k e)) {key : Value} {kl : Lit}
    (hkey : keyOf Tryd.prog k key = some kl) (hh : Maps.has D kl = true) (hroom : n < maxLen) (val : Value) :
    ∃ w', (Instr.mapUpdate t (.map (some b)) key val).run Tryd.prog w = .ok () w' ∧ w'.ranges Tryd.prog k heldElem b r n (D.put kl (.held val)) left cnt ∧ w.mapTurned w' b := by
  have hne := h.ne
  obtain ⟨es, clock, since, seen, c0, hb, F, hs, rfl, hr, hold, rfl, hl1, hl2, hsc, hsk⟩ := h
  rcases K.find w hkey es.toList F.keys with ⟨h1, h2⟩ | ⟨j, e0, h1, h2, h3⟩
  · exfalso
    obtain ⟨p, hp, hpk⟩ := List.any_eq_true.1 hh
    obtain ⟨x, hx, rfl⟩ := List.mem_map.1 (mem_sorted.1 hp)
    obtain ⟨y, hy⟩ := F.reads x hx
    have h4 := WideAt.sameKey_eq hpk
    rw [rg_of hy] at h4
    have h5 := rd_key hy
    rw [h4] at h5
    exact h2 x hx (K.inj h5 hkey)
  · have hj : es[j]? = some e0 := by simpa using h2
    have hrun : (Instr.mapUpdate t (.map (some b)) key val).run Tryd.prog w = .ok () (setBlock w b (.map (es.modify j (fun e' => { e' with key := key, val := val })) clock)) := by
      simp [Instr.mapUpdate, run_underlying ht, MapKept.run_getObj_map hb, K.check w false hkey, h1, hj, h3, K.stays w hkey, MapKept.run_setObj_map _ hb, Result.andThen, setBlock]
    obtain ⟨es', clock', hrun', F', hput, _⟩ := Maps.fit_store (R' := heldElem) K ht hb F (Nat.lt_of_le_of_lt hs hroom) (val := val) (yv := (.held val, [])) (fun _ _ _ _ hz => hz) hkey rfl
    have hsame : Obj.map (es.modify j (fun e' => { e' with key := key, val := val })) clock = .map es' clock' := by
      have e1 := hrun.symm.trans hrun'
      have e1 : setBlock w b (.map (es.modify j (fun e' => { e' with key := key, val := val })) clock) = setBlock w b (.map es' clock') := by injection e1
      have e2 := heap_setBlock_same hb (.map (es.modify j (fun e' => { e' with key := key, val := val })) clock)
      rw [e1, heap_setBlock_same hb] at e2
      exact (Option.some.inj e2).symm
    injection hsame with hes hck
    have htw : ∀ i x', es'.toList[i]? = some x' → ∃ x, es.toList[i]? = some x ∧ Twin x' x := fun i x' hx => by
      rw [← hes] at hx
      rw [Array.getElem?_toList, Array.getElem?_modify] at hx
      split at hx
      · rename_i ei
        subst ei
        rw [hj] at hx
        simp only [Option.map_some, Option.some.injEq] at hx
        subst hx
        exact ⟨e0, h2, h3.symm, rfl⟩
      · exact ⟨x', by simpa using hx, rfl, rfl⟩
    have htw2 : ∀ i x, es.toList[i]? = some x → ∃ x', es'.toList[i]? = some x' ∧ Twin x' x := fun i x hx => by
      have hi : i < es'.toList.length := by rw [← hes]; simpa using (List.getElem?_eq_some_iff.1 hx).1
      obtain ⟨y, hy, ht⟩ := htw i _ (List.getElem?_eq_getElem hi)
      rw [hx] at hy
      cases hy
      exact ⟨_, List.getElem?_eq_getElem hi, ht⟩
    have hmem : ∀ x' ∈ es'.toList, ∃ x ∈ es.toList, Twin x' x := fun x' hx => by
      obtain ⟨i, hi⟩ := List.getElem?_of_mem hx
      obtain ⟨x, h5, h6⟩ := htw i x' hi
      exact ⟨x, List.mem_of_getElem? h5, h6⟩
    have hmem2 : ∀ x ∈ es.toList, ∃ x' ∈ es'.toList, Twin x' x := fun x hx => by
      obtain ⟨i, hi⟩ := List.getElem?_of_mem hx
      obtain ⟨x', h5, h6⟩ := htw2 i x hi
      exact ⟨x', List.mem_of_getElem? h5, h6⟩
    have hborn : es'.toList.map (·.born) = es.toList.map (·.born) := by
      apply List.ext_getElem?
      intro i
      rw [List.getElem?_map, List.getElem?_map]
      cases h7 : es'.toList[i]? with
      | none =>
        cases h8 : es.toList[i]? with
        | none => rfl
        | some x => obtain ⟨x', h9, _⟩ := htw2 i x h8; rw [h7] at h9; cases h9
      | some x' =>
        obtain ⟨x, h8, h9⟩ := htw i x' h7
        rw [h8]
        simp [h9.2]
    have hlen : es'.size = es.size := by simpa using congrArg List.length hborn
    refine ⟨_, hrun', ⟨es', clock', since, seen, c0, heap_setBlock_same hb _, F', by omega, by rw [DataW.put_eq, hput], (heap_setBlock_other hb _ hne).trans hr, fun x hx => ?_, ?_, fun x hx => ?_, fun x0 hx0 => ?_, hsc, by omega⟩, ⟨es, clock, es', clock', hb, rfl⟩⟩
    · obtain ⟨y, hy, ht⟩ := hmem x hx
      rw [ht.2]; exact hold y hy
    · have e1 : ∀ a : Array MapEntry, (leftOf a seen).size = ((a.toList.map (·.born)).filter fun e => !seen.contains e).length := fun a => by
        unfold leftOf
        rw [← Array.length_toList, Array.toList_filter, List.filter_map, List.length_map]
        rfl
      rw [e1, e1, hborn]
    · obtain ⟨y, hy, ht⟩ := hmem x hx
      rw [rg_twin F' F hx hy ht.1, hl1 y hy, ht.2]
    · obtain ⟨y, hy, rfl⟩ := hl2 x0 hx0
      obtain ⟨x, hx, ht⟩ := hmem2 y hy
      exact ⟨x, hx, rg_twin F' F hx hy ht.1⟩

/-- A range over a map of files is under way. -/
def FRange (w : World) (b r : Nat) (V : Int → Value) (dom left : Int → Bool) (cnt : Nat) : Prop :=
  ∃ D lf, w.ranges Tryd.prog 3 heldElem b r 16 D lf cnt ∧ (∀ f : Int, D.atKey (.int .i64 f) (.held nilS) = .held (V f)) ∧ (∀ kl, Maps.has D kl = true → ∃ f, isF f ∧ kl = .int .i64 f) ∧ (∀ f, lf (.int .i64 f) = left f) ∧ (∀ f, Maps.has D (.int .i64 f) = dom f)
theorem FRange.files {w : World} {b r : Nat} {V : Int → Value} {dom left : Int → Bool} {cnt : Nat} (h : FRange w b r V dom left cnt) : FilesAt w b V := by
  obtain ⟨D, lf, h1, h2, h3, _⟩ := h; exact ⟨D, h1.owns, h2, h3⟩
theorem FRange.kept {w w' : World} {b r : Nat} {V : Int → Value} {dom left : Int → Bool} {cnt : Nat} (h : FRange w b r V dom left cnt) (hb : w.heap.size ≤ w'.heap.size) (h1 : w'.heap[b]? = w.heap[b]?) (h2 : w'.heap[r]? = w.heap[r]?) : FRange w' b r V dom left cnt := by
  obtain ⟨D, lf, ⟨es, clock, since, seen, c0, g1, g2, g3, g4, g5, g6⟩, r1⟩ := h
  exact ⟨D, lf, ⟨es, clock, since, seen, c0, h1.trans g1, g2, g3, g4, h2.trans g5, g6⟩, r1⟩
theorem FRange.left_eq {w : World} {b r : Nat} {V : Int → Value} {dom left : Int → Bool} {cnt : Nat} (h : FRange w b r V dom left cnt) : w.rangeLeft b r = cnt := by
  obtain ⟨D, lf, h1, _⟩ := h; exact h1.left_eq
theorem FRange.lt {w : World} {b r : Nat} {V : Int → Value} {dom left : Int → Bool} {cnt : Nat} (h : FRange w b r V dom left cnt) : r < w.heap.size := by
  obtain ⟨D, lf, h1, _⟩ := h; exact h1.lt
theorem wpList_range_files {w : World} {ops : Array Oper} {rest : List Oper} {o : Oper} {a : Act} {Q : Exit → Act → World → Prop} (hg : o.guard = none) (m : Operand) (hop : o.op = Op.range 51 m) {b : Nat} {V : Int → Value} (hm : a.eval m = .map (some b)) (h : FilesAt w b V)
    (hK : ∀ w' dom cnt, FRange w' b w.heap.size V dom dom cnt → (∀ f, dom f = false → V f = nilS) → w.grownBy w' none → w'.heap.size = w.heap.size + 1 → wpList Tryd.prog ops Q rest (a.put o.dst (.pointer (some ⟨w.heap.size, 0, none⟩))) w') :
    wpList Tryd.prog ops Q (o :: rest) a w := by
  obtain ⟨D, h1, h2, h3⟩ := h
  refine wpList_range_own w hg m 51 hop 3 70 lawI Tryd.underlying51 heldElem b 16 D hm h1 (fun w' r1 r2 r3 => ?_)
  refine hK w' (fun f => Maps.has D (.int .i64 f)) _ ⟨D, Maps.has D, r1, h2, h3, fun _ => rfl, fun _ => rfl⟩ (fun f hf => ?_) r2 r3
  have h4 := h2 f
  rw [atKey_of_not_has hf] at h4
  simpa using h4.symm
theorem wpList_next_files {w : World} {ops : Array Oper} {rest : List Oper} {o : Oper} {a : Act} {Q : Exit → Act → World → Prop} (hg : o.guard = none) (it : Operand) (hop : o.op = Op.next it false) {b r : Nat} {V : Int → Value} {dom left : Int → Bool} {cnt : Nat}
    (hit : a.eval it = .pointer (some ⟨r, 0, none⟩)) (h : FRange w b r V dom left cnt)
    (hDone : (∀ f, left f = false) → wpList Tryd.prog ops Q rest (a.put o.dst (.tuple #[.bool false])) w)
    (hMore : ∀ (f : Int) (w' : World) (cnt' : Nat), isF f → left f = true → dom f = true → FRange w' b r V dom (fun g => left g && !decide (g = f)) cnt' → cnt' < cnt → w.grownBy w' (some r) → w'.heap.size = w.heap.size →
      (Instr.entry (.pointer (some ⟨r, 0, none⟩))).run Tryd.prog w' = .ok (.tuple #[.int .i64 f, V f]) w' → wpList Tryd.prog ops Q rest (a.put o.dst (.tuple #[.bool true, .int .i64 f, V f])) w') :
    wpList Tryd.prog ops Q (o :: rest) a w := by
  obtain ⟨D, lf, h1, h2, h3, h4, h5⟩ := h
  refine wpList_next_ranges w hg it hop 3 lawI heldElem (Value.int .i64) (id : Value → Value) (fun key kl hkey => by obtain ⟨x, rfl, _⟩ := Maps.keyOf_int_inv Tryd.underlying3 hkey; exact ⟨x, rfl⟩) (fun v y _ => ⟨v, rfl⟩) b r 16 D lf cnt hit h1 (fun _ hl => hDone (fun f => by rw [← h4]; exact hl _)) ?_
  intro x c kl y w' cnt' hkey hlk hv hat hrg hlt hgr hsz hen
  obtain ⟨x', ex, rfl, hwx⟩ := Maps.keyOf_int_inv Tryd.underlying3 hkey
  cases ex
  have hc : c = V x := by
    have e1 := h2 x
    rw [hat] at e1
    simp [heldElem] at hv
    rw [← hv] at e1
    simpa using e1
  simp only [id] at hen ⊢
  subst hc
  have hdom : Maps.has D (.int .i64 x) = true := has_true_of_atKey hat
  obtain ⟨g, hg', e⟩ := h3 _ hdom
  simp at e
  subst e
  refine hMore x w' cnt' hg' (by rw [← h4]; exact hlk) (by rw [← h5]; exact hdom) ⟨D, _, hrg, h2, h3, fun g => ?_, h5⟩ hlt hgr hsz hen
  simp only [h4]
  congr 1
  by_cases e : g = x
  · subst e
    simp [WideAt.sameKey_self (lawI.key hkey)]
  · rw [sameKey_ne (by simpa using e)]
    simp [e]
theorem FRange.store {w : World} {b r : Nat} {V : Int → Value} {dom left : Int → Bool} {cnt : Nat} (h : FRange w b r V dom left cnt) {f : Int} (hf : isF f) (hd : dom f = true) (v : Value) :
    ∃ w', (Instr.mapUpdate 51 (.map (some b)) (.int .i64 f) v).run Tryd.prog w = .ok () w' ∧ FRange w' b r (upd V f v) dom left cnt ∧ w.mapTurned w' b := by
  obtain ⟨D, lf, h1, h2, h3, h4, h5⟩ := h
  have hk : WideAt.IsKeyLit (Lit.int .i64 f) := lawI.key (key_int (inI_of hf))
  obtain ⟨w', hrun, hr, ht⟩ := ranges_store h1 lawI Tryd.underlying51 (key_int (inI_of hf)) ((h5 f).trans hd) (by unfold maxLen; omega) v
  refine ⟨w', hrun, ⟨_, lf, hr, fun g => ?_, fun kl hh => ?_, h4, fun g => ?_⟩, ht⟩
  · by_cases e : g = f
    · subst e; rw [upd_same, atKey_put_same h1.owns.isMap hk]
    · rw [upd_other _ _ e, atKey_put_other (by simpa using e)]; exact h2 g
  · by_cases e : kl = .int .i64 f
    · exact ⟨f, hf, e⟩
    · rw [has_put_other e] at hh; exact h3 kl hh
  · by_cases e : g = f
    · subst e; rw [has_put_same h1.owns.isMap hk, hd]
    · rw [has_put_other (by simpa using e)]; exact h5 g

/-! maps.Clone at the two map types -/
set_option maxHeartbeats 2000000 in
theorem cloneF_any (b : Nat) (es : Array MapEntry) (clock : Nat) (w : World) (hb : w.heap[b]? = some (.map es clock)) :
    Calls Tryd.prog 55 #[.map (some b)] w fun e w' => e = .returned (.map (some w.heap.size)) ∧ w' = w.alloc (.map es clock) := by
  have hq := fun w => run_eql_map_nil_sl (P := Tryd.prog) w 51 _ _ (some b) Tryd.underlying51
  go_enter Tryd.func55, Tryd.ntmps55
  go_wp2
  rw [run_callFunc_extern Tryd.func60 (by kernel_rfl) (by kernel_rfl) (by kernel_rfl) (e := Extern.MapsClone.clone) (by kernel_rfl), run_maps_clone_sl w 51 hb]
  simp only [Result.andThen]
  rw [Oper.upon_value]
  go_wp2
  rw [run_typeAssert_map_sl _ 51 _ _ _ _ Tryd.underlying51]
  simp only [Result.andThen]
  rw [Oper.upon_value]
  go_wp2
  go_ret
  exact ⟨rfl, rfl⟩
theorem FilesAt.cloned {w : World} {b : Nat} {V : Int → Value} (h : FilesAt w b V) : ∃ es clock, w.heap[b]? = some (.map es clock) ∧ FilesAt (w.alloc (.map es clock)) w.heap.size V := by
  obtain ⟨D, ⟨es, clock, h1, h3⟩, h2⟩ := h
  exact ⟨es, clock, h1, D, ⟨es, clock, (MapKept.heap_alloc w _).1, h3⟩, h2⟩
theorem ListedAt.cloned {w : World} {b : Nat} {p : List Sec} (h : ListedAt w b p) : ∃ es clock, w.heap[b]? = some (.map es clock) ∧ ListedAt (w.alloc (.map es clock)) w.heap.size p := by
  obtain ⟨D, ⟨es, clock, h1, h3⟩, h2⟩ := h
  exact ⟨es, clock, h1, D, ⟨es, clock, (MapKept.heap_alloc w _).1, h3⟩, h2⟩

/-- What copyFiles makes. -/
structure Copied (w : World) (L : Files) (b : Nat) (V : Int → Value) (w' : World) : Prop where
  files : FilesAt w' b V
  rows : ∀ f, ByteRow w' (V f) (L f)
  low : w.heap.size ≤ b
  own : ∀ f k, (V f).ownBlock = some k → w.heap.size ≤ k
  ap : ∀ f g k, (V f).ownBlock = some k → (V g).ownBlock = some k → f = g
  below : Below w.heap.size w w'
/-- .. on the way: 'left' says which files are still to come. -/
structure Copying (w : World) (L : Files) (V0 : Int → Value) (b r : Nat) (V : Int → Value) (dom left : Int → Bool) (cnt : Nat) (w' : World) : Prop where
  range : FRange w' b r V dom left cnt
  todo : ∀ f, left f = true → V f = V0 f
  done : ∀ f, left f = false → ByteRow w' (V f) (L f) ∧ ∀ k, (V f).ownBlock = some k → w.heap.size ≤ k ∧ k ≠ b ∧ k ≠ r
  ap : ∀ f g k, left f = false → left g = false → (V f).ownBlock = some k → (V g).ownBlock = some k → f = g
  low : w.heap.size ≤ b ∧ w.heap.size ≤ r ∧ b ≠ r
  below : Below w.heap.size w w'
theorem byte_one (L : List UInt8) : ∀ u ∈ Lib.byteCells L, u.oneCell' = true := Lib.byteCells_one L
set_option maxHeartbeats 2000000 in
theorem copyFiles_any {w : World} {b : Nat} {V0 : Int → Value} {L : Files} (h : FilesAt w b V0) (hr : ∀ f, ByteRow w (V0 f) (L f)) (hL : ∀ f, (L f).length ≤ 16777216) :
    Calls Tryd.prog 39 #[.map (some b)] w fun e w' => ∃ b' V', e = .returned (.map (some b')) ∧ Copied w L b' V' w' := by
  obtain ⟨es, clock, hb, h0⟩ := h.cloned
  have hlt : ∀ f k, (V0 f).ownBlock = some k → k < w.heap.size := fun f k hk => tag_lt (tag_row (hr f) hk)
  have z1 : (w.alloc (.map es clock)).heap.size = w.heap.size + 1 := by simp
  have HR := Lib.hid hr
  have HL := Lib.hid hL
  have HLT := Lib.hid hlt
  clear hr hL hlt
  go_enter Tryd.func39, Tryd.ntmps39
  go_wp2_with (first
    | (go_at_call 55; refine (cloneF_any b es clock w hb).mono ?_; rintro e w' ⟨rfl, rfl⟩)
    | (at_range; refine wpList_range_files rfl _ rfl rfl h0 ?_; intro w0 dom cnt hrg0 hdom0 hg0 hs0))
  go_frame
  rw [z1] at hrg0 hs0 ⊢
  have hbel0 : Below w.heap.size w w0 := ((Below.refl _ w).alloc (Nat.le_refl _) _).grown hg0 (by simp) (fun j hj => by cases hj)
  go_loopw [4, 5] (fun _ _ wr => ∃ (V : Int → Value) (left : Int → Bool) (cnt : Nat), Copying w L V0 w.heap.size (w.heap.size + 1) V dom left cnt wr) (fun _ _ wr => wr.rangeLeft w.heap.size (w.heap.size + 1))
  case atStart =>
    refine ⟨V0, dom, cnt, hrg0, fun _ _ => rfl, fun f hf => ?_, fun f g k hf hg hk => ?_, ⟨Nat.le_refl _, Nat.le_succ _, by omega⟩, hbel0⟩
    · have e1 := hdom0 f hf
      have e2 := HR.out f
      rw [e1] at e2 ⊢
      have e3 : L f = [] := by
        rcases e2.2 with ⟨_, h0⟩ | ⟨g, cap, cur, hv, _⟩
        · exact List.eq_nil_of_length_eq_zero h0
        · simp at hv
      rw [e3]
      exact ⟨nilRow _ _ _, fun k hk => by simp [Value.ownBlock] at hk⟩
    · rw [hdom0 f hf] at hk; simp [Value.ownBlock] at hk
  case round =>
    obtain ⟨V, left, cnt, hc⟩ := hrel
    have HC := Lib.hid hc
    go_wp2_with (first
      | (at_next; refine wpList_next_files rfl _ rfl rfl hc.range ?_ ?_)
      | go_in)
    · intro hl0
      clear hc
      go_wp2
      go_ret
      exact ⟨_, V, rfl, HC.out.range.files, fun f => (HC.out.done f (hl0 f)).1, HC.out.low.1, fun f k hk => ((HC.out.done f (hl0 f)).2 k hk).1, fun f g k hf hg => HC.out.ap f g k (hl0 f) (hl0 g) hf hg, HC.out.below⟩
    · intro f w1 cnt1 hf hlf hdf hrg1 hlt1 hg1 hs1 hen
      clear hc
      have hc := HC.out
      have hrow1 : ByteRow w1 (V f) (L f) := by
        rw [hc.todo f hlf]
        exact row_block (HR.out f) (fun k hk => by
          have h5 := HLT.out f k hk
          rw [hg1.block k (Nat.lt_of_lt_of_le h5 hc.below.size) (fun e => by have := hc.low.2.1; simp at e; omega)]
          exact hc.below.block k h5)
      have KEY := Lib.hid (show ∀ e w2, (∃ v', e = Ending.returned v' ∧ w2.ownsRow w1.heap.size 5 1 v' (L f).length (Lib.byteCells (L f)) ∧ Below w1.heap.size w1 w2) → ∃ v', e = .returned v' ∧
          ∃ w3, (Instr.mapUpdate 51 (.map (some w.heap.size)) (.int .i64 f) v').run Tryd.prog w2 = .ok () w3 ∧ Copying w L V0 w.heap.size (w.heap.size + 1) (upd V f v') dom (fun g => left g && !decide (g = f)) cnt1 w3 from by
        rintro e w2 ⟨v', he, hr2, hb2⟩
        have hb1 : w.heap.size < w1.heap.size := hrg1.files.lt
        have hr1 : w.heap.size + 1 < w1.heap.size := hrg1.lt
        have hrg2 := hrg1.kept hb2.size (hb2.block _ hb1) (hb2.block _ hr1)
        obtain ⟨w3, hrun, hrg3, ht⟩ := hrg2.store hf hdf v'
        have hg3 := ht.grown
        refine ⟨v', he, w3, hrun, hrg3, fun g hg => ?_, fun g hg => ?_, fun g g' k hg hg' h1 h2 => ?_, hc.low, ?_⟩
        · simp only [Bool.and_eq_true, Bool.not_eq_true', decide_eq_false_iff_not] at hg
          rw [upd_other _ _ hg.2]; exact hc.todo g hg.1
        · by_cases e1 : g = f
          · subst e1
            rw [upd_same]
            refine ⟨row_block (row_base hr2) (fun k hk => ?_), fun k hk => ?_⟩
            · have h6 := ge_of_base hr2 hk
              have h7 := tag_row (row_base hr2) hk
              exact hg3.block k (tag_lt h7) (fun e2 => by simp at e2; omega)
            · have h6 := ge_of_base hr2 hk
              exact ⟨by omega, by omega, by omega⟩
          · rw [upd_other _ _ e1]
            have hl : left g = false := by simpa [e1] using hg
            obtain ⟨h4, h5⟩ := hc.done g hl
            refine ⟨row_block h4 (fun k hk => ?_), h5⟩
            obtain ⟨h6, h7, h8⟩ := h5 k hk
            have h9 := tag_lt (tag_row h4 hk)
            have h10 : k < w1.heap.size := by rw [hs1]; exact h9
            rw [hg3.block k (Nat.lt_of_lt_of_le h10 hb2.size) (fun e2 => h7 (by simpa using e2)), hb2.block k h10, hg1.block k h9 (fun e2 => h8 (by simpa using e2))]
        · by_cases e1 : g = f <;> by_cases e2 : g' = f
          · rw [e1, e2]
          · subst e1
            rw [upd_same] at h1
            rw [upd_other _ _ e2] at h2
            have hl : left g' = false := by simpa [e2] using hg'
            have h6 := ge_of_base hr2 h1
            have h7 := tag_lt (tag_row (hc.done g' hl).1 h2)
            rw [hs1] at h6; omega
          · subst e2
            rw [upd_same] at h2
            rw [upd_other _ _ e1] at h1
            have hl : left g = false := by simpa [e1] using hg
            have h6 := ge_of_base hr2 h2
            have h7 := tag_lt (tag_row (hc.done g hl).1 h1)
            rw [hs1] at h6; omega
          · rw [upd_other _ _ e1] at h1
            rw [upd_other _ _ e2] at h2
            exact hc.ap g g' k (by simpa [e1] using hg) (by simpa [e2] using hg') h1 h2
        · exact ((hc.below.grown hg1 hc.below.size (fun j hj => by cases hj; exact hc.low.2.1)).trans (hb2.mono (Nat.le_of_lt hb1))).grown hg3 (by have := hb2.size; omega) (fun j hj => by cases hj; exact Nat.le_refl _))
      have CL := Lib.hid (cloneB_any (srcAt_row hrow1) (by rw [Lib.byteCells_length]; omega) (by have := HL.out f; omega) (byte_one (L f)))
      have HM := Lib.hid (show cnt1 < wr.rangeLeft w.heap.size (w.heap.size + 1) by rw [hc.range.left_eq]; exact hlt1)
      clear hrow1 hc hrg1 hlt1 hg1 hs1 hf hlf hdf HC
      go_wp2_with (go_at_call 56; refine CL.out.mono ?_; intro e w2 hp; obtain ⟨v', rfl, w3, hrun, hC⟩ := KEY.out e w2 hp; have HC3 := Lib.hid hC; clear hC hp)
      go_roundw
      case rel => exact ⟨_, _, _, HC3.out⟩
      case measure => rw [HC3.out.range.left_eq]; exact HM.out
end Go.Proofs.YtdejajpmebgidaaDoor
