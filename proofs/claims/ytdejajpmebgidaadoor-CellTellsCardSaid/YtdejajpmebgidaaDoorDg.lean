/-
  MAPS OF PACKAGE disk IN MEMORY: the map of files (a number to a slice of bytes) and the set of pending sectors.
-/
import Derived.Test.YtdejajpmebgidaaDoorDm
import Derived.Test.YtdejajpmebgidaaDoorProg
import Derived.WalkKit
import Derived.WalkSpells
import Derived.WalkLawsBesides
import Derived.Maps.RangeWalk
import Derived.Maps.Ext
import Derived.Lib.Hide
import Derived.DeepKeys4
namespace Go.Proofs.YtdejajpmebgidaaDoor
open Go.RowKit Go.Maps WireM DiskM
set_option linter.unusedVariables false
set_option linter.unusedSimpArgs false

theorem laidOutD : laidOutB Tryd.prog = true := by kernel_rfl
theorem rowS : (78 : TypeId) < Tryd.prog.types.size := of_decide_eq_true (by kernel_rfl)
theorem wideS : (match Tryd.prog.underlying 78 with | some (.array _ _) | some (.struct _) => true | _ => false) = true := by rw [Tryd.underlying78]
theorem lawS : Keyed Tryd.prog 78 := Keyed.of_law (deep_law_laid laidOutD (m := 2) (by omega) rowS (by kernel_rfl) wideS)
theorem lawI : Keyed Tryd.prog 3 := int_keyed Tryd.underlying3
def InI (n : Int) : Prop := -9223372036854775808 ≤ n ∧ n ≤ 9223372036854775807
theorem InI.wf {n : Int} (h : InI n) : (Lit.int .i64 n).wf = true := by
  unfold InI at h
  simp [Lit.wf, IntKind.min, IntKind.max, IntKind.signed, IntKind.bits]
  omega
/-- What a sector reads as, as a key. -/
def skey (f n : Int) : Lit := .string (keyBytes [.int .i64 f, .int .i64 n])
theorem size1 : Tryd.prog.types.size = 0 + Tryd.prog.types.size := by omega
theorem ktS : Tryd.prog.keyType 78 = true := by kernel_rfl
theorem cellsS : Tryd.prog.cellsOf 78 = 2 := by kernel_rfl
theorem cellsI : Tryd.prog.cellsOf 3 = 1 := by kernel_rfl
theorem key_sec {f n : Int} (hf : InI f) (hn : InI n) : keyOf Tryd.prog 78 (.agg #[.int .i64 f, .int .i64 n]) = some (skey f n) := by
  have e : ∃ d, Tryd.prog.types.size + 1 = d + 2 := ⟨Tryd.prog.types.size - 1, by have h : (1 : Nat) ≤ Tryd.prog.types.size := Nat.le_trans (by decide : (1 : Nat) ≤ 78) (Nat.le_of_lt rowS); omega⟩
  obtain ⟨d, hd⟩ := e
  have hform : (Value.agg #[.int .i64 f, .int .i64 n]).formed Tryd.prog 78 = true := by
    simp [Value.formed, Tryd.underlying78, cellsS]
  simp only [keyOf, Tryd.underlying78, ktS, hform, hd, Bool.and_self, if_true]
  simp [Program.keyLits, Tryd.underlying78, Tryd.underlying3, cellsS, cellsI, Value.cells, hf.wf, hn.wf, skey]
theorem key_int {f : Int} (hf : InI f) : keyOf Tryd.prog 3 (.int .i64 f) = some (.int .i64 f) := keyOf_int_mk Tryd.underlying3 hf.wf
theorem skey_inj {f n g m : Int} (hf : InI f) (hn : InI n) (hg : InI g) (hm : InI m) (h : skey f n = skey g m) : f = g ∧ n = m := by
  have := lawS.inj (key_sec hf hn) (by rw [h]; exact key_sec hg hm)
  simp at this
  exact this

/-- A map's element, as it is. -/
def heldElem : Value → Option (DataW Value × List MemPlace) := fun v => some (.held v, [])
abbrev nilS : Value := .slice none 0 0
theorem zeroBytes (w : World) : (zeroValue 70).run Tryd.prog w = .ok nilS w := by kernel_rfl
theorem zeroBool (w : World) : (zeroValue 4).run Tryd.prog w = .ok (.bool false) w := by kernel_rfl

/-- Block b is a map from file numbers to slices. -/
def FilesAt (w : World) (b : Nat) (V : Int → Value) : Prop :=
  ∃ D, w.ownsMap Tryd.prog 3 heldElem b 16 D ∧ (∀ f : Int, D.atKey (.int .i64 f) (.held nilS) = .held (V f)) ∧ ∀ kl, Maps.has D kl = true → ∃ f, isF f ∧ kl = .int .i64 f
theorem inI_of {f : Int} (h : isF f) : InI f := by unfold isF at h; unfold InI; omega

theorem nodup_sub {α : Type} : ∀ (l m : List α), l.Nodup → (∀ x ∈ l, x ∈ m) → l.length ≤ m.length
  | [], m, _, _ => by simp
  | a :: r, m, hn, h => by
    classical
    obtain ⟨ha, hr⟩ := List.nodup_cons.1 hn
    have hm := h a (by simp)
    obtain ⟨s, t, rfl⟩ := List.append_of_mem hm
    have := nodup_sub r (s ++ t) hr (fun x hx => by
      have h1 := h x (by simp [hx])
      have hne : x ≠ a := fun e => ha (e ▸ hx)
      simp only [List.mem_append, List.mem_cons] at h1 ⊢
      rcases h1 with h1 | h1 | h1
      · exact .inl h1
      · exact absurd h1 hne
      · exact .inr h1)
    simp only [List.length_append, List.length_cons] at this ⊢
    omega
/-- A map whose keys are all on a list has no more entries than it. -/
theorem size_le_of_keys {D : DataW Value} (hD : Tidy D) (hk : ∀ kl, Maps.has D kl = true → ∀ p, p = kl → p = kl) (ks : List Lit) (hkey : ∀ es, D = .map es → ∀ p ∈ es, WideAt.IsKeyLit p.1) (h : ∀ kl, Maps.has D kl = true → kl ∈ ks) : Maps.size D ≤ ks.length := by
  obtain ⟨es, rfl, hp⟩ := hD
  have h1 : (es.map (·.1)).Nodup := by
    unfold List.Nodup
    rw [List.pairwise_map]
    exact hp
  have := nodup_sub _ ks h1 (fun x hx => by
    obtain ⟨p, hp, rfl⟩ := List.mem_map.1 hx
    exact h _ (List.any_eq_true.2 ⟨p, hp, WideAt.sameKey_self (hkey es rfl p hp)⟩))
  simpa [Maps.size] using this
theorem ownsMap_tight {w : World} {k : TypeId} {b n N : Nat} {D : DataW Value} (h : w.ownsMap Tryd.prog k heldElem b n D) (hs : Maps.size D ≤ N) : w.ownsMap Tryd.prog k heldElem b N D := by
  obtain ⟨es, clock, hb, F, h1, rfl⟩ := h
  exact ⟨es, clock, hb, F, by simpa [Maps.size, length_sorted] using hs, rfl⟩
theorem ownsMap_keys {w : World} {k : TypeId} {b n : Nat} {D : DataW Value} (h : w.ownsMap Tryd.prog k heldElem b n D) (K : Keyed Tryd.prog k) : ∀ es, D = .map es → ∀ p ∈ es, WideAt.IsKeyLit p.1 := by
  obtain ⟨es, e, _, h2⟩ := h.entries K
  intro es' e'
  rw [e] at e'
  cases e'
  exact h2
def sixteen : List Lit := (List.range 16).map fun i : Nat => Lit.int .i64 (i : Int)
theorem mem_sixteen {f : Int} (h : isF f) : Lit.int .i64 f ∈ sixteen := by
  unfold isF at h
  refine List.mem_map.2 ⟨f.toNat, by simp; omega, ?_⟩
  congr 1; omega

theorem FilesAt.lt {w : World} {b : Nat} {V : Int → Value} (h : FilesAt w b V) : b < w.heap.size := by
  obtain ⟨D, h1, _⟩ := h; exact h1.lt
theorem FilesAt.kept {w w' : World} {b : Nat} {V : Int → Value} {row : Option Nat} (h : FilesAt w b V) (hg : w.grownBy w' row) (hne : some b ≠ row) : FilesAt w' b V := by
  obtain ⟨D, h1, h2⟩ := h; exact ⟨D, h1.kept hg hne, h2⟩
theorem FilesAt.block {w w' : World} {b : Nat} {V : Int → Value} (h : FilesAt w b V) (hb : w'.heap[b]? = w.heap[b]?) : FilesAt w' b V := by
  obtain ⟨D, ⟨es, clock, h1, h3⟩, h2⟩ := h; exact ⟨D, ⟨es, clock, hb.trans h1, h3⟩, h2⟩
theorem FilesAt.alloc {w : World} {b : Nat} {V : Int → Value} (h : FilesAt w b V) (o : Obj) : FilesAt (w.alloc o) b V := h.block (Below.heap_alloc _ _ _ h.lt)
theorem FilesAt.isMap {w : World} {b : Nat} {V : Int → Value} (h : FilesAt w b V) : ∃ es clock, w.heap[b]? = some (.map es clock) := by
  obtain ⟨D, ⟨es, clock, h1, _⟩, _⟩ := h; exact ⟨es, clock, h1⟩
theorem FilesAt.look {w : World} {b : Nat} {V : Int → Value} (h : FilesAt w b V) {f : Int} (hf : InI f) : (Instr.lookup 51 (.map (some b)) (.int .i64 f) false).run Tryd.prog w = .ok (V f) w := by
  obtain ⟨D, h1, h2, _⟩ := h
  obtain ⟨v, ps, hrun, hv⟩ := h1.lookup lawI Tryd.underlying51 (zeroBytes w) (zd := .held nilS) (zp := []) rfl (key_int hf)
  rw [h2 f] at hv
  simp [heldElem] at hv
  rw [hrun, hv.1]
theorem FilesAt.out {w : World} {b : Nat} {V : Int → Value} (h : FilesAt w b V) {f : Int} (hf : ¬ isF f) : V f = nilS := by
  obtain ⟨D, h1, h2, h3⟩ := h
  have h4 := h2 f
  obtain ⟨es, rfl⟩ := h1.isMap
  have : Maps.has (.map es) (.int .i64 f) = false := by
    cases hh : Maps.has (.map es) (.int .i64 f) with
    | false => rfl
    | true => obtain ⟨g, hg, e⟩ := h3 _ hh; simp at e; exact absurd (e ▸ hg) hf
  rw [atKey_of_not_has this] at h4
  simpa using h4.symm
theorem FilesAt.store {w : World} {b : Nat} {V : Int → Value} (h : FilesAt w b V) {f : Int} (hf : isF f) (v : Value) :
    ∃ w', (Instr.mapUpdate 51 (.map (some b)) (.int .i64 f) v).run Tryd.prog w = .ok () w' ∧ FilesAt w' b (upd V f v) ∧ w.mapTurned w' b := by
  obtain ⟨D, h1, h2, h3⟩ := h
  obtain ⟨w', hrun, h4, h5⟩ := h1.store lawI Tryd.underlying51 (by unfold maxLen; omega) (val := v) (d := .held v) (ps := []) (key_int (inI_of hf)) rfl
  have hk : WideAt.IsKeyLit (Lit.int .i64 f) := lawI.key (key_int (inI_of hf))
  have h6 : ∀ kl, Maps.has (D.put (.int .i64 f) (.held v)) kl = true → ∃ f, isF f ∧ kl = .int .i64 f := fun kl hh => by
    by_cases e : kl = .int .i64 f
    · exact ⟨f, hf, e⟩
    · rw [has_put_other e] at hh
      exact h3 kl hh
  refine ⟨w', hrun, ⟨_, ownsMap_tight h4 ?_, fun g => ?_, h6⟩, h5⟩
  · refine Nat.le_trans (size_le_of_keys (h4.tidy lawI) (fun _ _ _ h => h) sixteen (ownsMap_keys h4 lawI) (fun kl hh => ?_)) (by simp [sixteen])
    obtain ⟨g, hg, rfl⟩ := h6 kl hh
    exact mem_sixteen hg
  · by_cases e : g = f
    · subst e; rw [upd_same, atKey_put_same h1.isMap hk]
    · rw [upd_other _ _ e, atKey_put_other (by simpa using e)]; exact h2 g

/-- Block b is the set of the sectors of a list. -/
def ListedAt (w : World) (b : Nat) (p : List Sec) : Prop :=
  ∃ D, w.ownsMap Tryd.prog 78 heldElem b p.length D ∧ (∀ s : Sec, InI s.1 → InI s.2 → D.atKey (skey s.1 s.2) (.held (.bool false)) = .held (.bool (decide (s ∈ p)))) ∧ (∀ kl, Maps.has D kl = true → ∃ s ∈ p, kl = skey s.1 s.2)
theorem ListedAt.lt {w : World} {b : Nat} {p : List Sec} (h : ListedAt w b p) : b < w.heap.size := by
  obtain ⟨D, h1, _⟩ := h; exact h1.lt
theorem ListedAt.block {w w' : World} {b : Nat} {p : List Sec} (h : ListedAt w b p) (hb : w'.heap[b]? = w.heap[b]?) : ListedAt w' b p := by
  obtain ⟨D, ⟨es, clock, h1, h3⟩, h2⟩ := h; exact ⟨D, ⟨es, clock, hb.trans h1, h3⟩, h2⟩
theorem ListedAt.alloc {w : World} {b : Nat} {p : List Sec} (h : ListedAt w b p) (o : Obj) : ListedAt (w.alloc o) b p := h.block (Below.heap_alloc _ _ _ h.lt)
theorem ListedAt.isMap {w : World} {b : Nat} {p : List Sec} (h : ListedAt w b p) : ∃ es clock, w.heap[b]? = some (.map es clock) := by
  obtain ⟨D, ⟨es, clock, h1, _⟩, _⟩ := h; exact ⟨es, clock, h1⟩
theorem ListedAt.look {w : World} {b : Nat} {p : List Sec} (h : ListedAt w b p) {f : Int} {n : Nat} (hf : InI f) (hn : InI n) :
    (Instr.lookup 52 (.map (some b)) (.agg #[.int .i64 f, .int .i64 n]) false).run Tryd.prog w = .ok (.bool (decide ((f, n) ∈ p))) w := by
  obtain ⟨D, h1, h2, _⟩ := h
  obtain ⟨v, ps, hrun, hv⟩ := h1.lookup lawS Tryd.underlying52 (zeroBool w) (zd := .held (.bool false)) (zp := []) rfl (key_sec hf hn)
  have := h2 (f, n) hf hn
  simp only at this
  rw [this] at hv
  simp [heldElem] at hv
  rw [hrun, hv.1]
theorem ListedAt.made (w : World) : ListedAt (w.alloc (.map #[] 0)) w.heap.size [] :=
  ⟨_, World.ownsMap_made _ _ _ _, fun s _ _ => by simp [DataW.atKey], fun kl h => by simp [Maps.has] at h⟩
theorem FilesAt.made (w : World) : FilesAt (w.alloc (.map #[] 0)) w.heap.size (fun _ => nilS) :=
  ⟨_, (World.ownsMap_made _ _ _ _).mono (by omega), fun _ => by simp [DataW.atKey], fun kl h => by simp [Maps.has] at h⟩
theorem ListedAt.tight {w : World} {b n : Nat} {p : List Sec} {D : DataW Value} (h1 : w.ownsMap Tryd.prog 78 heldElem b n D) (h2 : ∀ s : Sec, InI s.1 → InI s.2 → D.atKey (skey s.1 s.2) (.held (.bool false)) = .held (.bool (decide (s ∈ p))))
    (h3 : ∀ kl, Maps.has D kl = true → ∃ s ∈ p, kl = skey s.1 s.2) : ListedAt w b p := by
  refine ⟨D, ownsMap_tight h1 ?_, h2, h3⟩
  refine Nat.le_trans (size_le_of_keys (h1.tidy lawS) (fun _ _ _ h => h) (p.map fun s => skey s.1 s.2) (ownsMap_keys h1 lawS) (fun kl hh => ?_)) (by simp)
  obtain ⟨s, hs, rfl⟩ := h3 kl hh
  exact List.mem_map.2 ⟨s, hs, rfl⟩
theorem ListedAt.store {w : World} {b : Nat} {p : List Sec} (h : ListedAt w b p) (hp : p.length < maxLen) {f : Int} {n : Nat} (hf : InI f) (hn : InI n) (hin : ∀ s ∈ p, InI s.1 ∧ InI s.2) :
    ∃ w', (Instr.mapUpdate 52 (.map (some b)) (.agg #[.int .i64 f, .int .i64 n]) (.bool true)).run Tryd.prog w = .ok () w' ∧ ListedAt w' b (p ++ [(f, n)]) ∧ w.mapTurned w' b := by
  obtain ⟨D, h1, h2, h3⟩ := h
  obtain ⟨w', hrun, h4, h5⟩ := h1.store lawS Tryd.underlying52 hp (val := .bool true) (d := .held (.bool true)) (ps := []) (key_sec hf hn) rfl
  have hk : WideAt.IsKeyLit (skey f n) := lawS.key (key_sec hf hn)
  refine ⟨w', hrun, ListedAt.tight h4 (fun s hs1 hs2 => ?_) (fun kl hh => ?_), h5⟩
  · by_cases e : s = (f, n)
    · subst e
      rw [atKey_put_same h1.isMap hk]
      simp
    · have : skey s.1 s.2 ≠ skey f n := fun e2 => e (Prod.ext (skey_inj hs1 hs2 hf hn e2).1 (by have := (skey_inj hs1 hs2 hf hn e2).2; omega))
      rw [atKey_put_other this, h2 s hs1 hs2]
      simp [e]
  · by_cases e : kl = skey f n
    · exact ⟨(f, n), by simp, e⟩
    · rw [has_put_other e] at hh
      obtain ⟨s, hs, e2⟩ := h3 kl hh
      exact ⟨s, by simp [hs], e2⟩
theorem ListedAt.drop {w : World} {b : Nat} {p : List Sec} (h : ListedAt w b p) {f : Int} {n : Nat} (hf : InI f) (hn : InI n) (hin : ∀ s ∈ p, InI s.1 ∧ InI s.2) (ty : TypeId) :
    ∃ w', (Builtin.delete_ #[ 52, 78 ] ty #[.map (some b), .agg #[.int .i64 f, .int .i64 n]]).run Tryd.prog w = .ok (.tuple #[]) w' ∧ ListedAt w' b (p.filter (fun x => decide (x ≠ (f, n)))) ∧ w.mapTurned w' b := by
  obtain ⟨D, h1, h2, h3⟩ := h
  obtain ⟨w', hrun, h4, h5⟩ := h1.drop lawS Tryd.underlying52 (key_sec hf hn) ty
  refine ⟨w', hrun, ListedAt.tight h4 (fun s hs1 hs2 => ?_) (fun kl hh => ?_), h5⟩
  · by_cases e : s = (f, n)
    · subst e
      rw [atKey_del_same]
      simp
    · have : skey s.1 s.2 ≠ skey f n := fun e2 => e (Prod.ext (skey_inj hs1 hs2 hf hn e2).1 (by have := (skey_inj hs1 hs2 hf hn e2).2; omega))
      rw [atKey_del_other this, h2 s hs1 hs2]
      simp [List.mem_filter, e]
  · by_cases e : kl = skey f n
    · subst e
      rw [has_del_same] at hh; cases hh
    · rw [has_del_other e] at hh
      obtain ⟨s, hs, e2⟩ := h3 kl hh
      exact ⟨s, List.mem_filter.2 ⟨hs, by simp; intro e3; rw [e3] at e2; exact e e2⟩, e2⟩
end Go.Proofs.YtdejajpmebgidaaDoor
