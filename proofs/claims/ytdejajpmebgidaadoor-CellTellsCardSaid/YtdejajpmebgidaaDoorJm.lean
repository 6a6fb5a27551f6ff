/-
  A CELL AS PLAIN FUNCTIONS ON THE STATE OF A DISK (no program in this text): what Open and Set do, and that a crash leaves a value that is allowed.
-/
import Derived.Test.YtdejajpmebgidaaDoorDm
namespace Go.Proofs.YtdejajpmebgidaaDoor.CellM
open DiskM
set_option linter.unusedVariables false
set_option linter.unusedSimpArgs false

structure CS where
  slot : Nat
  val : List UInt8
  sure : Bool
def slotAt (k : Nat) : Nat := if k = 2 then 131072 else 64
def other (k : Nat) : Nat := if k = 1 then 2 else 1
def hdr (k n : Nat) : List UInt8 := [UInt8.ofNat k, UInt8.ofNat n, UInt8.ofNat (n / 256), UInt8.ofNat (n / 65536), UInt8.ofNat (n / 16777216)]
def num (h : List UInt8) : Nat := (at0 h 1).toNat + 256 * (at0 h 2).toNat + 65536 * (at0 h 3).toNat + 16777216 * (at0 h 4).toNat
/-- What stands in a file as a cell. -/
def openL (L : List UInt8) : Option CS :=
  if at0 L 0 = 0 then some ⟨0, [], false⟩
  else if L.length < 5 then none
  else if ((at0 L 0).toNat = 1 ∨ (at0 L 0).toNat = 2) ∧ num L ≤ 65536 then
    (if ((L.drop (slotAt (at0 L 0).toNat)).take (num L)).length < num L then none else some ⟨(at0 L 0).toNat, (L.drop (slotAt (at0 L 0).toNat)).take (num L), false⟩)
  else none
def openS (s : St) (f : Int) : Option CS × Int :=
  if s.down = true then (none, 9) else if ¬ isF f then (none, 1) else match openL (s.now f) with | some c => (some c, 0) | none => (none, 2)
/-- The last three steps of Set. -/
def set2 (s : St) (f : Int) (c : CS) (t : List UInt8) : St × CS × Int :=
  if (s.write f (slotAt (other c.slot)) t).2 ≠ 0 then ((s.write f (slotAt (other c.slot)) t).1, c, (s.write f (slotAt (other c.slot)) t).2) else
  if ((s.write f (slotAt (other c.slot)) t).1.sync f).2 ≠ 0 then (((s.write f (slotAt (other c.slot)) t).1.sync f).1, c, ((s.write f (slotAt (other c.slot)) t).1.sync f).2) else
  if ((((s.write f (slotAt (other c.slot)) t).1.sync f).1).write f 0 (hdr (other c.slot) t.length)).2 ≠ 0 then
    (((((s.write f (slotAt (other c.slot)) t).1.sync f).1).write f 0 (hdr (other c.slot) t.length)).1, c, ((((s.write f (slotAt (other c.slot)) t).1.sync f).1).write f 0 (hdr (other c.slot) t.length)).2) else
  ((((((s.write f (slotAt (other c.slot)) t).1.sync f).1).write f 0 (hdr (other c.slot) t.length)).1.sync f).1,
    ⟨other c.slot, t, decide ((((((s.write f (slotAt (other c.slot)) t).1.sync f).1).write f 0 (hdr (other c.slot) t.length)).1.sync f).2 = 0)⟩,
    (((((s.write f (slotAt (other c.slot)) t).1.sync f).1).write f 0 (hdr (other c.slot) t.length)).1.sync f).2)
def setS (s : St) (f : Int) (c : CS) (t : List UInt8) : St × CS × Int :=
  if 65536 < t.length then (s, c, 6) else
  if c.slot ≠ 0 ∧ c.sure = false then
    (if (s.sync f).2 ≠ 0 then ((s.sync f).1, c, (s.sync f).2) else set2 (s.sync f).1 f { c with sure := true } t)
  else set2 s f c t

def Empty (L : List UInt8) : Prop := at0 L 0 = 0
structure Placed (L : List UInt8) (k : Nat) (v : List UInt8) : Prop where
  val : ∀ i, i < v.length → at0 L (slotAt k + i) = at0 v i
  fits : v = [] ∨ slotAt k + v.length ≤ L.length
structure Holds (L : List UInt8) (k : Nat) (v : List UInt8) : Prop extends Placed L k v where
  kk : k = 1 ∨ k = 2
  len : v.length ≤ 65536
  head : ∀ i, i < 5 → at0 L i = at0 (hdr k v.length) i
  long : 5 ≤ L.length
theorem hdr_num (k n : Nat) (hn : n ≤ 65536) (L : List UInt8) (h : ∀ i, i < 5 → at0 L i = at0 (hdr k n) i) : num L = n := by
  unfold num
  rw [h 1 (by omega), h 2 (by omega), h 3 (by omega), h 4 (by omega)]
  simp [hdr, at0]
  omega
theorem hdr_slot (k n : Nat) (hk : k = 1 ∨ k = 2) (L : List UInt8) (h : ∀ i, i < 5 → at0 L i = at0 (hdr k n) i) : (at0 L 0).toNat = k := by
  rw [h 0 (by omega)]
  simp [hdr, at0]
  omega
theorem Placed.take {L : List UInt8} {k : Nat} {v : List UInt8} (h : Placed L k v) : (L.drop (slotAt k)).take v.length = v := by
  refine ext_at ?_ (fun i => ?_)
  · rw [List.length_take, List.length_drop]
    rcases h.fits with e | e
    · subst e; simp
    · omega
  · rw [at0_take]
    split
    · rename_i hi
      rw [at0_drop]; exact h.val i hi
    · rw [at0_ge (by omega)]
theorem openL_empty {L : List UInt8} (h : Empty L) : openL L = some ⟨0, [], false⟩ := by unfold openL; exact if_pos h
theorem openL_holds {L : List UInt8} {k : Nat} {v : List UInt8} (h : Holds L k v) : openL L = some ⟨k, v, false⟩ := by
  have h1 := hdr_slot k _ h.kk L h.head
  have h2 := hdr_num k _ h.len L h.head
  have h0 : ¬ at0 L 0 = 0 := fun e => by rw [e] at h1; simp at h1; have := h.kk; omega
  unfold openL
  rw [if_neg h0, if_neg (by have := h.long; omega), h1, h2, if_pos ⟨h.kk, h.len⟩, h.toPlaced.take, if_neg (by omega)]

/-- What may stand in a file: no cell, if that is possible, or one with a value of a list. -/
def Allow (no : Prop) (may : List (List UInt8)) (L : List UInt8) : Prop := (Empty L ∧ no) ∨ ∃ k v, Holds L k v ∧ v ∈ may
/-- No set is on its way, and the header is durable, or there is none. -/
def Rdy (s : St) (f : Int) (c : CS) (no : Prop) (may : List (List UInt8)) : Prop :=
  (c.slot = 0 ∧ no ∧ Empty (s.last f) ∧ (f, 0) ∉ s.pend) ∨
  (c.slot ≠ 0 ∧ c.sure = true ∧ Holds (s.last f) c.slot c.val ∧ c.val ∈ may ∧ ∀ n, (f, n) ∈ s.pend → slotAt (other c.slot) ≤ 64 * n ∧ 64 * n < slotAt (other c.slot) + 65536)
/-- The header has been written. -/
def Hdd (s : St) (f : Int) (c : CS) (no : Prop) (may : List (List UInt8)) : Prop :=
  c.slot ≠ 0 ∧ c.sure = false ∧ Holds (s.now f) c.slot c.val ∧ c.val ∈ may ∧ Allow no may (s.last f) ∧ ∀ n, (f, n) ∈ s.pend → n = 0
def Up (s : St) (f : Int) (c : CS) (no : Prop) (may : List (List UInt8)) : Prop := Rdy s f c no may ∨ Hdd s f c no may
structure Good (s : St) (f : Int) (c : CS) (no : Prop) (may : List (List UInt8)) : Prop where
  inv : Inv s
  file : isF f
  up : s.down = false → Up s f c no may
  dn : s.down = true → s.pend = [] ∧ s.last f = s.now f ∧ Allow no may (s.now f)
section
variable {s s' : St} {f : Int} {c : CS} {no no' : Prop} {may may' : List (List UInt8)}
theorem Allow.mono {L : List UInt8} (h : Allow no may L) (h1 : no → no') (h2 : ∀ v ∈ may, v ∈ may') : Allow no' may' L := by
  rcases h with ⟨a, b⟩ | ⟨k, v, a, b⟩
  · exact .inl ⟨a, h1 b⟩
  · exact .inr ⟨k, v, a, h2 v b⟩
theorem Rdy.mono (h : Rdy s f c no may) (h1 : no → no') (h2 : ∀ v ∈ may, v ∈ may') : Rdy s f c no' may' := by
  rcases h with ⟨a, b, d, e⟩ | ⟨a, b, d, e, g⟩
  · exact .inl ⟨a, h1 b, d, e⟩
  · exact .inr ⟨a, b, d, h2 _ e, g⟩
theorem Hdd.mono (h : Hdd s f c no may) (h1 : no → no') (h2 : ∀ v ∈ may, v ∈ may') : Hdd s f c no' may' := by
  obtain ⟨a, b, d, e, g, i⟩ := h
  exact ⟨a, b, d, h2 _ e, g.mono h1 h2, i⟩
theorem Good.mono (h : Good s f c no may) (h1 : no → no') (h2 : ∀ v ∈ may, v ∈ may') : Good s f c no' may' :=
  ⟨h.inv, h.file, fun hd => (h.up hd).imp (fun h => h.mono h1 h2) (fun h => h.mono h1 h2), fun hd => ⟨(h.dn hd).1, (h.dn hd).2.1, (h.dn hd).2.2.mono h1 h2⟩⟩
/-- What the file of a cell is does not depend on other files. -/
structure SameF (s s' : St) (f : Int) : Prop where
  now : s'.now f = s.now f
  last : s'.last f = s.last f
  pend : ∀ n, (f, n) ∈ s'.pend ↔ (f, n) ∈ s.pend
theorem Up.same (h : Up s f c no may) (e : SameF s s' f) : Up s' f c no may := by
  rcases h with (⟨h1, h2, h3, h4⟩ | ⟨h1, h2, h3, h4, h5⟩) | ⟨h1, h2, h3, h4, h5, h6⟩
  · exact .inl (.inl ⟨h1, h2, by rw [e.last]; exact h3, fun h => h4 ((e.pend 0).1 h)⟩)
  · exact .inl (.inr ⟨h1, h2, by rw [e.last]; exact h3, h4, fun n hn => h5 n ((e.pend n).1 hn)⟩)
  · exact .inr ⟨h1, h2, by rw [e.now]; exact h3, h4, by rw [e.last]; exact h5, fun n hn => h6 n ((e.pend n).1 hn)⟩
theorem Rdy.same (h : Rdy s f c no may) (e : SameF s s' f) : Rdy s' f c no may := by
  rcases h with ⟨h1, h2, h3, h4⟩ | ⟨h1, h2, h3, h4, h5⟩
  · exact .inl ⟨h1, h2, by rw [e.last]; exact h3, fun h => h4 ((e.pend 0).1 h)⟩
  · exact .inr ⟨h1, h2, by rw [e.last]; exact h3, h4, fun n hn => h5 n ((e.pend n).1 hn)⟩
theorem reg_a {k i : Nat} (hk : k = 1 ∨ k = 2) (hi : i < 5) (h : slotAt (other k) ≤ 64 * (i / 64) ∧ 64 * (i / 64) < slotAt (other k) + 65536) : False := by
  rcases hk with rfl | rfl <;> simp [slotAt, other] at h <;> omega
theorem reg_b {k i n : Nat} (hk : k = 1 ∨ k = 2) (hi : i < n) (hn : n ≤ 65536) (h : slotAt (other k) ≤ 64 * ((slotAt k + i) / 64) ∧ 64 * ((slotAt k + i) / 64) < slotAt (other k) + 65536) : False := by
  rcases hk with rfl | rfl <;> simp [slotAt, other] at h <;> omega
/-- A file that is the old one outside the region of the other slot still holds the value. -/
theorem Holds.keep {L R : List UInt8} {k : Nat} {v : List UInt8} (h : Holds L k v) (hl : L.length ≤ R.length) (he : ∀ i, ¬ (slotAt (other k) ≤ 64 * (i / 64) ∧ 64 * (i / 64) < slotAt (other k) + 65536) → at0 R i = at0 L i) : Holds R k v where
  val := fun i hi => (he _ (fun h2 => reg_b h.kk hi h.len h2)).trans (h.val i hi)
  fits := h.fits.imp id (fun e => Nat.le_trans e hl)
  kk := h.kk
  len := h.len
  head := fun i hi => (he _ (fun h2 => reg_a h.kk hi h2)).trans (h.head i hi)
  long := Nat.le_trans h.long hl
theorem crash_allow (hi : Inv s) (h : Up s f c no may) (sel : Nat → Bool) : Allow no may (hardAll s.now sel s.pend s.last s.pend.length f) := by
  have ch := hardAll_chr s.now sel s.pend s.last hi.le hi.pin s.pend.length
  have hm : ∀ n, Hit sel s.pend s.pend.length f n → (f, n) ∈ s.pend := fun n ⟨j, _, _, h3⟩ => List.mem_of_getElem? h3
  rcases h with (⟨h1, h2, h3, h4⟩ | ⟨h1, h2, h3, h4, h5⟩) | ⟨h1, h2, h3, h4, h5, h6⟩
  · refine .inl ⟨?_, h2⟩
    exact (ch.miss f 0 (fun h => h4 (hm _ h))).trans h3
  · refine .inr ⟨_, _, h3.keep (ch.lo f) (fun i hni => ch.miss f i (fun h => hni (h5 _ (hm _ h)))), h4⟩
  · by_cases h0 : Hit sel s.pend s.pend.length f 0
    · rw [chr_all hi ch f (fun n hn => (h6 n hn) ▸ h0)]
      exact .inr ⟨_, _, h3, h4⟩
    · rw [chr_none _ rfl f (fun n hn => h0 ((h6 n (hm n hn)) ▸ hn))]
      exact h5
theorem good_crash_up (hi : Inv s) (hf : isF f) (hd : s.down = false) (h : Up s f c no may) (keep : List Int) (c' : CS) : Good (s.crash keep) f c' no may := by
  have e : s.crash keep = { now := hardAll s.now (surv keep) s.pend s.last s.pend.length, last := hardAll s.now (surv keep) s.pend s.last s.pend.length, pend := [], down := true, lost := s.lost, armed := 0, keep := [] } := by
    unfold St.crash; rw [if_neg (by simp [hd])]
  refine ⟨inv_crash hi keep, hf, fun h => ?_, fun _ => ?_⟩
  · rw [e] at h; cases h
  · rw [e]; exact ⟨rfl, rfl, crash_allow hi h _⟩
theorem Good.down (h : Good s f c no may) (hd : s.down = true) (c' : CS) : Good s f c' no may := ⟨h.inv, h.file, fun e => absurd (hd.symm.trans e) (by decide), h.dn⟩
theorem Good.crash (h : Good s f c no may) (keep : List Int) : Good (s.crash keep) f c no may ∧ (s.crash keep).down = true := by
  cases hd : s.down with
  | true =>
    have e : s.crash keep = s := by unfold St.crash; rw [if_pos hd]
    rw [e]; exact ⟨h, hd⟩
  | false =>
    refine ⟨good_crash_up h.inv h.file hd (h.up hd) keep c, ?_⟩
    unfold St.crash; rw [if_neg (by simp [hd])]
/-- A restart, and the cell opened again. -/
theorem good_again (h : Good s f c no may) (keep : List Int) : ∃ c', openS (s.crash keep).start f = (some c', 0) ∧ (s.crash keep).start.down = false ∧
    ((c'.slot = 0 ∧ no ∧ Good (s.crash keep).start f c' no []) ∨ (c'.slot ≠ 0 ∧ c'.val ∈ may ∧ Good (s.crash keep).start f c' False [c'.val])) := by
  obtain ⟨h1, h2⟩ := h.crash keep
  generalize s.crash keep = x at h1 h2 ⊢
  obtain ⟨d1, d2, d3⟩ := h1.dn h2
  have hi : Inv x.start := inv_start h1.inv
  have ho : ∀ c', openL (x.now f) = some c' → openS x.start f = (some c', 0) := fun c' hc => by
    unfold openS
    rw [if_neg (show ¬ x.start.down = true from fun h => by cases h), if_neg (fun h => h h1.file), show x.start.now f = x.now f from rfl, hc]
  rcases d3 with ⟨a, b⟩ | ⟨k, v, a, b⟩
  · refine ⟨_, ho _ (openL_empty a), rfl, .inl ⟨rfl, b, hi, h1.file, fun _ => .inl (.inl ⟨rfl, b, ?_, ?_⟩), fun h => by cases h⟩⟩
    · show Empty (x.last f); rw [d2]; exact a
    · show (f, 0) ∉ x.pend; rw [d1]; simp
  · have hk : k ≠ 0 := by have := a.kk; omega
    refine ⟨_, ho _ (openL_holds a), rfl, .inr ⟨hk, b, hi, h1.file, fun _ => .inr ⟨hk, rfl, a, by simp, .inr ⟨k, v, ?_, by simp⟩, fun n hn => ?_⟩, fun h => by cases h⟩⟩
    · show Holds (x.last f) k v; rw [d2]; exact a
    · rw [show x.start.pend = [] from d1] at hn; cases hn
theorem good_new : Good St.new f ⟨0, [], false⟩ True [] ↔ isF f := by
  constructor
  · exact fun h => h.file
  · intro hf
    exact ⟨inv_new, hf, fun _ => .inl (.inl ⟨rfl, trivial, rfl, by simp [St.new]⟩), fun h => by cases h⟩

/-! THE CALLS OF A MACHINE THAT IS UP -/
def put1 (c : St) (f a : Int) (t : List UInt8) : St := if t ≠ [] then c.add f a.toNat t else c
theorem write_is (hd : s.down = false) (hf : isF f) {a : Int} {t : List UInt8} (h0 : 0 ≤ a) (h1 : a + t.length ≤ 16777216) :
    s.write f a t = if s.armed = 1 then ((put1 s f a t).tick.crash s.keep, 9) else ((put1 s f a t).tick, 0) := by
  have hc : chk f a t.length = 0 := by unfold chk; rw [if_neg (by rintro (h | h); exact h hf; omega), if_neg (by omega)]
  unfold St.write
  rw [if_neg (by simp [hd]), hc]
  have e : (if (0 : Int) = 0 ∧ t ≠ [] then s.add f a.toNat t else s) = put1 s f a t := by unfold put1; simp
  rw [e]
  unfold St.strike
  have e2 : (put1 s f a t).armed = s.armed := by unfold put1; split <;> rfl
  have e3 : (put1 s f a t).keep = s.keep := by unfold put1; split <;> rfl
  rw [e2, e3]
theorem sync_is (hd : s.down = false) (hf : isF f) : s.sync f = if s.armed = 1 then (s.tick.crash s.keep, 9) else if 0 < s.lost then ({ s.tick with lost := s.lost - 1 }, 10) else (s.tick.synced f, 0) := by
  have hb : s.begin f = if s.armed = 1 then (s.tick.crash s.keep, 9) else (s.tick, 0) := by
    unfold St.begin
    rw [if_neg (by simp [hd]), if_pos hf]
    rfl
  unfold St.sync
  rw [hb]
  by_cases h : s.armed = 1
  · rw [if_pos h, if_pos h]; rfl
  · rw [if_neg h, if_neg h, if_neg (by simp)]; rfl
theorem sync_dn (hd : s.down = true) : s.sync f = (s, 9) := by
  unfold St.sync St.begin
  simp [hd]
theorem write_dn (hd : s.down = true) {a : Int} {t : List UInt8} : s.write f a t = (s, 9) := by
  unfold St.write
  simp [hd]
theorem SameF.tick (s : St) (f : Int) : SameF s s.tick f := ⟨rfl, rfl, fun _ => Iff.rfl⟩
theorem tick_down (s : St) : s.tick.down = s.down := rfl
theorem inv_put1 (h : Inv s) (hf : isF f) {a : Int} {t : List UInt8} (h0 : 0 ≤ a) (h1 : a + t.length ≤ 16777216) : Inv (put1 s f a t) := by
  unfold put1
  split
  · rename_i ht; exact inv_add h hf ht (by omega)
  · exact h
theorem put1_down (a : Int) (t : List UInt8) : (put1 s f a t).down = s.down := by unfold put1; split <;> rfl
theorem put1_last (a : Int) (t : List UInt8) : (put1 s f a t).last = s.last := by unfold put1; split <;> rfl
theorem put1_now (a : Int) (t : List UInt8) (ht : t ≠ []) : (put1 s f a t).now f = put (s.now f) a.toNat t := by unfold put1; rw [if_pos ht]; simp [St.add, upd_same]
theorem put1_nil (a : Int) : put1 s f a [] = s := rfl
theorem put1_mem (a : Int) {t : List UInt8} (ht : t ≠ []) (n : Nat) : (f, n) ∈ (put1 s f a t).pend ↔ (f, n) ∈ s.pend ∨ (a.toNat / 64 ≤ n ∧ n ≤ (a.toNat + t.length - 1) / 64) := by
  have htl : 0 < t.length := List.length_pos_iff.2 ht
  unfold put1
  rw [if_pos ht]
  unfold St.add
  rw [mem_addp]
  simp only
  constructor
  · rintro (h | h)
    · exact .inl h
    · exact .inr ⟨h.2.1, by omega⟩
  · rintro (h | h)
    · exact .inl h
    · exact .inr ⟨trivial, h.1, by omega⟩
theorem put1_other {g : Int} (a : Int) (t : List UInt8) (h : f ≠ g) : SameF s (put1 s g a t) f := by
  unfold put1
  split
  · refine ⟨by simp [St.add, upd_other _ _ h], rfl, fun n => ?_⟩
    unfold St.add
    rw [mem_addp]
    simp only
    exact ⟨fun h2 => h2.resolve_right (fun h3 => h h3.1), .inl⟩
  · exact ⟨rfl, rfl, fun _ => Iff.rfl⟩
theorem synced_other {g : Int} (h : f ≠ g) : SameF s (s.synced g) f := ⟨rfl, by simp [St.synced, upd_other _ _ h], fun n => by simp [St.synced, List.mem_filter, h]⟩

theorem slotAt_pos (k : Nat) : 64 ≤ slotAt k ∧ slotAt k ≤ 131072 := by unfold slotAt; split <;> omega
theorem slotAt_div (k : Nat) : 64 * (slotAt k / 64) = slotAt k := by unfold slotAt; split <;> omega
theorem other_k (k : Nat) : other k = 1 ∨ other k = 2 := by unfold other; split <;> simp
/-- The value is written at the other slot. -/
theorem rdy_put (h : Rdy s f c no may) {t : List UInt8} (ht : t.length ≤ 65536) : Rdy (put1 s f (slotAt (other c.slot)) t) f c no may ∧ Placed ((put1 s f (slotAt (other c.slot)) t).now f) (other c.slot) t := by
  by_cases hn : t = []
  · subst hn
    exact ⟨h, fun i hi => by simp at hi, .inl rfl⟩
  have hp := fun n => put1_mem (s := s) (f := f) (slotAt (other c.slot) : Int) hn n
  have h64 := slotAt_div (other c.slot)
  have hp0 := slotAt_pos (other c.slot)
  simp only [Int.toNat_natCast] at hp
  constructor
  · rcases h with ⟨h1, h2, h3, h4⟩ | ⟨h1, h2, h3, h4, h5⟩
    · refine .inl ⟨h1, h2, by rw [put1_last]; exact h3, fun h => ?_⟩
      rcases (hp 0).1 h with e | e
      · exact h4 e
      · omega
    · refine .inr ⟨h1, h2, by rw [put1_last]; exact h3, h4, fun n hm => ?_⟩
      rcases (hp n).1 hm with e | e
      · exact h5 n e
      · omega
  · rw [put1_now _ _ hn, Int.toNat_natCast]
    refine ⟨fun i hi => ?_, .inr ?_⟩
    · rw [put_at, if_pos ⟨by omega, by omega⟩]
      congr 1; omega
    · rw [put_len]; omega
/-- A file that is durable has no pending sectors. -/
def Calm (s : St) (f : Int) : Prop := s.last f = s.now f ∧ ∀ n, (f, n) ∉ s.pend
theorem synced_calm (s : St) (f : Int) : Calm (s.synced f) f := ⟨by simp [St.synced, upd_same], fun n => by simp [St.synced, List.mem_filter]⟩
theorem rdy_synced (hi : Inv s) (h : Rdy s f c no may) : Rdy (s.synced f) f c no may := by
  rcases h with ⟨h1, h2, h3, h4⟩ | ⟨h1, h2, h3, h4, h5⟩
  · refine .inl ⟨h1, h2, ?_, (synced_calm s f).2 0⟩
    rw [(synced_calm s f).1]
    exact ((hi.same f 0).resolve_left h4).trans h3
  · refine .inr ⟨h1, h2, ?_, h4, fun n hn => absurd hn ((synced_calm s f).2 n)⟩
    rw [(synced_calm s f).1]
    exact h3.keep (hi.le f) (fun i hni => (hi.same f i).resolve_left (fun h => hni (h5 _ h)))
theorem Rdy.allow (h : Rdy s f c no may) : Allow no may (s.last f) := by
  rcases h with ⟨h1, h2, h3, h4⟩ | ⟨h1, h2, h3, h4, h5⟩
  · exact .inl ⟨h3, h2⟩
  · exact .inr ⟨_, _, h3, h4⟩
theorem hdr_len (k n : Nat) : (hdr k n).length = 5 := rfl
/-- The header is written. -/
theorem hdd_put (hc : Calm s f) (ha : Allow no may (s.last f)) {k : Nat} (hk : k = 1 ∨ k = 2) {t : List UInt8} (ht : t.length ≤ 65536) (hp : Placed (s.now f) k t) : Hdd (put1 s f 0 (hdr k t.length)) f ⟨k, t, false⟩ no (may ++ [t]) := by
  have hne : hdr k t.length ≠ [] := by simp [hdr]
  have e := put1_now (s := s) (f := f) 0 (hdr k t.length) hne
  have hs := slotAt_pos k
  simp only [Int.toNat_zero] at e
  refine ⟨by show k ≠ 0; omega, rfl, ⟨⟨fun i hi => ?_, ?_⟩, hk, ht, fun i hi => ?_, ?_⟩, by simp, ?_, fun n hn => ?_⟩
  · rw [e, put_at, if_neg (by rw [hdr_len]; simp only; omega)]; exact hp.val i hi
  · rw [e, put_len]
    exact hp.fits.imp id (fun h => by simp only; omega)
  · rw [e, put_at, if_pos ⟨by omega, by rw [hdr_len]; omega⟩]; rfl
  · rw [e, put_len, hdr_len]; omega
  · rw [put1_last]; exact ha.mono id (fun v hv => by simp [hv])
  · rcases (put1_mem (s := s) (f := f) 0 hne n).1 hn with h | h
    · exact absurd h (hc.2 n)
    · rw [hdr_len] at h; simp at h; omega
theorem hdd_synced (h : Hdd s f c no may) : Rdy (s.synced f) f { c with sure := true } False [c.val] := by
  obtain ⟨h1, h2, h3, h4, h5, h6⟩ := h
  refine .inr ⟨h1, rfl, ?_, by simp, fun n hn => absurd hn ((synced_calm s f).2 n)⟩
  rw [(synced_calm s f).1]
  exact h3
/-- Sync of a machine that is up. -/
theorem sync_cases (hi : Inv s) (hf : isF f) (hd : s.down = false) (h : Up s f c no may) :
    ((s.sync f).2 = 9 ∧ (s.sync f).1.down = true ∧ ∀ c', Good (s.sync f).1 f c' no may) ∨
    ((s.sync f).2 = 10 ∧ SameF s (s.sync f).1 f ∧ (s.sync f).1.down = false ∧ Inv (s.sync f).1) ∨
    ((s.sync f).2 = 0 ∧ (s.sync f).1 = s.tick.synced f ∧ Inv (s.sync f).1) := by
  have hI := inv_sync hi f
  rw [sync_is hd hf] at hI ⊢
  by_cases h1 : s.armed = 1
  · rw [if_pos h1]
    have := good_crash_up (inv_tick hi) hf (hd : s.tick.down = false) (h.same (SameF.tick s f)) s.keep
    refine .inl ⟨rfl, ?_, this⟩
    show (s.tick.crash s.keep).down = true
    unfold St.crash; rw [if_neg (by rw [tick_down, hd]; simp)]
  · rw [if_neg h1] at hI ⊢
    by_cases h2 : 0 < s.lost
    · rw [if_pos h2] at hI ⊢
      exact .inr (.inl ⟨rfl, ⟨rfl, rfl, fun _ => Iff.rfl⟩, hd, hI⟩)
    · rw [if_neg h2] at hI ⊢
      exact .inr (.inr ⟨rfl, rfl, hI⟩)
/-- Write of a machine that is up; u holds when the bytes are put. -/
theorem write_cases (hi : Inv s) (hf : isF f) (hd : s.down = false) {a : Int} {t : List UInt8} (h0 : 0 ≤ a) (h1 : a + t.length ≤ 16777216) {u : CS} (h : Up (put1 s f a t) f u no may) :
    ((s.write f a t).2 = 9 ∧ (s.write f a t).1.down = true ∧ ∀ c', Good (s.write f a t).1 f c' no may) ∨
    ((s.write f a t).2 = 0 ∧ (s.write f a t).1 = (put1 s f a t).tick ∧ Inv (s.write f a t).1) := by
  have hI := inv_write hi f a t
  rw [write_is hd hf h0 h1] at hI ⊢
  by_cases h2 : s.armed = 1
  · rw [if_pos h2]
    have hdd : (put1 s f a t).tick.down = false := by rw [tick_down, put1_down, hd]
    have := good_crash_up (inv_tick (inv_put1 hi hf h0 h1)) hf hdd (h.same (SameF.tick _ f)) s.keep
    refine .inl ⟨rfl, ?_, this⟩
    show ((put1 s f a t).tick.crash s.keep).down = true
    unfold St.crash; rw [if_neg (by rw [hdd]; simp)]
  · rw [if_neg h2] at hI ⊢
    exact .inr ⟨rfl, rfl, hI⟩
/-- What Set leaves. -/
def SetPost (r : St × CS × Int) (f : Int) (no : Prop) (may : List (List UInt8)) (t : List UInt8) : Prop :=
  (r.2.2 = 0 → r.1.down = false ∧ r.2.1.slot ≠ 0 ∧ r.2.1.val = t ∧ Good r.1 f r.2.1 False [t]) ∧ (r.2.2 ≠ 0 → Good r.1 f r.2.1 no (may ++ [t]))
theorem set2_good (hi : Inv s) (hf : isF f) (hd : s.down = false) (h : Rdy s f c no may) {t : List UInt8} (ht : t.length ≤ 65536) : SetPost (set2 s f c t) f no may t := by
  have hsl := slotAt_pos (other c.slot)
  have hmore : ∀ v ∈ may, v ∈ may ++ [t] := fun v hv => by simp [hv]
  obtain ⟨r1, p1⟩ := rdy_put h ht
  unfold set2
  rcases write_cases hi hf hd (a := (slotAt (other c.slot) : Int)) (t := t) (by omega) (by omega) (.inl r1) with ⟨e1, e2, e3⟩ | ⟨e1, e2, e3⟩
  · rw [if_pos (by rw [e1]; decide)]
    exact ⟨fun h => absurd (e1.symm.trans h) (by decide), fun _ => (e3 c).mono id hmore⟩
  rw [if_neg (by rw [e1]; decide)]
  generalize (s.write f (slotAt (other c.slot) : Int) t).1 = s1 at *
  have d1 : s1.down = false := by rw [e2, tick_down, put1_down, hd]
  have R1 : Rdy s1 f c no may := by rw [e2]; exact r1.same (SameF.tick _ f)
  have P1 : Placed (s1.now f) (other c.slot) t := by rw [e2]; exact p1
  clear e1 e2 r1 p1
  rcases sync_cases e3 hf d1 (.inl R1) with ⟨f1, f2, f3⟩ | ⟨f1, f2, f3, f4⟩ | ⟨f1, f2, f3⟩
  · rw [if_pos (by rw [f1]; decide)]
    exact ⟨fun h => absurd (f1.symm.trans h) (by decide), fun _ => (f3 c).mono id hmore⟩
  · rw [if_pos (by rw [f1]; decide)]
    refine ⟨fun h => absurd (f1.symm.trans h) (by decide), fun _ => Good.mono (no := no) (may := may) ⟨f4, hf, fun _ => .inl (R1.same f2), fun h => ?_⟩ id hmore⟩
    simp only at h; rw [f3] at h; cases h
  rw [if_neg (by rw [f1]; decide)]
  generalize (s1.sync f).1 = s2 at *
  have d2 : s2.down = false := by rw [f2]; exact d1
  have R2 : Rdy s2 f c no may := by rw [f2]; exact rdy_synced (inv_tick e3) (R1.same (SameF.tick _ f))
  have P2 : Placed (s2.now f) (other c.slot) t := by rw [f2]; exact P1
  have C2 : Calm s2 f := by rw [f2]; exact synced_calm _ f
  have H := hdd_put C2 R2.allow (other_k c.slot) ht P2
  clear f1 f2 R1 P1
  rcases write_cases f3 hf d2 (a := 0) (t := hdr (other c.slot) t.length) (by omega) (by rw [hdr_len]; decide) (.inr H) with ⟨e1, e2, e4⟩ | ⟨e1, e2, e4⟩
  · rw [if_pos (by rw [e1]; decide)]
    exact ⟨fun h => absurd (e1.symm.trans h) (by decide), fun _ => e4 c⟩
  rw [if_neg (by rw [e1]; decide)]
  generalize (s2.write f 0 (hdr (other c.slot) t.length)).1 = s3 at *
  have d3 : s3.down = false := by rw [e2, tick_down, put1_down, d2]
  have H3 : Up s3 f ⟨other c.slot, t, false⟩ no (may ++ [t]) := by rw [e2]; exact Up.same (.inr H) (SameF.tick _ f)
  have H3' : Hdd s3 f ⟨other c.slot, t, false⟩ no (may ++ [t]) := by
    rcases H3 with (h | h) | h
    · exact absurd h.1 (by have := other_k c.slot; simp only; omega)
    · cases h.2.1
    · exact h
  rcases sync_cases e4 hf d3 H3 with ⟨f1, f2, f5⟩ | ⟨f1, f2, f5, f6⟩ | ⟨f1, f2, f5⟩
  · rw [f1]
    exact ⟨fun h => by simp at h, fun _ => f5 _⟩
  · rw [f1]
    refine ⟨fun h => by simp at h, fun _ => ⟨f6, hf, fun _ => H3.same f2, fun h => ?_⟩⟩
    simp only at h; rw [f5] at h; cases h
  · rw [f1]
    have d4 : (s3.sync f).1.down = false := by rw [f2]; exact d3
    refine ⟨fun _ => ⟨d4, by have := other_k c.slot; simp only; omega, rfl, f5, hf, fun _ => .inl ?_, fun h => ?_⟩, fun h => absurd rfl h⟩
    · show Rdy (s3.sync f).1 f ⟨other c.slot, t, decide ((0 : Int) = 0)⟩ False [t]
      rw [f2]
      exact hdd_synced (s := s3.tick) (c := ⟨other c.slot, t, false⟩) (no := no) (may := may ++ [t]) (by
        obtain ⟨h1, h2, h3, h4, h5, h6⟩ := H3'
        exact ⟨h1, h2, h3, h4, h5, h6⟩)
    · simp only at h; rw [d4] at h; cases h
theorem set_good (h : Good s f c no may) (t : List UInt8) : SetPost (setS s f c t) f no may t := by
  have hmore : ∀ v ∈ may, v ∈ may ++ [t] := fun v hv => by simp [hv]
  unfold setS
  by_cases ht : 65536 < t.length
  · rw [if_pos ht]
    exact ⟨fun h => by simp at h, fun _ => h.mono id hmore⟩
  rw [if_neg ht]
  cases hd : s.down with
  | true =>
    split
    · rw [sync_dn hd]
      simp only
      exact ⟨fun h => by simp at h, fun _ => h.mono id hmore⟩
    · unfold set2
      rw [write_dn hd]
      simp only
      exact ⟨fun h => by simp at h, fun _ => h.mono id hmore⟩
  | false =>
    have hu := h.up hd
    by_cases hc : c.slot ≠ 0 ∧ c.sure = false
    · rw [if_pos hc]
      have hh : Hdd s f c no may := by
        rcases hu with (e | e) | e
        · exact absurd e.1 hc.1
        · rw [hc.2] at e; cases e.2.1
        · exact e
      rcases sync_cases h.inv h.file hd hu with ⟨f1, f2, f5⟩ | ⟨f1, f2, f5, f6⟩ | ⟨f1, f2, f5⟩
      · rw [if_pos (by rw [f1]; decide)]
        exact ⟨fun h => absurd (f1.symm.trans h) (by decide), fun _ => (f5 c).mono id hmore⟩
      · rw [if_pos (by rw [f1]; decide)]
        refine ⟨fun h => absurd (f1.symm.trans h) (by decide), fun _ => Good.mono (no := no) (may := may) ⟨f6, h.file, fun _ => hu.same f2, fun h => ?_⟩ id hmore⟩
        simp only at h; rw [f5] at h; cases h
      · rw [if_neg (by rw [f1]; decide)]
        have d4 : (s.sync f).1.down = false := by rw [f2]; exact hd
        have H3' : Hdd s.tick f c no may := by
          obtain ⟨h1, h2, h3, h4, h5, h6⟩ := hh
          exact ⟨h1, h2, h3, h4, h5, h6⟩
        have R : Rdy (s.sync f).1 f { c with sure := true } no may := by
          rw [f2]; exact (hdd_synced H3').mono (fun h => h.elim) (fun v hv => by simp at hv; rw [hv]; exact hh.2.2.2.1)
        exact set2_good f5 h.file d4 R (by omega)
    · rw [if_neg hc]
      have R : Rdy s f c no may := by
        rcases hu with e | e
        · exact e
        · exact absurd ⟨e.1, e.2.1⟩ hc
      exact set2_good h.inv h.file hd R (by omega)
/-- Calls that leave the file of a cell as it is. -/
theorem Good.same (h : Good s f c no may) (hi : Inv s') (hd : s'.down = s.down) (e : SameF s s' f) (hp : s.pend = [] → s'.pend = [] ∨ s.down = false) : Good s' f c no may := by
  refine ⟨hi, h.file, fun h1 => (h.up (hd ▸ h1)).same e, fun h1 => ?_⟩
  obtain ⟨d1, d2, d3⟩ := h.dn (hd ▸ h1)
  refine ⟨(hp d1).resolve_right (fun h2 => by rw [hd, h2] at h1; cases h1), ?_, ?_⟩
  · rw [e.last, e.now]; exact d2
  · rw [e.now]; exact d3
theorem good_lose (h : Good s f c no may) {n : Int} (hn : n ≤ 9223372036854775807) : Good (s.lose n) f c no may := h.same (inv_lose h.inv hn) rfl ⟨rfl, rfl, fun _ => Iff.rfl⟩ .inl
theorem good_arm (h : Good s f c no may) {n : Int} (hn : n ≤ 9223372036854775807) (keep : List Int) : Good (s.arm n keep) f c no may := h.same (inv_arm h.inv hn keep) rfl ⟨rfl, rfl, fun _ => Iff.rfl⟩ .inl
theorem other_sync (h : Good s f c no may) {g : Int} (hg : isF g) (hfg : f ≠ g) : Good (s.sync g).1 f c no may := by
  cases hd : s.down with
  | true => rw [sync_dn hd]; exact h
  | false =>
    have hI := inv_sync h.inv g
    rw [sync_is hd hg] at hI ⊢
    by_cases h1 : s.armed = 1
    · rw [if_pos h1]
      exact good_crash_up (inv_tick h.inv) h.file hd ((h.up hd).same (SameF.tick s f)) s.keep c
    · rw [if_neg h1] at hI ⊢
      by_cases h2 : 0 < s.lost
      · rw [if_pos h2] at hI ⊢
        exact h.same hI rfl ⟨rfl, rfl, fun _ => Iff.rfl⟩ .inl
      · rw [if_neg h2] at hI ⊢
        exact h.same hI rfl ⟨(synced_other (s := s.tick) hfg).now, (synced_other (s := s.tick) hfg).last, (synced_other (s := s.tick) hfg).pend⟩ (fun _ => .inr hd)
theorem other_write (h : Good s f c no may) {g : Int} (hg : isF g) (hfg : f ≠ g) {a : Int} {t : List UInt8} (h0 : 0 ≤ a) (h1 : a + t.length ≤ 16777216) : Good (s.write g a t).1 f c no may := by
  cases hd : s.down with
  | true => rw [write_dn hd]; exact h
  | false =>
    have hI := inv_write h.inv g a t
    rw [write_is hd hg h0 h1] at hI ⊢
    have e := put1_other (s := s) a t hfg
    by_cases h2 : s.armed = 1
    · rw [if_pos h2]
      exact good_crash_up (inv_tick (inv_put1 h.inv hg h0 h1)) h.file (by rw [tick_down, put1_down, hd]) ((h.up hd).same ⟨e.now, e.last, e.pend⟩) s.keep c
    · rw [if_neg h2] at hI ⊢
      exact h.same hI (by rw [tick_down, put1_down]) ⟨e.now, e.last, e.pend⟩ (fun _ => .inr hd)
theorem other_set (h : Good s f c no may) {g : Int} (hg : isF g) (hfg : f ≠ g) (d : CS) (t : List UInt8) : Good (setS s g d t).1 f c no may := by
  have h2 : ∀ {s : St} (d : CS), Good s f c no may → t.length ≤ 65536 → Good (set2 s g d t).1 f c no may := fun {s} d h ht => by
    have hsl := slotAt_pos (other d.slot)
    have h1 := other_write h hg hfg (a := (slotAt (other d.slot) : Int)) (t := t) (by omega) (by omega)
    have h2 := other_sync h1 hg hfg
    have h3 := other_write h2 hg hfg (a := 0) (t := hdr (other d.slot) t.length) (by omega) (by rw [hdr_len]; decide)
    have h4 := other_sync h3 hg hfg
    unfold set2
    split
    · exact h1
    split
    · exact h2
    split
    · exact h3
    · exact h4
  unfold setS
  split
  · exact h
  split
  · split
    · exact other_sync h hg hfg
    · exact h2 _ (other_sync h hg hfg) (by omega)
  · exact h2 _ h (by omega)
/-- Without failures Set returns OK. -/
theorem write_ok (hd : s.down = false) (hf : isF f) (ha : s.armed = 0) {a : Int} {t : List UInt8} (h0 : 0 ≤ a) (h1 : a + t.length ≤ 16777216) : (s.write f a t).2 = 0 ∧ (s.write f a t).1.down = false ∧ (s.write f a t).1.armed = 0 ∧ (s.write f a t).1.lost = s.lost := by
  rw [write_is hd hf h0 h1, if_neg (by omega)]
  unfold put1
  split <;> simp [St.tick, St.add, hd, ha]
theorem sync_ok (hd : s.down = false) (hf : isF f) (ha : s.armed = 0) (hl : s.lost = 0) : (s.sync f).2 = 0 ∧ (s.sync f).1.down = false ∧ (s.sync f).1.armed = 0 ∧ (s.sync f).1.lost = 0 := by
  rw [sync_is hd hf, if_neg (by omega), if_neg (by omega)]
  simp [St.tick, St.synced, hd, ha, hl]
theorem set_ok (hd : s.down = false) (hf : isF f) (ha : s.armed = 0) (hl : s.lost = 0) (hc : c.slot = 0) {t : List UInt8} (ht : t.length ≤ 65536) :
    (setS s f c t).2.2 = 0 ∧ (setS s f c t).1.down = false ∧ (setS s f c t).1.armed = 0 ∧ (setS s f c t).1.lost = 0 := by
  have hsl := slotAt_pos (other c.slot)
  unfold setS
  rw [if_neg (by omega), if_neg (by simp [hc])]
  obtain ⟨a1, a2, a3, a4⟩ := write_ok hd hf ha (a := (slotAt (other c.slot) : Int)) (t := t) (by omega) (by omega)
  unfold set2
  rw [if_neg (by simp [a1])]
  generalize (s.write f (slotAt (other c.slot) : Int) t).1 = s1 at *
  obtain ⟨b1, b2, b3, b4⟩ := sync_ok a2 hf a3 (a4.trans hl)
  rw [if_neg (by simp [b1])]
  generalize (s1.sync f).1 = s2 at *
  obtain ⟨c1, c2, c3, c4⟩ := write_ok b2 hf b3 (a := 0) (t := hdr (other c.slot) t.length) (by omega) (by rw [hdr_len]; decide)
  rw [if_neg (by simp [c1])]
  generalize (s2.write f 0 (hdr (other c.slot) t.length)).1 = s3 at *
  exact sync_ok c2 hf c3 (c4.trans b4)
end
end Go.Proofs.YtdejajpmebgidaaDoor.CellM
