/-
  THE DISK AS PLAIN FUNCTIONS ON LISTS OF BYTES (no program in this text): what each call does to files, durable parts and pending sectors.
-/
import Derived.Test.YtdejajpmebgidaaDoorMa
namespace Go.Proofs.YtdejajpmebgidaaDoor.DiskM
set_option linter.unusedVariables false
set_option linter.unusedSimpArgs false

def at0 (l : List UInt8) (i : Nat) : UInt8 := l.getD i 0
theorem at0_lt {l : List UInt8} {i : Nat} (h : i < l.length) : at0 l i = l[i] := by simp [at0, h]
theorem at0_ge {l : List UInt8} {i : Nat} (h : l.length ≤ i) : at0 l i = 0 := by simp [at0, h]
theorem ext_at {l m : List UInt8} (h : l.length = m.length) (h2 : ∀ i, at0 l i = at0 m i) : l = m := by
  apply List.ext_getElem h
  intro i h3 h4
  have := h2 i
  rw [at0_lt h3, at0_lt h4] at this
  exact this
theorem at0_append (l m : List UInt8) (i : Nat) : at0 (l ++ m) i = if i < l.length then at0 l i else at0 m (i - l.length) := by
  unfold at0
  rw [List.getD_eq_getElem?_getD, List.getElem?_append]
  split <;> rw [List.getD_eq_getElem?_getD]
theorem at0_rep (n i : Nat) : at0 (List.replicate n 0) i = 0 := by
  unfold at0
  rw [List.getD_eq_getElem?_getD, List.getElem?_replicate]
  split <;> rfl
theorem at0_take (l : List UInt8) (n i : Nat) : at0 (l.take n) i = if i < n then at0 l i else 0 := by
  unfold at0
  rw [List.getD_eq_getElem?_getD, List.getElem?_take]
  split <;> simp [List.getD_eq_getElem?_getD]
theorem at0_drop (l : List UInt8) (n i : Nat) : at0 (l.drop n) i = at0 l (n + i) := by
  unfold at0
  rw [List.getD_eq_getElem?_getD, List.getElem?_drop, List.getD_eq_getElem?_getD]

/-- A list with bytes 0 up to a length. -/
def ext (l : List UInt8) (n : Nat) : List UInt8 := l ++ List.replicate (n - l.length) 0
theorem ext_len (l : List UInt8) (n : Nat) : (ext l n).length = max l.length n := by
  unfold ext; simp; omega
theorem ext_at0 (l : List UInt8) (n i : Nat) : at0 (ext l n) i = at0 l i := by
  unfold ext
  rw [at0_append, at0_rep]
  split
  · rfl
  · rw [at0_ge (by omega)]
/-- Bytes put into a string at an offset. -/
def put (l : List UInt8) (a : Nat) (t : List UInt8) : List UInt8 := (ext l (a + t.length)).take a ++ t ++ (ext l (a + t.length)).drop (a + t.length)
theorem put_len (l : List UInt8) (a : Nat) (t : List UInt8) : (put l a t).length = max l.length (a + t.length) := by
  unfold put
  simp only [List.length_append, List.length_take, List.length_drop, ext_len]
  omega
theorem put_at (l : List UInt8) (a : Nat) (t : List UInt8) (i : Nat) : at0 (put l a t) i = if a ≤ i ∧ i < a + t.length then at0 t (i - a) else at0 l i := by
  unfold put
  have e := ext_len l (a + t.length)
  rw [at0_append, at0_append, at0_drop, at0_take, ext_at0, ext_at0]
  simp only [List.length_append, List.length_take, e]
  have e1 : min a (max l.length (a + t.length)) = a := by omega
  rw [e1]
  by_cases h1 : i < a
  · rw [if_pos (by omega), if_pos h1, if_pos h1, if_neg (by omega)]
  · by_cases h2 : i < a + t.length
    · rw [if_pos h2, if_neg h1, if_pos ⟨by omega, h2⟩]
    · rw [if_neg h2, if_neg (by omega)]
      congr 1
      omega
/-- A sector. -/
def sec (l : List UInt8) (n : Nat) : List UInt8 := (l.drop (64 * n)).take 64
theorem sec_len (l : List UInt8) (n : Nat) : (sec l n).length = min 64 (l.length - 64 * n) := by unfold sec; simp
theorem sec_at (l : List UInt8) (n i : Nat) (h : i < 64) : at0 (sec l n) i = at0 l (64 * n + i) := by
  unfold sec
  rw [at0_take, if_pos h, at0_drop]

def upd {α : Type} (g : Int → α) (f : Int) (x : α) : Int → α := fun i => if i = f then x else g i
theorem upd_same {α : Type} (g : Int → α) (f : Int) (x : α) : upd g f x f = x := by simp [upd]
theorem upd_other {α : Type} (g : Int → α) {f i : Int} (x : α) (h : i ≠ f) : upd g f x i = g i := by simp [upd, h]

abbrev Sec := Int × Nat
abbrev Files := Int → List UInt8

def hard (now : Files) (s : Sec) (L : Files) : Files := upd L s.1 (put (L s.1) (64 * s.2) (sec (now s.1) s.2))
/-- The first k of the pending sectors, those that are selected, put into the durable parts. -/
def hardAll (now : Files) (sel : Nat → Bool) (pend : List Sec) (L : Files) : Nat → Files
  | 0 => L
  | k + 1 => if sel k then (match pend[k]? with | some s => hard now s (hardAll now sel pend L k) | none => hardAll now sel pend L k) else hardAll now sel pend L k
def Hit (sel : Nat → Bool) (pend : List Sec) (k : Nat) (f : Int) (n : Nat) : Prop := ∃ j, j < k ∧ sel j = true ∧ pend[j]? = some (f, n)
structure Chr (now : Files) (sel : Nat → Bool) (pend : List Sec) (L : Files) (k : Nat) (R : Files) : Prop where
  lo : ∀ f, (L f).length ≤ (R f).length
  hi : ∀ f, (R f).length ≤ (now f).length
  hit : ∀ f i, Hit sel pend k f (i / 64) → at0 (R f) i = at0 (now f) i
  miss : ∀ f i, ¬ Hit sel pend k f (i / 64) → at0 (R f) i = at0 (L f) i
  len : ∀ f n, Hit sel pend k f n → min (64 * n + 64) (now f).length ≤ (R f).length

theorem Hit.succ {sel : Nat → Bool} {pend : List Sec} {k : Nat} {f : Int} {n : Nat} (h : Hit sel pend k f n) : Hit sel pend (k + 1) f n := by
  obtain ⟨j, h1, h2⟩ := h
  exact ⟨j, by omega, h2⟩
theorem hit_succ_iff {sel : Nat → Bool} {pend : List Sec} {k : Nat} {f : Int} {n : Nat} : Hit sel pend (k + 1) f n ↔ Hit sel pend k f n ∨ (sel k = true ∧ pend[k]? = some (f, n)) := by
  constructor
  · rintro ⟨j, h1, h2⟩
    by_cases e : j = k
    · subst e; exact .inr h2
    · exact .inl ⟨j, by omega, h2⟩
  · rintro (h | h)
    · exact h.succ
    · exact ⟨k, by omega, h⟩
theorem hardAll_chr (now : Files) (sel : Nat → Bool) (pend : List Sec) (L : Files) (hle : ∀ f, (L f).length ≤ (now f).length) (hin : ∀ f n, (f, n) ∈ pend → 64 * n < (now f).length) :
    ∀ k, Chr now sel pend L k (hardAll now sel pend L k)
  | 0 => ⟨fun _ => Nat.le_refl _, hle, fun f i ⟨j, h, _⟩ => by omega, fun _ _ _ => rfl, fun f n ⟨j, h, _⟩ => by omega⟩
  | k + 1 => by
    have ih := hardAll_chr now sel pend L hle hin k
    have stay : (¬ ∃ s, sel k = true ∧ pend[k]? = some s) → Chr now sel pend L (k + 1) (hardAll now sel pend L k) := fun hno => by
      have hs : ∀ {f n}, Hit sel pend (k + 1) f n → Hit sel pend k f n := fun h => (hit_succ_iff.1 h).resolve_right (fun h => hno ⟨_, h⟩)
      exact ⟨ih.lo, ih.hi, fun f i h => ih.hit f i (hs h), fun f i h => ih.miss f i (fun h' => h h'.succ), fun f n h => ih.len f n (hs h)⟩
    rw [hardAll]
    cases hk : sel k with
    | false => simpa [hk] using stay (by simp [hk])
    | true =>
      cases hp : pend[k]? with
      | none => simpa [hk, hp] using stay (by simp [hp])
      | some s =>
        obtain ⟨g, m⟩ := s
        have hm : 64 * m < (now g).length := hin g m (List.mem_of_getElem? hp)
        simp only [if_true]
        generalize hR : hardAll now sel pend L k = R at ih ⊢
        have hlen : (hard now (g, m) R g).length = max (R g).length (64 * m + min 64 ((now g).length - 64 * m)) := by
          unfold hard; rw [upd_same, put_len, sec_len]
        have hat : ∀ i, at0 (hard now (g, m) R g) i = if 64 * m ≤ i ∧ i < 64 * m + min 64 ((now g).length - 64 * m) then at0 (now g) i else at0 (R g) i := fun i => by
          unfold hard; rw [upd_same, put_at, sec_len]
          split
          · rename_i h
            rw [sec_at _ _ _ (by omega)]
            congr 1; omega
          · rfl
        have hoth : ∀ f, f ≠ g → hard now (g, m) R f = R f := fun f hf => by unfold hard; rw [upd_other _ _ hf]
        refine ⟨fun f => ?_, fun f => ?_, fun f i h => ?_, fun f i h => ?_, fun f n h => ?_⟩
        · by_cases e : f = g
          · subst e; rw [hlen]; have := ih.lo f; omega
          · rw [hoth f e]; exact ih.lo f
        · by_cases e : f = g
          · subst e; rw [hlen]; have := ih.hi f; omega
          · rw [hoth f e]; exact ih.hi f
        · by_cases e : f = g
          · subst e
            rw [hat]
            split
            · rfl
            · rename_i hno
              rcases hit_succ_iff.1 h with h' | ⟨_, h'⟩
              · exact ih.hit f i h'
              · rw [hp] at h'
                simp at h'
                have h3 : (now f).length ≤ i := by omega
                have h4 := ih.hi f
                rw [at0_ge h3, at0_ge (by omega)]
          · rw [hoth f e]
            rcases hit_succ_iff.1 h with h' | ⟨_, h'⟩
            · exact ih.hit f i h'
            · rw [hp] at h'; simp at h'; exact absurd h'.1.symm e
        · have h1 : ¬ Hit sel pend k f (i / 64) := fun h' => h h'.succ
          by_cases e : f = g
          · subst e
            rw [hat, if_neg, ih.miss f i h1]
            intro hh
            refine h (hit_succ_iff.2 (.inr ⟨hk, ?_⟩))
            rw [hp]
            simp
            omega
          · rw [hoth f e, ih.miss f i h1]
        · rcases hit_succ_iff.1 h with h' | ⟨_, h'⟩
          · have := ih.len f n h'
            by_cases e : f = g
            · subst e; rw [hlen]; omega
            · rw [hoth f e]; exact this
          · rw [hp] at h'
            simp at h'
            obtain ⟨rfl, rfl⟩ := h'
            rw [hlen]; omega

/-- The state of a disk. -/
structure St where
  now : Files
  last : Files
  pend : List Sec
  down : Bool
  lost : Nat
  armed : Nat
  keep : List Int
def isF (f : Int) : Prop := 0 ≤ f ∧ f < 16
instance (f : Int) : Decidable (isF f) := by unfold isF; infer_instance

structure Inv (s : St) : Prop where
  nf : ∀ f, ¬ isF f → s.now f = []
  cap : ∀ f, (s.now f).length ≤ 16777216
  le : ∀ f, (s.last f).length ≤ (s.now f).length
  nodup : s.pend.Nodup
  pin : ∀ f n, (f, n) ∈ s.pend → 64 * n < (s.now f).length
  same : ∀ f i, (f, i / 64) ∈ s.pend ∨ at0 (s.now f) i = at0 (s.last f) i
  ends : ∀ f, (s.now f).length = (s.last f).length ∨ (f, ((s.now f).length - 1) / 64) ∈ s.pend
  lostb : s.lost ≤ 9223372036854775807
  armedb : s.armed ≤ 9223372036854775807
theorem Inv.lnf {s : St} (h : Inv s) (f : Int) (hf : ¬ isF f) : s.last f = [] := by
  have := h.le f
  rw [h.nf f hf] at this
  exact List.eq_nil_of_length_eq_zero (by simpa using this)
theorem Inv.pf {s : St} (h : Inv s) {f : Int} {n : Nat} (hm : (f, n) ∈ s.pend) : isF f := by
  have := h.pin f n hm
  by_cases hf : isF f
  · exact hf
  · rw [h.nf f hf] at this; simp at this

/-- Where all pending sectors of a file are hit, the durable part becomes the file. -/
theorem chr_all {s : St} (h : Inv s) {sel : Nat → Bool} {R : Files} (c : Chr s.now sel s.pend s.last s.pend.length R) (f : Int) (ha : ∀ n, (f, n) ∈ s.pend → Hit sel s.pend s.pend.length f n) : R f = s.now f := by
  have hl : (R f).length = (s.now f).length := by
    have h1 := c.lo f
    have h2 := c.hi f
    rcases h.ends f with e | e
    · omega
    · have h3 := c.len f _ (ha _ e)
      have := h.pin f _ e
      omega
  refine ext_at hl (fun i => ?_)
  by_cases hi : Hit sel s.pend s.pend.length f (i / 64)
  · exact c.hit f i hi
  · rw [c.miss f i hi]
    rcases h.same f i with h' | h'
    · exact absurd (ha _ h') hi
    · exact h'.symm
/-- Where no pending sector of a file is hit, the durable part stays. -/
theorem chr_none {now : Files} {sel : Nat → Bool} {pend : List Sec} {L R : Files} (k : Nat) (hL : hardAll now sel pend L k = R) (f : Int) (ha : ∀ n, ¬ Hit sel pend k f n) : R f = L f := by
  induction k generalizing R with
  | zero => rw [← hL]; rfl
  | succ k ih =>
    have h1 := ih rfl (fun n h => ha n h.succ)
    rw [← hL, hardAll]
    cases hk : sel k with
    | false => simpa using h1
    | true =>
      cases hp : pend[k]? with
      | none => simpa using h1
      | some s =>
        simp only [if_true]
        have : f ≠ s.1 := fun e => ha s.2 ⟨k, by omega, hk, by rw [hp, e]⟩
        unfold hard
        rw [upd_other _ _ this]
        exact h1
theorem mem_hit {pend : List Sec} {sel : Nat → Bool} {f : Int} {n : Nat} (hm : (f, n) ∈ pend) (hs : ∀ j, pend[j]? = some (f, n) → sel j = true) : Hit sel pend pend.length f n := by
  obtain ⟨j, hj⟩ := List.getElem?_of_mem hm
  exact ⟨j, (List.getElem?_eq_some_iff.1 hj).1, hs j hj, hj⟩
def ofFile (pend : List Sec) (f : Int) (j : Nat) : Bool := match pend[j]? with | some s => decide (s.1 = f) | none => false
theorem sync_eq {s : St} (h : Inv s) (f : Int) : hardAll s.now (ofFile s.pend f) s.pend s.last s.pend.length = upd s.last f (s.now f) := by
  have c := hardAll_chr s.now (ofFile s.pend f) s.pend s.last h.le h.pin s.pend.length
  funext g
  by_cases e : g = f
  · subst e
    rw [upd_same]
    exact chr_all h c g (fun n hm => mem_hit hm (fun j hj => by unfold ofFile; rw [hj]; simp))
  · rw [upd_other _ _ e]
    refine chr_none _ rfl g (fun n ⟨j, _, h2, h3⟩ => ?_)
    unfold ofFile at h2
    rw [h3] at h2
    simp at h2
    exact e h2

/-! THE CALLS -/
def St.size (s : St) (f : Int) : Nat := (s.now f).length
def chk (f a : Int) (n : Nat) : Int := if ¬ isF f ∨ a < 0 then 1 else if 16777216 - (n : Int) < a then 6 else 0
/-- Sectors made pending, from the first one on. -/
def addp (pend : List Sec) (f : Int) (a : Nat) : Nat → List Sec
  | 0 => pend
  | k + 1 => if (f, a + k) ∈ addp pend f a k then addp pend f a k else addp pend f a k ++ [(f, a + k)]
def St.add (s : St) (f : Int) (a : Nat) (t : List UInt8) : St :=
  { s with now := upd s.now f (put (s.now f) a t), pend := addp s.pend f (a / 64) ((a + t.length - 1) / 64 + 1 - a / 64) }
def St.tick (s : St) : St := { s with armed := s.armed - 1 }
def surv (keep : List Int) (i : Nat) : Bool := match keep[i % keep.length]? with | some k => decide (k.tmod 2 ≠ 0) | none => false
def St.crash (s : St) (keep : List Int) : St :=
  if s.down = true then s else
    { now := hardAll s.now (surv keep) s.pend s.last s.pend.length, last := hardAll s.now (surv keep) s.pend s.last s.pend.length, pend := [], down := true, lost := s.lost, armed := 0, keep := [] }
/-- The call is counted; the scheduled crash comes with it, or it has the error e. -/
def St.strike (s : St) (e : Int) : St × Int := if s.armed = 1 then (s.tick.crash s.keep, 9) else (s.tick, e)
def St.write (s : St) (f a : Int) (t : List UInt8) : St × Int :=
  if s.down = true then (s, 9) else (if chk f a t.length = 0 ∧ t ≠ [] then s.add f a.toNat t else s).strike (chk f a t.length)
def St.begin (s : St) (f : Int) : St × Int := if s.down = true then (s, 9) else s.strike (if isF f then 0 else 1)
def St.synced (s : St) (f : Int) : St := { s with last := upd s.last f (s.now f), pend := s.pend.filter (fun x => decide (x.1 ≠ f)) }
def St.sync (s : St) (f : Int) : St × Int :=
  if (s.begin f).2 ≠ 0 then s.begin f else if 0 < (s.begin f).1.lost then ({ (s.begin f).1 with lost := (s.begin f).1.lost - 1 }, 10) else ((s.begin f).1.synced f, 0)
def St.cut (s : St) (f : Int) (n : Nat) : St := { s with now := upd s.now f ((s.now f).take n), last := upd s.last f ((s.now f).take n), pend := s.pend.filter (fun x => decide (x.1 ≠ f)) }
def St.trunc (s : St) (f n : Int) : St × Int :=
  if (s.begin f).2 ≠ 0 then s.begin f else if n < 0 ∨ ((s.begin f).1.size f : Int) < n then ((s.begin f).1, 1) else ((s.begin f).1.cut f n.toNat, 0)
def St.lose (s : St) (n : Int) : St := { s with lost := n.toNat }
def St.arm (s : St) (n : Int) (keep : List Int) : St := { s with armed := n.toNat, keep := keep }
def St.start (s : St) : St := { s with down := false }
def St.read (s : St) (f a n : Int) : List UInt8 × Int :=
  if s.down = true then ([], 9) else if ¬ isF f ∨ a < 0 ∨ n < 0 then ([], 1) else (((s.now f).drop a.toNat).take n.toNat, 0)
def St.new : St := ⟨fun _ => [], fun _ => [], [], false, 0, 0, []⟩

theorem inv_new : Inv St.new := ⟨fun _ _ => rfl, fun _ => by simp [St.new], fun _ => Nat.le_refl _, List.nodup_nil, fun _ _ h => (by cases h), fun _ _ => .inr rfl, fun _ => .inl rfl, (by simp [St.new]), (by simp [St.new])⟩

theorem mem_addp {pend : List Sec} {f : Int} {a : Nat} {x : Sec} : ∀ k, x ∈ addp pend f a k ↔ x ∈ pend ∨ (x.1 = f ∧ a ≤ x.2 ∧ x.2 < a + k)
  | 0 => by unfold addp; constructor; { exact .inl }; { rintro (h | h); { exact h }; { omega } }
  | k + 1 => by
    have ih := @mem_addp pend f a x k
    have last : x = (f, a + k) ↔ (x.1 = f ∧ x.2 = a + k) := by
      constructor
      · rintro rfl; exact ⟨rfl, rfl⟩
      · rintro ⟨h1, h2⟩; exact Prod.ext h1 h2
    rw [addp]
    split
    · rename_i hin
      rw [ih]
      constructor
      · rintro (h | h)
        · exact .inl h
        · exact .inr ⟨h.1, h.2.1, by omega⟩
      · rintro (h | h)
        · exact .inl h
        · by_cases e : x.2 = a + k
          · have hx := last.2 ⟨h.1, e⟩
            subst hx
            exact ih.1 hin
          · exact .inr ⟨h.1, h.2.1, by omega⟩
    · rw [List.mem_append, ih, List.mem_singleton, last]
      constructor
      · rintro ((h | h) | h)
        · exact .inl h
        · exact .inr ⟨h.1, h.2.1, by omega⟩
        · exact .inr ⟨h.1, by omega, by omega⟩
      · rintro (h | h)
        · exact .inl (.inl h)
        · by_cases e : x.2 = a + k
          · exact .inr ⟨h.1, e⟩
          · exact .inl (.inr ⟨h.1, h.2.1, by omega⟩)
theorem nodup_addp {pend : List Sec} {f : Int} {a : Nat} (h : pend.Nodup) : ∀ k, (addp pend f a k).Nodup
  | 0 => h
  | k + 1 => by
    have ih := @nodup_addp pend f a h k
    rw [addp]
    split
    · exact ih
    · rename_i hn
      rw [List.nodup_append]
      refine ⟨ih, by simp, ?_⟩
      intro x hx y hy e
      simp at hy
      rw [e, hy] at hx
      exact hn hx

theorem chk_zero {f a : Int} {n : Nat} (h : chk f a n = 0) : isF f ∧ 0 ≤ a ∧ a + n ≤ 16777216 := by
  unfold chk at h
  split at h
  · cases h
  · split at h
    · cases h
    · rename_i h1 h2
      refine ⟨?_, by omega, by omega⟩
      by_cases hf : isF f
      · exact hf
      · exact absurd (.inl hf) h1
theorem inv_add {s : St} (h : Inv s) {f : Int} {a : Nat} {t : List UInt8} (hf : isF f) (ht : t ≠ []) (hcap : a + t.length ≤ 16777216) : Inv (s.add f a t) := by
  have htl : 0 < t.length := List.length_pos_iff.2 ht
  have hmem : ∀ g n, (g, n) ∈ (s.add f a t).pend ↔ (g, n) ∈ s.pend ∨ (g = f ∧ a / 64 ≤ n ∧ n ≤ (a + t.length - 1) / 64) := fun g n => by
    unfold St.add
    rw [mem_addp]
    simp only
    constructor
    · rintro (h | h)
      · exact .inl h
      · exact .inr ⟨h.1, h.2.1, by omega⟩
    · rintro (h | h)
      · exact .inl h
      · exact .inr ⟨h.1, h.2.1, by omega⟩
  have hs : (s.add f a t).now f = put (s.now f) a t := by simp [St.add, upd_same]
  have ho : ∀ g, g ≠ f → (s.add f a t).now g = s.now g := fun g hg => by simp [St.add, upd_other _ _ hg]
  have hl : (s.add f a t).last = s.last := rfl
  have hlen : ((s.add f a t).now f).length = max (s.now f).length (a + t.length) := by rw [hs, put_len]
  refine ⟨fun g hg => ?_, fun g => ?_, fun g => ?_, nodup_addp h.nodup _, fun g n hm => ?_, fun g i => ?_, fun g => ?_, h.lostb, h.armedb⟩
  · rw [ho g (fun e => hg (e ▸ hf))]; exact h.nf g hg
  · by_cases e : g = f
    · subst e; rw [hlen]; have := h.cap g; omega
    · rw [ho g e]; exact h.cap g
  · rw [hl]
    by_cases e : g = f
    · subst e; rw [hlen]; have := h.le g; omega
    · rw [ho g e]; exact h.le g
  · rcases (hmem g n).1 hm with h1 | ⟨rfl, h1, h2⟩
    · have h3 := h.pin g n h1
      by_cases e : g = f
      · subst e; rw [hlen]; omega
      · rw [ho g e]; exact h3
    · rw [hlen]
      have : 64 * n < a + t.length := by omega
      omega
  · rw [hmem, hl]
    by_cases e : g = f
    · subst e
      by_cases h1 : a / 64 ≤ i / 64 ∧ i / 64 ≤ (a + t.length - 1) / 64
      · exact .inl (.inr ⟨rfl, h1⟩)
      · rw [hs, put_at, if_neg (by omega)]
        rcases h.same g i with h2 | h2
        · exact .inl (.inl h2)
        · exact .inr h2
    · rw [ho g e]
      rcases h.same g i with h2 | h2
      · exact .inl (.inl h2)
      · exact .inr h2
  · rw [hmem, hl]
    by_cases e : g = f
    · subst e
      rw [hlen]
      by_cases h1 : a + t.length ≤ (s.now g).length
      · have e1 : max (s.now g).length (a + t.length) = (s.now g).length := by omega
        rw [e1]
        rcases h.ends g with h2 | h2
        · exact .inl h2
        · exact .inr (.inl h2)
      · have e1 : max (s.now g).length (a + t.length) = a + t.length := by omega
        rw [e1]
        exact .inr (.inr ⟨rfl, by omega, Nat.le_refl _⟩)
    · rw [ho g e]
      rcases h.ends g with h2 | h2
      · exact .inl h2
      · exact .inr (.inl h2)
theorem inv_tick {s : St} (h : Inv s) : Inv s.tick := ⟨h.nf, h.cap, h.le, h.nodup, h.pin, h.same, h.ends, h.lostb, by have := h.armedb; simp only [St.tick]; omega⟩
theorem inv_flat {L : Files} (s : St) (hn : ∀ f, ¬ isF f → L f = []) (hc : ∀ f, (L f).length ≤ 16777216) (hl : s.lost ≤ 9223372036854775807) (ha : s.armed ≤ 9223372036854775807) : Inv { s with now := L, last := L, pend := [] } :=
  ⟨hn, hc, fun _ => Nat.le_refl _, List.nodup_nil, fun _ _ h => by simp at h, fun _ _ => .inr rfl, fun _ => .inl rfl, hl, ha⟩
theorem inv_crash {s : St} (h : Inv s) (keep : List Int) : Inv (s.crash keep) := by
  unfold St.crash
  split
  · exact h
  · have c := hardAll_chr s.now (surv keep) s.pend s.last h.le h.pin s.pend.length
    exact inv_flat { s with down := true, armed := 0, keep := [] } (fun f hf => by
      have := c.hi f
      rw [h.nf f hf] at this
      exact List.eq_nil_of_length_eq_zero (by simpa using this)) (fun f => Nat.le_trans (c.hi f) (h.cap f)) h.lostb (Nat.zero_le _)
theorem inv_strike {s : St} (h : Inv s) (e : Int) : Inv (s.strike e).1 := by
  unfold St.strike
  split
  · exact inv_crash (inv_tick h) _
  · exact inv_tick h
theorem inv_write {s : St} (h : Inv s) (f a : Int) (t : List UInt8) : Inv (s.write f a t).1 := by
  unfold St.write
  split
  · exact h
  · refine inv_strike ?_ _
    split
    · rename_i hc
      obtain ⟨h1, h2, h3⟩ := chk_zero hc.1
      exact inv_add h h1 hc.2 (by omega)
    · exact h
theorem inv_begin {s : St} (h : Inv s) (f : Int) : Inv (s.begin f).1 := by
  unfold St.begin
  split
  · exact h
  · exact inv_strike h _
theorem begin_file {s : St} {f : Int} (h : (s.begin f).2 = 0) : isF f := by
  unfold St.begin at h
  split at h
  · cases h
  · unfold St.strike at h
    split at h
    · cases h
    · simp only at h
      by_cases hf : isF f
      · exact hf
      · rw [if_neg hf] at h; cases h
theorem mem_filt {pend : List Sec} {f g : Int} {n : Nat} : (g, n) ∈ pend.filter (fun x => decide (x.1 ≠ f)) ↔ (g, n) ∈ pend ∧ g ≠ f := by simp [List.mem_filter]
theorem inv_level {s : St} (h : Inv s) {f : Int} (L : List UInt8) (hf : isF f) (hL : L.length ≤ 16777216) : Inv { s with now := upd s.now f L, last := upd s.last f L, pend := s.pend.filter (fun x => decide (x.1 ≠ f)) } := by
  refine ⟨fun g hg => ?_, fun g => ?_, fun g => ?_, h.nodup.filter _, fun g n hm => ?_, fun g i => ?_, fun g => ?_, h.lostb, h.armedb⟩
  · simp only [upd_other _ _ (fun e => hg (e ▸ hf) : g ≠ f)]; exact h.nf g hg
  · by_cases e : g = f
    · subst e; simp only [upd_same]; exact hL
    · simp only [upd_other _ _ e]; exact h.cap g
  · by_cases e : g = f
    · subst e; simp only [upd_same]; exact Nat.le_refl _
    · simp only [upd_other _ _ e]; exact h.le g
  · obtain ⟨h1, h2⟩ := mem_filt.1 hm
    simp only [upd_other _ _ h2]; exact h.pin g n h1
  · by_cases e : g = f
    · subst e; simp only [upd_same]; exact .inr trivial
    · simp only [upd_other _ _ e]
      rcases h.same g i with h1 | h1
      · exact .inl (mem_filt.2 ⟨h1, e⟩)
      · exact .inr h1
  · by_cases e : g = f
    · subst e; simp only [upd_same]; exact .inl trivial
    · simp only [upd_other _ _ e]
      rcases h.ends g with h1 | h1
      · exact .inl h1
      · exact .inr (mem_filt.2 ⟨h1, e⟩)
theorem upd_self {α : Type} (g : Int → α) (f : Int) : upd g f (g f) = g := by
  funext i; unfold upd; split
  · rename_i h; rw [h]
  · rfl
theorem inv_synced {s : St} (h : Inv s) {f : Int} (hf : isF f) : Inv (s.synced f) := by
  have := inv_level h (s.now f) hf (h.cap f)
  rw [upd_self] at this
  exact this
theorem inv_sync {s : St} (h : Inv s) (f : Int) : Inv (s.sync f).1 := by
  unfold St.sync
  have hb := inv_begin h f
  split
  · exact hb
  · split
    · exact ⟨hb.nf, hb.cap, hb.le, hb.nodup, hb.pin, hb.same, hb.ends, by have := hb.lostb; simp only; omega, hb.armedb⟩
    · rename_i h1 _
      exact inv_synced hb (begin_file (by simpa using h1))
theorem inv_cut {s : St} (h : Inv s) {f : Int} (hf : isF f) (n : Nat) : Inv (s.cut f n) := inv_level h ((s.now f).take n) hf (by
  have := h.cap f
  rw [List.length_take]; omega)
theorem inv_trunc {s : St} (h : Inv s) (f n : Int) : Inv (s.trunc f n).1 := by
  unfold St.trunc
  have hb := inv_begin h f
  split
  · exact hb
  · split
    · exact hb
    · rename_i h1 _
      exact inv_cut hb (begin_file (by simpa using h1)) _
theorem inv_lose {s : St} (h : Inv s) {n : Int} (hn : n ≤ 9223372036854775807) : Inv (s.lose n) := ⟨h.nf, h.cap, h.le, h.nodup, h.pin, h.same, h.ends, by simp only [St.lose]; omega, h.armedb⟩
theorem inv_arm {s : St} (h : Inv s) {n : Int} (hn : n ≤ 9223372036854775807) (keep : List Int) : Inv (s.arm n keep) := ⟨h.nf, h.cap, h.le, h.nodup, h.pin, h.same, h.ends, h.lostb, by simp only [St.arm]; omega⟩
theorem inv_start {s : St} (h : Inv s) : Inv s.start := ⟨h.nf, h.cap, h.le, h.nodup, h.pin, h.same, h.ends, h.lostb, h.armedb⟩

/-- Different numbers below a bound are at most so many. -/
theorem nodup_bound : ∀ (N : Nat) (l : List Nat), l.Nodup → (∀ x ∈ l, x < N) → l.length ≤ N
  | 0, l, _, h => by
    cases l with
    | nil => simp
    | cons a r => have := h a (by simp); omega
  | N + 1, l, hn, h => by
    have h1 := nodup_bound N (l.filter (fun x => decide (x ≠ N))) (hn.filter _) (fun x hx => by
      obtain ⟨h2, h5⟩ := List.mem_filter.1 hx
      have h3 := h x h2
      have h6 : x ≠ N := by simpa using h5
      omega)
    have h4 : l.length ≤ (l.filter (fun x => decide (x ≠ N))).length + 1 := by
      clear h1 h
      induction l with
      | nil => simp
      | cons a r ih =>
        obtain ⟨ha, hr⟩ := List.nodup_cons.1 hn
        by_cases e : a = N
        · subst e
          have : r.filter (fun x => decide (x ≠ a)) = r := List.filter_eq_self.2 (fun x hx => by simp; intro e; exact ha (e ▸ hx))
          rw [List.filter_cons_of_neg (by simp), this, List.length_cons]
          exact Nat.le_refl _
        · have := ih hr
          rw [List.filter_cons_of_pos (by simpa using e), List.length_cons, List.length_cons]
          omega
    omega
theorem pend_bound {s : St} (h : Inv s) : s.pend.length ≤ 4194304 := by
  have h1 : (s.pend.map (fun x => x.1.toNat * 262144 + x.2)).Nodup := by
    unfold List.Nodup
    rw [List.pairwise_map]
    refine List.Pairwise.imp_of_mem ?_ h.nodup
    intro a b ha hb hne e
    obtain ⟨f, n⟩ := a
    obtain ⟨g, m⟩ := b
    have h1 := h.pf ha
    have h2 := h.pf hb
    have h3 := h.pin _ _ ha
    have h4 := h.pin _ _ hb
    have h5 := h.cap f
    have h6 := h.cap g
    unfold isF at h1 h2
    simp only at e
    have : f = g ∧ n = m := by omega
    exact hne (Prod.ext this.1 this.2)
  have h2 := nodup_bound 4194304 _ h1 (fun x hx => by
    obtain ⟨⟨f, n⟩, hm, rfl⟩ := List.mem_map.1 hx
    have h1 := h.pf hm
    have h3 := h.pin _ _ hm
    have h5 := h.cap f
    unfold isF at h1
    simp only
    omega)
  simpa using h2
end Go.Proofs.YtdejajpmebgidaaDoor.DiskM
