/-
  THE REFERENCE: what the five fields of a part are, and the table of a match, in plain mathematics.
-/
import Derived.Test.YteccccpjhpbebaaGreatDoorUj
namespace Go.Proofs.YteccccpjhpbebaaGreatDoor
open Go.RowKit WireM
set_option linter.unusedVariables false
set_option linter.unusedSimpArgs false

def kindOf (t : List UInt8) : Nat := if 2 < t.length then 3 else if t = [42] then 1 else if t = [63] then 2 else 0
def byteOf (t : List UInt8) : UInt8 := if 2 < t.length then 0 else t.getD (t.length - 1) 0
def setP (t : List UInt8) : List UInt8 := if 2 < t.length then (if clsNot t = true then (setOf t).drop 1 else setOf t) else []
def notP (t : List UInt8) : Bool := decide (2 < t.length) && clsNot t
theorem kind_le (t : List UInt8) : kindOf t ≤ 3 := by unfold kindOf; repeat' split
                                                      all_goals omega
theorem kind_star (t : List UInt8) : kindOf t = 1 ↔ t = WireM.star := by
  unfold kindOf WireM.star
  by_cases h : 2 < t.length
  · rw [if_pos h]
    refine ⟨fun e => by omega, fun e => ?_⟩
    subst e; simp at h
  · rw [if_neg h]
    by_cases h1 : t = [42]
    · rw [if_pos h1]; simp [h1]
    · rw [if_neg h1]
      by_cases h2 : t = [63]
      · rw [if_pos h2]; simp [h2]
      · rw [if_neg h2]; simp [h1]
theorem magic_kind (t : List UInt8) : magicT t = decide (kindOf t ≠ 0) := by
  unfold magicT kindOf
  by_cases h : 2 < t.length
  · rw [if_pos h]; simp [h]
  · rw [if_neg h]
    by_cases h1 : t = [42]
    · rw [if_pos h1]; simp [h1]
    · rw [if_neg h1]
      by_cases h2 : t = [63]
      · rw [if_pos h2]; simp [h2]
      · rw [if_neg h2]; simp [h, h1, h2]
theorem nat_eq (a b : UInt8) : (a.toNat == b.toNat) = decide (a = b) := by
  rw [Bool.eq_iff_iff]
  simp only [beq_iff_eq, decide_eq_true_eq]
  exact ⟨fun h => UInt8.toNat_inj.1 h, fun h => by rw [h]⟩
theorem fit_parts {t : List UInt8} (h : 1 ≤ t.length) (hs : t ≠ WireM.star) (c : UInt8) : fitB (kindOf t) (byteOf t) (setP t) (notP t) c = fit t c := by
  unfold fitB kindOf byteOf setP notP fit
  by_cases h2 : 2 < t.length
  · rw [if_pos h2, if_pos h2, if_pos h2, if_pos h2, if_neg (by decide), if_pos rfl]
    unfold clsHas
    by_cases hn : clsNot t = true
    · rw [if_pos hn, if_pos hn]; simp [h2, hn]
    · rw [if_neg hn, if_neg hn]; simp [h2, hn]
  · rw [if_neg h2, if_neg h2, if_neg h2, if_neg h2]
    have h42 : t ≠ [42] := hs
    rw [if_neg h42]
    by_cases h63 : t = [63]
    · subst h63; simp
    · rw [if_neg h63, if_neg (by decide), if_neg (by decide), nat_eq]
      by_cases hl : t.length = 2
      · rw [if_pos hl, hl]
      · rw [if_neg hl, show t.length - 1 = 0 by omega]; simp [h63]

/-! THE TABLE -/
def tab (P : List (List UInt8)) (s : List UInt8) (k : Nat) : Bool := mtB P (s.take k)
theorem tab_iff (P : List (List UInt8)) (s : List UInt8) (k : Nat) : tab P s k = true ↔ mt P (s.take k) := mtB_iff _ _
theorem tab_nil (s : List UInt8) (k : Nat) (hk : k ≤ s.length) : tab [] s k = decide (k = 0) := by
  rw [Bool.eq_iff_iff, tab_iff, WireM.mt, decide_eq_true_eq]
  constructor
  · intro h
    have := congrArg List.length h
    rw [List.length_take, List.length_nil] at this
    omega
  · rintro rfl; rfl
theorem tab_star (P : List (List UInt8)) (s : List UInt8) (k : Nat) (hk : k ≤ s.length) : tab (P ++ [WireM.star]) s k = true ↔ ∃ j, j ≤ k ∧ tab P s j = true := by
  rw [tab_iff, mt_append]
  constructor
  · rintro ⟨j, hj, h1, _⟩
    rw [List.length_take] at hj
    rw [List.take_take, Nat.min_eq_left (by omega)] at h1
    exact ⟨j, by omega, (tab_iff _ _ _).2 h1⟩
  · rintro ⟨j, hj, h1⟩
    refine ⟨j, by rw [List.length_take]; omega, ?_, ?_⟩
    · rw [List.take_take, Nat.min_eq_left (by omega)]; exact (tab_iff _ _ _).1 h1
    · exact (mt_star _ _).2 ⟨((s.take k).drop j).length, Nat.le_refl _, by rw [List.drop_length, WireM.mt]⟩
theorem tab_star_zero (P : List (List UInt8)) (s : List UInt8) : tab (P ++ [WireM.star]) s 0 = tab P s 0 := by
  rw [Bool.eq_iff_iff, tab_star P s 0 (Nat.zero_le _)]
  constructor
  · rintro ⟨j, hj, h⟩
    obtain rfl : j = 0 := by omega
    exact h
  · intro h; exact ⟨0, Nat.le_refl _, h⟩
theorem tab_star_succ (P : List (List UInt8)) (s : List UInt8) (k : Nat) (hk : k < s.length) : tab (P ++ [WireM.star]) s (k + 1) = (tab P s (k + 1) || tab (P ++ [WireM.star]) s k) := by
  rw [Bool.eq_iff_iff, Bool.or_eq_true, tab_star P s (k + 1) (by omega), tab_star P s k (by omega)]
  constructor
  · rintro ⟨j, hj, h⟩
    by_cases e : j = k + 1
    · subst e; exact .inl h
    · exact .inr ⟨j, by omega, h⟩
  · rintro (h | ⟨j, hj, h⟩)
    · exact ⟨k + 1, Nat.le_refl _, h⟩
    · exact ⟨j, by omega, h⟩
theorem mt_single {p : List UInt8} (hp : p ≠ WireM.star) (v : List UInt8) : mt [p] v ↔ ∃ c, v = [c] ∧ fit p c = true := by
  cases v with
  | nil =>
    constructor
    · intro h; exact absurd h (mt_one_nil hp _)
    · rintro ⟨c, h, _⟩; cases h
  | cons c r =>
    rw [mt_one hp, WireM.mt]
    constructor
    · rintro ⟨h1, rfl⟩; exact ⟨c, rfl, h1⟩
    · rintro ⟨d, h, h1⟩
      injection h with e1 e2
      subst e1; subst e2
      exact ⟨h1, rfl⟩
theorem tab_one_zero (P : List (List UInt8)) (s : List UInt8) {p : List UInt8} (hp : p ≠ WireM.star) : tab (P ++ [p]) s 0 = false := by
  rw [← Bool.not_eq_true, tab_iff, mt_append]
  rintro ⟨j, hj, _, h⟩
  obtain ⟨c, h, _⟩ := (mt_single hp _).1 h
  rw [List.take_zero, List.drop_nil] at h
  cases h
theorem tab_one_succ (P : List (List UInt8)) (s : List UInt8) {p : List UInt8} (hp : p ≠ WireM.star) (k : Nat) (hk : k < s.length) : tab (P ++ [p]) s (k + 1) = (tab P s k && fit p s[k]) := by
  rw [Bool.eq_iff_iff, Bool.and_eq_true, tab_iff, tab_iff, mt_append]
  have e : s.take (k + 1) = s.take k ++ [s[k]] := List.take_succ_eq_append_getElem hk
  have hl : (s.take k).length = k := by rw [List.length_take]; omega
  constructor
  · rintro ⟨j, hj, h1, h2⟩
    obtain ⟨c, h2, h3⟩ := (mt_single hp _).1 h2
    have h4 := congrArg List.length h2
    rw [List.length_drop, List.length_take, List.length_singleton] at h4
    obtain rfl : j = k := by omega
    rw [List.take_take, Nat.min_eq_left (by omega)] at h1
    rw [e, List.drop_append_of_le_length (by omega), List.drop_of_length_le (by omega)] at h2
    simp at h2
    exact ⟨h1, by rw [h2]; exact h3⟩
  · rintro ⟨h1, h2⟩
    refine ⟨k, by rw [List.length_take]; omega, by rw [List.take_take, Nat.min_eq_left (by omega)]; exact h1, (mt_single hp _).2 ⟨s[k], ?_, h2⟩⟩
    rw [e, List.drop_append_of_le_length (by omega), List.drop_of_length_le (by omega), List.nil_append]
theorem tab_pat (p s : List UInt8) : tab (parts p) s s.length = patB p s := by
  unfold tab patB; rw [List.take_length]

theorem data_at (p : ByteArray) (k : Nat) (h : k < p.size) : p.data.toList[k]? = some p[k] := by
  have := drop_cons p k h
  have h2 : (p.data.toList.drop k)[0]? = p.data.toList[k]? := by rw [List.getElem?_drop]; rfl
  rw [← h2, this]; rfl
theorem lt_of_data (p : ByteArray) (k : Nat) (c : UInt8) (h : p.data.toList[k]? = some c) : ∃ h : k < p.size, p[k] = c := by
  have hk : k < p.size := by
    rcases Nat.lt_or_ge k p.data.toList.length with h' | h'
    · simpa using h'
    · rw [List.getElem?_eq_none h'] at h; cases h
  refine ⟨hk, ?_⟩
  rw [data_at p k hk] at h
  exact Option.some.inj h
theorem closing_at (p : ByteArray) (f j : Nat) (hf : f < j) (hj : j < p.size) (h93 : p[j].toNat = 93) (hno : ∀ (i : Nat) (hi : i < p.size), f < i → i < j → p[i].toNat ≠ 93) : i93 (p.data.toList.drop (f + 1)) = ((j - (f + 1) : Nat) : Int) := by
  have e93 : p[j] = 93 := UInt8.toNat_inj.1 h93
  have hat : (p.data.toList.drop (f + 1))[j - (f + 1)]? = some 93 := by
    rw [List.getElem?_drop, show f + 1 + (j - (f + 1)) = j by omega, data_at p j hj, e93]
  have hge := Lib.indexByte_ge (p.data.toList.drop (f + 1)) 93
  unfold i93
  rcases Int.lt_or_le (Lib.indexByte (p.data.toList.drop (f + 1)) 93) 0 with h | h
  · exact absurd hat (Lib.indexByte_none (by omega) _)
  · obtain ⟨o, ho⟩ : ∃ o : Nat, Lib.indexByte (p.data.toList.drop (f + 1)) 93 = o := ⟨_, (Int.toNat_of_nonneg h).symm⟩
    obtain ⟨h1, h2⟩ := Lib.indexByte_some ho
    rw [ho]
    rcases Nat.lt_trichotomy o (j - (f + 1)) with h3 | h3 | h3
    · exfalso
      rw [List.getElem?_drop] at h1
      obtain ⟨hk, hc⟩ := lt_of_data p _ _ h1
      exact hno (f + 1 + o) hk (by omega) (by omega) (by rw [hc]; rfl)
    · rw [h3]
    · exact absurd hat (h2 _ h3)
theorem closing_none (p : ByteArray) (f : Nat) (hno : ∀ (i : Nat) (hi : i < p.size), f < i → p[i].toNat ≠ 93) : ¬ 0 ≤ i93 (p.data.toList.drop (f + 1)) := by
  intro h
  unfold i93 at h
  obtain ⟨o, ho⟩ : ∃ o : Nat, Lib.indexByte (p.data.toList.drop (f + 1)) 93 = o := ⟨_, (Int.toNat_of_nonneg h).symm⟩
  obtain ⟨h1, h2⟩ := Lib.indexByte_some ho
  rw [List.getElem?_drop] at h1
  obtain ⟨hk, hc⟩ := lt_of_data p _ _ h1
  exact hno (f + 1 + o) hk (by omega) (by rw [hc]; rfl)
theorem cls_set (l : List UInt8) (n : Nat) (h3 : 3 ≤ n) (hl : n ≤ l.length) : setOf (l.take n) = (l.drop 1).take (n - 2) := by
  unfold setOf
  rw [List.length_take, Nat.min_eq_left hl, List.take_take, Nat.min_eq_left (by omega), List.drop_take, show n - 1 - 1 = n - 2 by omega]
/-- What a part's five fields are. -/
structure PartIs (p : ByteArray) (k n : Nat) (kind : Nat) (b : UInt8) (set : ByteArray) (no : Bool) : Prop where
  len : partLen (p.data.toList.drop k) = n
  kind : kindOf (p.extract k (k + n)).data.toList = kind
  byte : byteOf (p.extract k (k + n)).data.toList = b
  set : bs (setP (p.extract k (k + n)).data.toList) = set
  no : notP (p.extract k (k + n)).data.toList = no
theorem ext_take (p : ByteArray) (k n : Nat) : (p.extract k (k + n)).data.toList = (p.data.toList.drop k).take n := by
  rw [Lib.extract_data, show k + n - k = n by omega]
theorem part_bs (p : ByteArray) (k : Nat) (h : k + 1 < p.size) (h92 : p[k].toNat = 92) : PartIs p k 2 0 p[k + 1] ⟨#[]⟩ false := by
  have e92 : p[k] = 92 := UInt8.toNat_inj.1 h92
  have ed : p.data.toList.drop k = 92 :: p[k + 1] :: p.data.toList.drop (k + 2) := by
    rw [drop_cons p k (by omega), drop_cons p (k + 1) h, e92]
  have et : (p.extract k (k + 2)).data.toList = [92, p[k + 1]] := by rw [ext_take, ed]; rfl
  refine ⟨by rw [ed]; exact partLen_bs _ _, ?_, ?_, ?_, ?_⟩
  · rw [et]; unfold kindOf; simp
  · rw [et]; rfl
  · rw [et]; rfl
  · rw [et]; rfl
theorem part_single (p : ByteArray) (k : Nat) (h : k < p.size) (hl : partLen (p.data.toList.drop k) = 1) (kind : Nat) (hk : kind = if p[k].toNat = 42 then 1 else if p[k].toNat = 63 then 2 else 0) : PartIs p k 1 kind p[k] ⟨#[]⟩ false := by
  have et : (p.extract k (k + 1)).data.toList = [p[k]] := by rw [ext_take, drop_cons p k h]; rfl
  refine ⟨hl, ?_, by rw [et]; rfl, by rw [et]; rfl, by rw [et]; rfl⟩
  rw [et, hk]
  have e1 : ([p[k]] = [42]) ↔ p[k].toNat = 42 := by
    constructor
    · intro h; injection h with h; rw [h]; rfl
    · intro h; rw [UInt8.toNat_inj.1 (show p[k].toNat = (42 : UInt8).toNat from h)]
  have e2 : ([p[k]] = [63]) ↔ p[k].toNat = 63 := by
    constructor
    · intro h; injection h with h; rw [h]; rfl
    · intro h; rw [UInt8.toNat_inj.1 (show p[k].toNat = (63 : UInt8).toNat from h)]
  unfold kindOf
  rw [if_neg (by simp)]
  by_cases h1 : p[k].toNat = 42
  · rw [if_pos (e1.2 h1), if_pos h1]
  · rw [if_neg (fun h => h1 (e1.1 h)), if_neg h1]
    by_cases h2 : p[k].toNat = 63
    · rw [if_pos (e2.2 h2), if_pos h2]
    · rw [if_neg (fun h => h2 (e2.1 h)), if_neg h2]
theorem part_len_91 (p : ByteArray) (k : Nat) (h : k < p.size) (h91 : p[k].toNat = 91) : partLen (p.data.toList.drop k) = if 0 ≤ i93 (p.data.toList.drop (k + 2)) then clsLen (p.data.toList.drop k) else 1 := by
  have e91 : p[k] = 91 := UInt8.toNat_inj.1 h91
  rw [drop_cons p k h, partLen, if_neg (by omega), List.drop_drop]
  by_cases h0 : 0 ≤ i93 (p.data.toList.drop (k + 1 + 1))
  · rw [if_pos ⟨h91, h0⟩, if_pos h0]
  · rw [if_neg (fun h => h0 h.2), if_neg h0]
/-- A class with an exclamation mark at its start and a closing bracket behind at least one byte more. -/
theorem part_not (p : ByteArray) (k j : Nat) (h1 : k + 1 < p.size) (h91 : p[k].toNat = 91) (h33 : p[k + 1].toNat = 33) (hf : k + 2 < j) (hj : j < p.size) (h93 : p[j].toNat = 93) (hno : ∀ (i : Nat) (hi : i < p.size), k + 2 < i → i < j → p[i].toNat ≠ 93) :
    PartIs p k (j + 1 - k) 3 0 (p.extract (k + 2) j) true := by
  have e3 := closing_at p (k + 2) j hf hj h93 hno
  have h2 : 0 ≤ i93 (p.data.toList.drop (k + 2)) := by
    rcases Int.lt_or_le (i93 (p.data.toList.drop (k + 2))) 0 with h | h
    · exfalso
      have hge := Lib.indexByte_ge (p.data.toList.drop (k + 2)) 93
      unfold i93 at h
      have := Lib.indexByte_none (l := p.data.toList.drop (k + 2)) (c := 93) (by omega) (j - (k + 2))
      rw [List.getElem?_drop, show k + 2 + (j - (k + 2)) = j by omega, data_at p j hj, UInt8.toNat_inj.1 (show p[j].toNat = (93 : UInt8).toNat from h93)] at this
      exact this rfl
    · exact h
  have hd1 : (p.data.toList.drop k).drop 1 = p[k + 1] :: p.data.toList.drop (k + 2) := by rw [List.drop_drop, drop_cons p (k + 1) h1]
  have e33 : p[k + 1] = 33 := UInt8.toNat_inj.1 h33
  have hlen : clsLen (p.data.toList.drop k) = j + 1 - k := by
    unfold clsLen
    rw [hd1, List.drop_drop, show k + 3 = k + 2 + 1 from rfl, e3, if_pos ⟨by rw [e33]; rfl, by omega⟩]
    omega
  have hn : partLen (p.data.toList.drop k) = j + 1 - k := by rw [part_len_91 p k (by omega) h91, if_pos h2, hlen]
  have hsz : (p.data.toList.drop k).length = p.size - k := by rw [List.length_drop]; simp
  have et := ext_take p k (j + 1 - k)
  have hset : setOf (p.extract k (k + (j + 1 - k))).data.toList = 33 :: (p.extract (k + 2) j).data.toList := by
    rw [et, cls_set _ _ (by omega) (by omega), hd1, e33, show j + 1 - k - 2 = (j - (k + 2)) + 1 by omega, List.take_succ_cons, Lib.extract_data]
  have htl : (p.extract k (k + (j + 1 - k))).data.toList.length = j + 1 - k := by rw [et, List.length_take]; omega
  have hxl : (p.extract (k + 2) j).data.toList.length = j - (k + 2) := by rw [Lib.extract_data, List.length_take, List.length_drop]; simp; omega
  have hnot : clsNot (p.extract k (k + (j + 1 - k))).data.toList = true := by
    unfold clsNot; rw [hset]; simp only [List.length_cons, hxl, List.head?_cons, Option.map_some]
    simp; omega
  refine ⟨hn, ?_, ?_, ?_, ?_⟩
  · unfold kindOf; rw [if_pos (by omega)]
  · unfold byteOf; rw [if_pos (by omega)]
  · unfold setP; rw [if_pos (by omega), if_pos hnot, hset]; rfl
  · unfold notP; rw [hnot]; simp; omega
/-- Any other class. -/
theorem part_cls (p : ByteArray) (k j : Nat) (h91 : (p[k]?.map (·.toNat)) = some 91) (hf : k + 1 < j) (hj : j < p.size) (h93 : p[j].toNat = 93) (hno : ∀ (i : Nat) (hi : i < p.size), k + 1 < i → i < j → p[i].toNat ≠ 93)
    (hx : (∃ h : k + 1 < p.size, p[k + 1].toNat = 33) → ∀ (i : Nat) (hi : i < p.size), k + 2 < i → p[i].toNat ≠ 93) :
    PartIs p k (j + 1 - k) 3 0 (p.extract (k + 1) j) false := by
  have h91 : (p[k]'(by omega)).toNat = 91 := by
    rw [getElem?_pos p k (by omega)] at h91; simpa using h91
  have e2 := closing_at p (k + 1) j hf hj h93 hno
  have hd1 : (p.data.toList.drop k).drop 1 = p[k + 1] :: p.data.toList.drop (k + 2) := by rw [List.drop_drop, drop_cons p (k + 1) (by omega)]
  have hno3 : p[k + 1].toNat = 33 → ¬ 0 ≤ i93 (p.data.toList.drop (k + 3)) := fun h => closing_none p (k + 2) (hx ⟨by omega, h⟩)
  have hj2 : p[k + 1].toNat = 33 → j = k + 2 := fun h => by
    rcases Nat.lt_or_ge (k + 2) j with h' | h'
    · exact absurd h93 (hx ⟨by omega, h⟩ j hj h')
    · omega
  have hlen : clsLen (p.data.toList.drop k) = j + 1 - k := by
    unfold clsLen
    rw [hd1, List.drop_drop, List.drop_drop, show k + 2 = k + 1 + 1 from rfl, e2, if_neg]
    · omega
    · rintro ⟨a, b⟩
      refine hno3 ?_ b
      have := Option.some.inj a
      rw [this]; rfl
  have hn : partLen (p.data.toList.drop k) = j + 1 - k := by rw [part_len_91 p k (by omega) h91, if_pos (by rw [show k + 2 = k + 1 + 1 from rfl, e2]; omega), hlen]
  have hsz : (p.data.toList.drop k).length = p.size - k := by rw [List.length_drop]; simp
  have et := ext_take p k (j + 1 - k)
  have hset : setOf (p.extract k (k + (j + 1 - k))).data.toList = (p.extract (k + 1) j).data.toList := by
    rw [et, cls_set _ _ (by omega) (by omega), List.drop_drop, show j + 1 - k - 2 = j - (k + 1) by omega, Lib.extract_data]
  have htl : (p.extract k (k + (j + 1 - k))).data.toList.length = j + 1 - k := by rw [et, List.length_take]; omega
  have hxl : (p.extract (k + 1) j).data.toList.length = j - (k + 1) := by rw [Lib.extract_data, List.length_take, List.length_drop]; simp; omega
  have hxh : (p.extract (k + 1) j).data.toList.head? = some p[k + 1] := by
    rw [Lib.extract_data, drop_cons p (k + 1) (by omega), show j - (k + 1) = (j - (k + 2)) + 1 by omega, List.take_succ_cons]; rfl
  have hnot : clsNot (p.extract k (k + (j + 1 - k))).data.toList = false := by
    unfold clsNot; rw [hset, hxh, hxl]
    by_cases h33 : p[k + 1].toNat = 33
    · have := hj2 h33
      subst this
      simp
    · simp [h33]
  refine ⟨hn, ?_, ?_, ?_, ?_⟩
  · unfold kindOf; rw [if_pos (by omega)]
  · unfold byteOf; rw [if_pos (by omega)]
  · unfold setP; rw [if_pos (by omega), if_neg (by rw [hnot]; decide), hset]; rfl
  · unfold notP; rw [hnot]; simp
/-- No class stands there. -/
theorem part_open (p : ByteArray) (k : Nat) (h : k < p.size) (h91 : p[k].toNat = 91) (hno : ∀ (i : Nat) (hi : i < p.size), k + 1 < i → p[i].toNat ≠ 93) : PartIs p k 1 0 p[k] ⟨#[]⟩ false :=
  part_single p k h (by rw [part_len_91 p k h h91, if_neg (closing_none p (k + 1) hno)]) 0 (by rw [if_neg (by omega), if_neg (by omega)])
theorem part_other (p : ByteArray) (k : Nat) (h : k < p.size) (h91 : p[k].toNat ≠ 91) (h92 : ¬ (p[k].toNat = 92 ∧ k + 1 < p.size)) (kind : Nat) (hk : kind = if p[k].toNat = 42 then 1 else if p[k].toNat = 63 then 2 else 0) : PartIs p k 1 kind p[k] ⟨#[]⟩ false := by
  refine part_single p k h ?_ kind hk
  rw [drop_cons p k h, partLen, if_neg, if_neg]
  · rintro ⟨a, _⟩; exact h91 a
  · rintro ⟨a, b⟩
    refine h92 ⟨a, ?_⟩
    rcases Nat.lt_or_ge (k + 1) p.size with h' | h'
    · exact h'
    · exact absurd (List.drop_of_length_le (by simpa using h')) b
/-- The cells of a part. -/
def partCells (t : List UInt8) : List Value := [.int .i64 (kindOf t), .int .u8 (byteOf t).toNat, .string (bs (setP t)), .bool (notP t), .string (bs t)]
theorem PartIs.cells {p : ByteArray} {k n kind : Nat} {b : UInt8} {set : ByteArray} {no : Bool} (h : PartIs p k n kind b set no) : partCells (p.extract k (k + n)).data.toList = [.int .i64 kind, .int .u8 b.toNat, .string set, .bool no, .string (p.extract k (k + n))] := by
  unfold partCells
  rw [h.kind, h.byte, h.set, h.no]; rfl
def rowCells (L : List (List UInt8)) : List Value := L.flatMap partCells
theorem rowCells_len (L : List (List UInt8)) : (rowCells L).length = L.length * 5 := by
  induction L with
  | nil => rfl
  | cons t L ih => unfold rowCells at *; rw [List.flatMap_cons, List.length_append, ih, List.length_cons]; show 5 + _ = _; omega
theorem rowCells_at (L : List (List UInt8)) (k i : Nat) (h : k < L.length) (hi : i < 5) : (rowCells L)[k * 5 + i]? = (partCells (L.getD k []))[i]? := by
  induction L generalizing k with
  | nil => simp at h
  | cons t L ih =>
    have e : rowCells (t :: L) = partCells t ++ rowCells L := by simp [rowCells]
    have hl : (partCells t).length = 5 := rfl
    rw [e]
    cases k with
    | zero =>
      rw [Nat.zero_mul, Nat.zero_add, List.getElem?_append_left (by omega)]; rfl
    | succ k =>
      rw [List.getElem?_append_right (by omega), hl, show (k + 1) * 5 + i - 5 = k * 5 + i by omega, ih k (by simpa using h)]
      simp [List.getD]
end Go.Proofs.YteccccpjhpbebaaGreatDoor
