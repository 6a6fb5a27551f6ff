/-
  THE WIRE ENCODING, PLAIN MATHEMATICS: reading inverts writing, and what is read has exactly the bytes that were read (no program in this text).
-/
import Derived.Test.YteccccpjhpbebaaGreatDoorMa
namespace Go.Proofs.YteccccpjhpbebaaGreatDoor.WireM
open Go
set_option linter.unusedVariables false
set_option linter.unusedSimpArgs false

theorem dd_small {u : Nat} (h : u < 10) : Lib.decDigits u = [UInt8.ofNat (48 + u)] := by rw [Lib.decDigits, dif_pos h]
theorem dd_big {u : Nat} (h : ¬ u < 10) : Lib.decDigits u = Lib.decDigits (u / 10) ++ [UInt8.ofNat (48 + u % 10)] := by rw [Lib.decDigits, dif_neg h]
theorem ofNat_toNat {k : Nat} (h : k < 256) : (UInt8.ofNat k).toNat = k := by rw [UInt8.toNat_ofNat']; omega
theorem dd_push (m : Nat) (c : UInt8) (hm : m ≠ 0) (h1 : 48 ≤ c.toNat) (h2 : c.toNat ≤ 57) : Lib.decDigits (m * 10 + (c.toNat - 48)) = Lib.decDigits m ++ [c] := by
  rw [dd_big (by omega), show (m * 10 + (c.toNat - 48)) / 10 = m by omega, show (m * 10 + (c.toNat - 48)) % 10 = c.toNat - 48 by omega, show 48 + (c.toNat - 48) = c.toNat by omega]
  congr 2
  exact UInt8.toNat_inj.1 (ofNat_toNat (by omega))
theorem dd_one (c : UInt8) (h1 : 48 ≤ c.toNat) (h2 : c.toNat ≤ 57) : Lib.decDigits (c.toNat - 48) = [c] := by
  rw [dd_small (by omega), show 48 + (c.toNat - 48) = c.toNat by omega]
  congr 1
  exact UInt8.toNat_inj.1 (ofNat_toNat (by omega))

theorem scan_canon_on {lim : Nat} {e : UInt8} {n : Nat} {t : List UInt8} : ∀ {L : List UInt8} {m : Nat}, scan lim e true m L = some (n, t) → ∃ ds, Lib.decDigits n = Lib.decDigits m ++ ds ∧ L = ds ++ e :: t
  | [], m, h => by simp [scan] at h
  | c :: r, m, h => by
    rw [scan] at h
    split at h
    · rename_i h1
      simp only [Option.some.injEq, Prod.mk.injEq] at h
      obtain ⟨rfl, rfl⟩ := h
      exact ⟨[], by simp, by simp [h1.1]⟩
    · split at h
      · simp at h
      · rename_i h2
        split at h
        · simp at h
        · rename_i h3
          split at h
          · simp at h
          · obtain ⟨ds, h4, h5⟩ := scan_canon_on h
            refine ⟨c :: ds, ?_, by simp [h5]⟩
            rw [h4, dd_push m c (by simpa using h3) (by omega) (by omega)]
            simp
theorem scan_canon {lim : Nat} {e : UInt8} {n : Nat} {L t : List UInt8} (h : scan lim e false 0 L = some (n, t)) : L = Lib.decDigits n ++ e :: t := by
  match L, h with
  | [], h => simp [scan] at h
  | c :: r, h =>
    rw [scan] at h
    rw [if_neg (by simp)] at h
    split at h
    · simp at h
    · rename_i h2
      rw [if_neg (by simp)] at h
      split at h
      · simp at h
      · obtain ⟨ds, h4, h5⟩ := scan_canon_on h
        rw [Nat.zero_mul, Nat.zero_add, dd_one c (by omega) (by omega)] at h4
        rw [h4, h5]
        simp

theorem scan_through (lim : Nat) (e : UInt8) (he : e.toNat < 48 ∨ 57 < e.toNat) (X : List UInt8) (n : Nat) (hn : n ≤ lim) : scan lim e false 0 (Lib.decDigits n ++ X) = scan lim e true n X := by
  induction n using Nat.strongRecOn generalizing X with
  | _ n ih =>
    by_cases h : n < 10
    · rw [dd_small h, List.singleton_append, scan]
      have hc : (UInt8.ofNat (48 + n)).toNat = 48 + n := ofNat_toNat (by omega)
      rw [if_neg (by simp), if_neg (by omega), if_neg (by simp), if_neg (by omega), hc]
      congr 1
      omega
    · rw [dd_big h, List.append_assoc, ih (n / 10) (by omega) _ (by omega), List.singleton_append, scan]
      have hc : (UInt8.ofNat (48 + n % 10)).toNat = 48 + n % 10 := ofNat_toNat (by omega)
      rw [if_neg (fun ⟨a, _⟩ => by rw [a] at hc; omega), if_neg (by omega), if_neg (fun ⟨_, a⟩ => by omega), if_neg (by omega), hc]
      congr 1
      omega
theorem scan_read (lim : Nat) (e : UInt8) (he : e.toNat < 48 ∨ 57 < e.toNat) (t : List UInt8) (n : Nat) (hn : n ≤ lim) : scan lim e false 0 (Lib.decDigits n ++ e :: t) = some (n, t) := by
  rw [scan_through lim e he _ n hn, scan, if_pos (by simp)]

theorem dd_head (n : Nat) : ∃ c r, Lib.decDigits n = c :: r ∧ 48 ≤ c.toNat ∧ c.toNat ≤ 57 := by
  induction n using Nat.strongRecOn with
  | _ n ih =>
    by_cases h : n < 10
    · exact ⟨_, [], dd_small h, by rw [ofNat_toNat (by omega)]; omega, by rw [ofNat_toNat (by omega)]; omega⟩
    · obtain ⟨c, r, h1, h2⟩ := ih (n / 10) (by omega)
      exact ⟨c, r ++ [UInt8.ofNat (48 + n % 10)], by rw [dd_big h, h1]; rfl, h2⟩
theorem itoa_nat (n : Nat) : Lib.itoa (n : Int) = Lib.decDigits n := by
  unfold Lib.itoa; rw [if_neg (by omega)]; simp
theorem itoa_negs (n : Nat) (h : n ≠ 0) : Lib.itoa (-(n : Int)) = 45 :: Lib.decDigits n := by
  unfold Lib.itoa; rw [if_pos (by omega)]; simp

theorem rdNum_read (n : Nat) (t : List UInt8) (h : n ≤ 9223372036854775807) : rdNum (encInt n ++ t) = some ((n : Int), t) := by
  have : dgMax 59 (encInt n ++ t) = some (n, t) := by
    rw [encInt, itoa_nat, List.append_assoc]
    exact scan_read _ 59 (by decide) t n h
  simp [rdNum, this]
theorem rdInt_read (n : Int) (t : List UInt8) (h0 : -9223372036854775808 ≤ n) (h1 : n ≤ 9223372036854775807) : rdInt (encInt n ++ t) = some (n, t) := by
  by_cases hn : n < 0
  · obtain ⟨m, rfl⟩ : ∃ m : Nat, n = -(m : Int) := ⟨n.natAbs, by omega⟩
    have : dgMin (Lib.decDigits m ++ 59 :: t) = some (m, t) := scan_read _ 59 (by decide) t m (by omega)
    rw [encInt, itoa_negs m (by omega), List.append_assoc]
    show rdInt (45 :: (Lib.decDigits m ++ 59 :: t)) = _
    rw [rdInt, if_pos rfl, this]
    show (if m = 0 then none else some (-(m : Int), t)) = _
    rw [if_neg (by omega)]
  · obtain ⟨m, rfl⟩ : ∃ m : Nat, n = (m : Int) := ⟨n.toNat, by omega⟩
    obtain ⟨c, r, hd, hc, _⟩ := dd_head m
    have h := rdNum_read m t (by omega)
    have e : encInt (m : Int) ++ t = c :: (r ++ 59 :: t) := by rw [encInt, itoa_nat, hd]; simp
    rw [e] at h ⊢
    rw [rdInt, if_neg (fun a => by subst a; exact absurd hc (by decide)), h]
theorem rdText_read (s : ByteArray) (t : List UInt8) (h : s.size ≤ 9223372036854775807) : rdText (encText s.data.toList ++ t) = some (s, t) := by
  have hl : s.size = s.data.toList.length := by simp
  have : dgMax 58 (encText s.data.toList ++ t) = some (s.data.toList.length, s.data.toList ++ 44 :: t) := by
    have e : encText s.data.toList ++ t = Lib.decDigits s.data.toList.length ++ 58 :: (s.data.toList ++ 44 :: t) := by
      rw [encText, itoa_nat]; simp only [List.append_assoc, List.singleton_append, List.cons_append, List.nil_append]
    rw [e]
    exact scan_read _ 58 (by decide) _ _ (by omega)
  unfold rdText
  rw [this]
  show (if ((s.data.toList ++ 44 :: t).drop s.data.toList.length).head? = some 44 then some (bs ((s.data.toList ++ 44 :: t).take s.data.toList.length), (s.data.toList ++ 44 :: t).drop (s.data.toList.length + 1)) else none) = _
  rw [List.drop_left, List.head?_cons, if_pos rfl, List.take_left]
  rw [List.drop_append, List.drop_eq_nil_of_le (by omega), show s.data.toList.length + 1 - s.data.toList.length = 1 by omega]
  rfl
theorem rdMany_read {α : Type} {rd : List UInt8 → Option (α × List UInt8)} {enc : α → List UInt8} : ∀ (l : List α) (t : List UInt8), (∀ a ∈ l, ∀ t, rd (enc a ++ t) = some (a, t)) → rdMany rd l.length (l.flatMap enc ++ t) = some (l, t)
  | [], t, _ => rfl
  | a :: l, t, h => by
    rw [List.length_cons, rdMany, List.flatMap_cons, List.append_assoc, h a List.mem_cons_self]
    show Option.map _ (rdMany rd l.length (l.flatMap enc ++ t)) = _
    rw [rdMany_read l t fun b hb => h b (List.mem_cons_of_mem _ hb)]
    rfl
theorem rdList_read {α : Type} {rd : List UInt8 → Option (α × List UInt8)} {enc : α → List UInt8} (l : List α) (t : List UInt8) (hl : l.length ≤ 9223372036854775807) (h : ∀ a ∈ l, ∀ t, rd (enc a ++ t) = some (a, t)) : rdList rd (encList enc l ++ t) = some (l, t) := by
  have : dgMax 91 (encList enc l ++ t) = some (l.length, l.flatMap enc ++ 93 :: t) := by
    have e : encList enc l ++ t = Lib.decDigits l.length ++ 91 :: (l.flatMap enc ++ 93 :: t) := by
      rw [encList, itoa_nat]; simp only [List.append_assoc, List.singleton_append, List.cons_append, List.nil_append]
    rw [e]
    exact scan_read _ 91 (by decide) _ _ hl
  rw [rdList, this]
  show Option.bind (rdMany rd l.length (l.flatMap enc ++ 93 :: t)) rdClose = _
  rw [rdMany_read l _ h]
  rfl
theorem rdNums_read (l : List Int) (t : List UInt8) (hl : l.length ≤ 9223372036854775807) (h : ∀ z ∈ l, -9223372036854775808 ≤ z ∧ z ≤ 9223372036854775807) : rdNums (encNums l ++ t) = some (l, t) := by
  unfold rdNums encNums
  exact rdList_read (rd := rdInt) (enc := encInt) l t hl fun z hz t => rdInt_read z t (h z hz).1 (h z hz).2
theorem rdTexts_read (l : List ByteArray) (t : List UInt8) (hl : l.length ≤ 9223372036854775807) (h : ∀ s ∈ l, s.size ≤ 9223372036854775807) : rdTexts (encTexts l ++ t) = some (l, t) := by
  unfold rdTexts encTexts
  exact rdList_read (rd := rdText) (enc := fun s => encText s.data.toList) l t hl fun s hs t => rdText_read s t (h s hs)

/-! ### What is read has exactly the bytes that were read -/
theorem rdNum_canon {L t : List UInt8} {v : Int} (h : rdNum L = some (v, t)) : L = encInt v ++ t ∧ 0 ≤ v ∧ v ≤ 9223372036854775807 := by
  simp only [rdNum, Option.map_eq_some_iff] at h
  obtain ⟨⟨n, t'⟩, h1, h2⟩ := h
  simp only [Prod.mk.injEq] at h2
  obtain ⟨rfl, rfl⟩ := h2
  have := dgMax_le h1
  refine ⟨?_, by omega, by omega⟩
  rw [scan_canon h1, encInt, itoa_nat]
  simp
theorem rdInt_canon {L t : List UInt8} {v : Int} (h : rdInt L = some (v, t)) : L = encInt v ++ t ∧ -9223372036854775808 ≤ v ∧ v ≤ 9223372036854775807 := by
  unfold rdInt at h
  split at h
  · simp at h
  · rename_i c r
    split at h
    · rename_i hc
      simp only [Option.bind_eq_some_iff] at h
      obtain ⟨⟨n, t'⟩, h1, h2⟩ := h
      split at h2
      · simp at h2
      · rename_i hn
        simp only [Option.some.injEq, Prod.mk.injEq] at h2
        obtain ⟨rfl, rfl⟩ := h2
        have := dgMin_le h1
        refine ⟨?_, by omega, by omega⟩
        rw [scan_canon h1, encInt, itoa_negs n hn, hc]
        simp
    · have := rdNum_canon h
      exact ⟨this.1, by omega, this.2.2⟩
theorem rdText_canon {L t : List UInt8} {v : ByteArray} (h : rdText L = some (v, t)) : L = encText v.data.toList ++ t := by
  simp only [rdText, Option.bind_eq_some_iff] at h
  obtain ⟨⟨n, t'⟩, h1, h2⟩ := h
  split at h2
  · rename_i hh
    simp only [Option.some.injEq, Prod.mk.injEq] at h2
    obtain ⟨rfl, rfl⟩ := h2
    simp only at hh
    have hlt : n < t'.length := by
      rcases Nat.lt_or_ge n t'.length with h | h
      · exact h
      · rw [List.drop_eq_nil_of_le h] at hh; simp at hh
    have e : t' = t'.take n ++ 44 :: t'.drop (n + 1) := by
      have e2 : t'.drop n = 44 :: t'.drop (n + 1) := by
        rw [List.drop_eq_getElem_cons hlt] at hh ⊢
        simp only [List.head?_cons, Option.some.injEq] at hh
        rw [hh]
      rw [← e2, List.take_append_drop]
    rw [scan_canon h1, bs_data, encText, itoa_nat, List.length_take, Nat.min_eq_left (by omega)]
    simp only [List.append_assoc, List.singleton_append, List.cons_append, List.nil_append]
    rw [← e]
  · simp at h2
theorem rdMany_canon {α : Type} {rd : List UInt8 → Option (α × List UInt8)} {enc : α → List UInt8} (hc : ∀ L v t, rd L = some (v, t) → L = enc v ++ t) : ∀ (n : Nat) {L t : List UInt8} {l : List α}, rdMany rd n L = some (l, t) → l.length = n ∧ L = l.flatMap enc ++ t
  | 0, L, t, l, h => by simp only [rdMany, Option.some.injEq, Prod.mk.injEq] at h; obtain ⟨rfl, rfl⟩ := h; exact ⟨rfl, rfl⟩
  | n + 1, L, t, l, h => by
    simp only [rdMany, Option.bind_eq_some_iff, Option.map_eq_some_iff] at h
    obtain ⟨⟨v, t1⟩, h1, ⟨l2, t2⟩, h2, h3⟩ := h
    simp only [Prod.mk.injEq] at h3
    obtain ⟨rfl, rfl⟩ := h3
    obtain ⟨h4, h5⟩ := rdMany_canon hc n h2
    refine ⟨by simp [h4], ?_⟩
    rw [hc _ _ _ h1]
    simp only at h5
    rw [h5]
    simp
theorem rdList_canon {α : Type} {rd : List UInt8 → Option (α × List UInt8)} {enc : α → List UInt8} (hc : ∀ L v t, rd L = some (v, t) → L = enc v ++ t) {L t : List UInt8} {l : List α} (h : rdList rd L = some (l, t)) : L = encList enc l ++ t := by
  simp only [rdList, Option.bind_eq_some_iff] at h
  obtain ⟨⟨n, t1⟩, h1, ⟨l2, t2⟩, h2, h3⟩ := h
  unfold rdClose at h3
  split at h3
  · rename_i hh
    simp only [Option.some.injEq, Prod.mk.injEq] at h3
    obtain ⟨rfl, rfl⟩ := h3
    obtain ⟨h4, h5⟩ := rdMany_canon hc _ h2
    simp only at h4 h5 hh
    have e : t2 = 93 :: t2.tail := by
      cases t2 with
      | nil => simp at hh
      | cons a r => simp at hh; simp [hh]
    rw [scan_canon h1, h5, encList, itoa_nat, h4]
    simp only [List.append_assoc, List.singleton_append, List.cons_append, List.nil_append]
    rw [← e]
  · simp at h3
theorem rdNums_canon {L t : List UInt8} {l : List Int} (h : rdNums L = some (l, t)) : L = encNums l ++ t := by
  unfold rdNums at h
  unfold encNums
  exact rdList_canon (rd := rdInt) (enc := encInt) (fun _ _ _ h => (rdInt_canon h).1) h
theorem rdTexts_canon {L t : List UInt8} {l : List ByteArray} (h : rdTexts L = some (l, t)) : L = encTexts l ++ t := by
  unfold rdTexts at h
  unfold encTexts
  exact rdList_canon (rd := rdText) (enc := fun s => encText s.data.toList) (fun _ _ _ h => rdText_canon h) h
theorem rdMany_all {α : Type} {rd : List UInt8 → Option (α × List UInt8)} {p : α → Prop} (hc : ∀ L v t, rd L = some (v, t) → p v) : ∀ (n : Nat) {L t : List UInt8} {l : List α}, rdMany rd n L = some (l, t) → ∀ a ∈ l, p a
  | 0, L, t, l, h => by simp only [rdMany, Option.some.injEq, Prod.mk.injEq] at h; obtain ⟨rfl, rfl⟩ := h; simp
  | n + 1, L, t, l, h => by
    simp only [rdMany, Option.bind_eq_some_iff, Option.map_eq_some_iff] at h
    obtain ⟨⟨v, t1⟩, h1, ⟨l2, t2⟩, h2, h3⟩ := h
    simp only [Prod.mk.injEq] at h3
    obtain ⟨rfl, rfl⟩ := h3
    intro a ha
    rcases List.mem_cons.1 ha with rfl | ha
    · exact hc _ _ _ h1
    · exact rdMany_all hc n h2 a ha
theorem rdList_all {α : Type} {rd : List UInt8 → Option (α × List UInt8)} {p : α → Prop} (hc : ∀ L v t, rd L = some (v, t) → p v) {L t : List UInt8} {l : List α} (h : rdList rd L = some (l, t)) : ∀ a ∈ l, p a := by
  simp only [rdList, Option.bind_eq_some_iff] at h
  obtain ⟨⟨n, t1⟩, h1, ⟨l2, t2⟩, h2, h3⟩ := h
  unfold rdClose at h3
  split at h3
  · simp only [Option.some.injEq, Prod.mk.injEq] at h3
    obtain ⟨rfl, rfl⟩ := h3
    exact rdMany_all hc _ h2
  · simp at h3
theorem rdNums_range {L t : List UInt8} {l : List Int} (h : rdNums L = some (l, t)) : ∀ z ∈ l, -9223372036854775808 ≤ z ∧ z ≤ 9223372036854775807 := by
  unfold rdNums at h
  exact rdList_all (rd := rdInt) (p := fun z => -9223372036854775808 ≤ z ∧ z ≤ 9223372036854775807) (fun _ _ _ h => (rdInt_canon h).2) h
end Go.Proofs.YteccccpjhpbebaaGreatDoor.WireM
