/-
  THE WIRE ENCODING AS PLAIN FUNCTIONS ON LISTS OF BYTES (no program in this text): the encodings, and what a reader makes of a string.
-/
import Derived.Lib.ItoaNum
import Derived.Lib.Strings
import Derived.Lib.AppendStr
import Derived.Lib.UnsafeStr
namespace Go.Proofs.YtdejajpmebgidaaDoor.WireM
open Go
set_option linter.unusedVariables false
set_option linter.unusedSimpArgs false

/-- A byte array out of a list, behind a name that simp does not open. -/
def bs (l : List UInt8) : ByteArray := ⟨l.toArray⟩
theorem bs_data (l : List UInt8) : (bs l).data.toList = l := rfl
theorem bs_size (l : List UInt8) : (bs l).size = l.length := rfl
theorem bs_of (s : ByteArray) : bs s.data.toList = s := rfl
theorem ext {a b : ByteArray} (h : a.data.toList = b.data.toList) : a = b := by
  cases a; cases b; congr 1; exact Array.toList_inj.1 h
theorem app_data (a b : ByteArray) : (a ++ b).data.toList = a.data.toList ++ b.data.toList := by
  simp [ByteArray.data_append]

theorem nDigits_low (u : Nat) (h : 1 ≤ u) : 10 ^ (Lib.nDigits u - 1) ≤ u := by
  induction u using Nat.strongRecOn with
  | _ u ih =>
    by_cases hs : u < 10
    · rw [Lib.nDigits_small hs]; simpa using h
    · rw [Lib.nDigits_big hs]
      have := ih (u / 10) (by omega) (by omega)
      have hp := Lib.nDigits_pos (u / 10)
      rw [show Lib.nDigits (u / 10) + 1 - 1 = (Lib.nDigits (u / 10) - 1) + 1 by omega, Nat.pow_succ]
      omega

def encInt (n : Int) : List UInt8 := Lib.itoa n ++ [59]
def encText (s : List UInt8) : List UInt8 := Lib.itoa s.length ++ [58] ++ s ++ [44]
def encList {α : Type} (f : α → List UInt8) (l : List α) : List UInt8 := Lib.itoa l.length ++ [91] ++ l.flatMap f ++ [93]
def encNums (l : List Int) : List UInt8 := encList encInt l
def encTexts (l : List ByteArray) : List UInt8 := encList (fun s => encText s.data.toList) l

theorem itoa_len (n : Int) (h0 : -9223372036854775808 ≤ n) (h1 : n ≤ 9223372036854775807) : (Lib.itoa n).length ≤ 20 ∧ 1 ≤ (Lib.itoa n).length := by
  have key : ∀ u : Nat, u ≤ 9223372036854775808 → Lib.nDigits u ≤ 19 := by
    intro u hu
    rcases Nat.eq_zero_or_pos u with rfl | hp
    · rw [Lib.nDigits_small (by omega)]; omega
    · rcases Nat.lt_or_ge u (10 ^ 19) with h | h
      · by_cases hs : Lib.nDigits u ≤ 19
        · exact hs
        · exfalso
          have := Lib.numDigits_eq u hp (by omega)
          have hlow : 10 ^ (Lib.nDigits u - 1) ≤ u := nDigits_low u hp
          have : 10 ^ 19 ≤ 10 ^ (Lib.nDigits u - 1) := Nat.pow_le_pow_right (by omega) (by omega)
          omega
      · exfalso; omega
  unfold Lib.itoa
  split
  · rw [List.length_cons, Lib.decDigits_length]
    have := key n.natAbs (by omega)
    omega
  · rw [Lib.decDigits_length]
    have := key n.toNat (by omega)
    have := Lib.nDigits_pos n.toNat
    omega

theorem encInt_len (n : Int) (h0 : -9223372036854775808 ≤ n) (h1 : n ≤ 9223372036854775807) : (encInt n).length ≤ 21 ∧ 2 ≤ (encInt n).length := by
  have := itoa_len n h0 h1
  unfold encInt
  simp
  omega

/-- What 'digits' makes of a string: 'i': is this not the first byte; 'n': the number so far; 'e': the byte that ends it. -/
def scan (lim : Nat) (e : UInt8) : Bool → Nat → List UInt8 → Option (Nat × List UInt8)
  | _, _, [] => none
  | i, n, c :: r =>
    if c = e ∧ i = true then some (n, r)
    else if c.toNat < 48 ∨ 57 < c.toNat then none
    else if i = true ∧ n = 0 then none
    else if lim < n * 10 + (c.toNat - 48) then none
    else scan lim e true (n * 10 + (c.toNat - 48)) r

theorem scan_hit (lim : Nat) (e c : UInt8) (k m : Nat) (r : List UInt8) (h : (c.toNat : Int) = e.toNat) (hk : 0 < k) : scan lim e (decide (0 < k)) m (c :: r) = some (m, r) := by
  have : c = e := UInt8.toNat_inj.1 (by omega)
  simp [scan, this, hk]
theorem scan_none (lim : Nat) (e c : UInt8) (k m : Nat) (r : List UInt8) (h : ¬ ((c.toNat : Int) = e.toNat ∧ 0 < k))
    (hb : c.toNat < 48 ∨ 57 < c.toNat ∨ (0 < k ∧ m = 0) ∨ lim < m * 10 + (c.toNat - 48)) : scan lim e (decide (0 < k)) m (c :: r) = none := by
  have h' : ¬ (c = e ∧ 0 < k) := fun ⟨a, b⟩ => h ⟨by rw [a], b⟩
  rw [scan]
  simp only [decide_eq_true_eq]
  rw [if_neg h']
  by_cases h1 : c.toNat < 48 ∨ 57 < c.toNat
  · rw [if_pos h1]
  · rw [if_neg h1]
    by_cases h2 : 0 < k ∧ m = 0
    · rw [if_pos h2]
    · rw [if_neg h2, if_pos (by omega)]
theorem scan_step (lim : Nat) (e c : UInt8) (k m : Nat) (r : List UInt8) (h : ¬ ((c.toNat : Int) = e.toNat ∧ 0 < k))
    (h1 : 48 ≤ c.toNat) (h2 : c.toNat ≤ 57) (h3 : ¬ (0 < k ∧ m = 0)) (h4 : m * 10 + (c.toNat - 48) ≤ lim) :
    scan lim e (decide (0 < k)) m (c :: r) = scan lim e (decide (0 < k + 1)) (m * 10 + (c.toNat - 48)) r := by
  have h' : ¬ (c = e ∧ 0 < k) := fun ⟨a, b⟩ => h ⟨by rw [a], b⟩
  rw [scan]
  simp only [decide_eq_true_eq]
  rw [if_neg h', if_neg (by omega), if_neg h3, if_neg (by omega)]
  simp
theorem scan_end (lim : Nat) (e : UInt8) (i : Bool) (m : Nat) : scan lim e i m [] = none := by rw [scan]

theorem drop_at (s : ByteArray) (k : Nat) (h : k < s.size) : s.data.toList.drop k = s[k] :: s.data.toList.drop (k + 1) := by
  rw [List.drop_eq_getElem_cons (by simpa using h)]
  rfl
theorem extract_end (s : ByteArray) (k : Nat) : s.extract k s.size = bs (s.data.toList.drop k) := by
  refine ext ?_
  rw [Lib.extract_data, bs_data, List.take_of_length_le]
  simp

theorem scan_le {lim : Nat} {e : UInt8} {n : Nat} {t : List UInt8} : ∀ {L : List UInt8} {i : Bool} {m : Nat}, scan lim e i m L = some (n, t) → m ≤ lim → n ≤ lim
  | [], i, m, h, _ => by simp [scan] at h
  | c :: r, i, m, h, hm => by
    rw [scan] at h
    split at h
    · simp only [Option.some.injEq, Prod.mk.injEq] at h; omega
    · split at h
      · simp at h
      · split at h
        · simp at h
        · split at h
          · simp at h
          · exact scan_le h (by omega)
theorem scan_len {lim : Nat} {e : UInt8} {n : Nat} {t : List UInt8} : ∀ {L : List UInt8} {i : Bool} {m : Nat}, scan lim e i m L = some (n, t) → t.length < L.length
  | [], i, m, h => by simp [scan] at h
  | c :: r, i, m, h => by
    rw [scan] at h
    split at h
    · simp only [Option.some.injEq, Prod.mk.injEq] at h; obtain ⟨_, rfl⟩ := h; simp
    · split at h
      · simp at h
      · split at h
        · simp at h
        · split at h
          · simp at h
          · have := scan_len h; simp; omega

/-- What is read at the beginning of a string: digits of an int that is not negative, and the byte e. -/
def dgMax (e : UInt8) (L : List UInt8) : Option (Nat × List UInt8) := scan 9223372036854775807 e false 0 L
def dgMin (L : List UInt8) : Option (Nat × List UInt8) := scan 9223372036854775808 59 false 0 L
theorem dgMax_le {e : UInt8} {L : List UInt8} {n : Nat} {t : List UInt8} (h : dgMax e L = some (n, t)) : n ≤ 9223372036854775807 := scan_le h (by omega)
theorem dgMin_le {L : List UInt8} {n : Nat} {t : List UInt8} (h : dgMin L = some (n, t)) : n ≤ 9223372036854775808 := scan_le h (by omega)
theorem dgMax_len {e : UInt8} {L : List UInt8} {n : Nat} {t : List UInt8} (h : dgMax e L = some (n, t)) : t.length < L.length := scan_len h
theorem dgMin_len {L : List UInt8} {n : Nat} {t : List UInt8} (h : dgMin L = some (n, t)) : t.length < L.length := scan_len h

/-- The readers: the value at the beginning of a string, and what follows it. -/
def rdNum (L : List UInt8) : Option (Int × List UInt8) := (dgMax 59 L).map fun p => ((p.1 : Int), p.2)
def rdInt (L : List UInt8) : Option (Int × List UInt8) :=
  match L with
  | [] => none
  | c :: r => if c = 45 then (dgMin r).bind fun p => if p.1 = 0 then none else some (-(p.1 : Int), p.2) else rdNum (c :: r)
def rdText (L : List UInt8) : Option (ByteArray × List UInt8) :=
  (dgMax 58 L).bind fun p => if (p.2.drop p.1).head? = some 44 then some (bs (p.2.take p.1), p.2.drop (p.1 + 1)) else none
def rdMany {α : Type} (rd : List UInt8 → Option (α × List UInt8)) : Nat → List UInt8 → Option (List α × List UInt8)
  | 0, L => some ([], L)
  | n + 1, L => (rd L).bind fun p => (rdMany rd n p.2).map fun q => (p.1 :: q.1, q.2)
def rdClose {α : Type} (q : List α × List UInt8) : Option (List α × List UInt8) := if q.2.head? = some 93 then some (q.1, q.2.tail) else none
def rdList {α : Type} (rd : List UInt8 → Option (α × List UInt8)) (L : List UInt8) : Option (List α × List UInt8) :=
  (dgMax 91 L).bind fun p => (rdMany rd p.1 p.2).bind rdClose
def rdNums := rdList rdInt
def rdTexts := rdList rdText
theorem rdNum_len {L t : List UInt8} {v : Int} (h : rdNum L = some (v, t)) : t.length < L.length := by
  simp only [rdNum, Option.map_eq_some_iff] at h
  obtain ⟨⟨n, t'⟩, h1, h2⟩ := h
  simp only [Prod.mk.injEq] at h2
  obtain ⟨_, rfl⟩ := h2
  exact dgMax_len h1
theorem rdInt_len {L t : List UInt8} {v : Int} (h : rdInt L = some (v, t)) : t.length < L.length := by
  unfold rdInt at h
  split at h
  · simp at h
  · split at h
    · simp only [Option.bind_eq_some_iff] at h
      obtain ⟨⟨n, t'⟩, h1, h2⟩ := h
      split at h2
      · simp at h2
      · simp only [Option.some.injEq, Prod.mk.injEq] at h2
        obtain ⟨_, rfl⟩ := h2
        have := dgMin_len h1
        simp; omega
    · exact rdNum_len h
theorem rdText_len {L t : List UInt8} {v : ByteArray} (h : rdText L = some (v, t)) : t.length < L.length := by
  simp only [rdText, Option.bind_eq_some_iff] at h
  obtain ⟨⟨n, t'⟩, h1, h2⟩ := h
  split at h2
  · simp only [Option.some.injEq, Prod.mk.injEq] at h2
    obtain ⟨_, rfl⟩ := h2
    have := dgMax_len h1
    simp; omega
  · simp at h2

end Go.Proofs.YtdejajpmebgidaaDoor.WireM
