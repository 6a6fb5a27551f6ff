/-
  PACKAGE text AS PLAIN FUNCTIONS ON LISTS OF BYTES (no program in this text): decimals, quoted strings, lines, fields.
-/
import Derived.Test.YteccccpjhpbebaaGreatDoorMc
import Derived.Lib.AtoiAllCases
import Derived.Lib.SplitLaws
import Derived.Lib.IndexBytes
import Derived.Lib.IndexLaws
namespace Go.Proofs.YteccccpjhpbebaaGreatDoor.WireM
open Go
set_option linter.unusedVariables false
set_option linter.unusedSimpArgs false

/-! DECIMALS -/
def InR (n : Int) : Prop := -9223372036854775808 ≤ n ∧ n ≤ 9223372036854775807
theorem pu_step (acc : Nat) (c : UInt8) (r : List UInt8) (h1 : 48 ≤ c.toNat) (h2 : c.toNat ≤ 57) (h3 : acc < 1844674407370955162) (h4 : acc * 10 + (c.toNat - 48) < 18446744073709551616) :
    Lib.parseUint10 acc (c :: r) = Lib.parseUint10 (acc * 10 + (c.toNat - 48)) r := by
  rw [Lib.parseUint10, if_pos ⟨h1, h2⟩, if_neg (by omega), if_neg (by omega)]
theorem pu_through (X : List UInt8) (n : Nat) (hn : n < 18446744073709551616) : Lib.parseUint10 0 (Lib.decDigits n ++ X) = Lib.parseUint10 n X := by
  induction n using Nat.strongRecOn generalizing X with
  | _ n ih =>
    by_cases hs : n < 10
    · rw [dd_small hs]
      have ht : (UInt8.ofNat (48 + n)).toNat = 48 + n := ofNat_toNat (by omega)
      rw [List.singleton_append, pu_step _ _ _ (by omega) (by omega) (by omega) (by omega), ht]
      congr 1; omega
    · rw [dd_big hs, List.append_assoc, ih (n / 10) (by omega) _ (by omega)]
      have ht : (UInt8.ofNat (48 + n % 10)).toNat = 48 + n % 10 := ofNat_toNat (by omega)
      rw [List.singleton_append, pu_step _ _ _ (by omega) (by omega) (by omega) (by omega), ht]
      congr 1; omega
theorem mag_dd (n : Nat) (hn : n < 18446744073709551616) : Lib.parseMag (Lib.decDigits n) = .ok n := by
  unfold Lib.parseMag
  obtain ⟨c, r, h, _⟩ := dd_head n
  rw [if_neg (by rw [h]; simp)]
  have := pu_through [] n hn
  rw [List.append_nil] at this
  rw [this, Lib.parseUint10]
theorem atoi_itoa (n : Int) (h : InR n) : Lib.atoiAll (Lib.itoa n) = .ok n := by
  obtain ⟨h0, h1⟩ := h
  by_cases hn : n < 0
  · obtain ⟨m, rfl⟩ : ∃ m : Nat, n = -(m : Int) := ⟨n.natAbs, by omega⟩
    rw [itoa_negs m (by omega), Lib.atoiAll_minus, mag_dd m (by omega)]
    simp only [Lib.signed]
    rw [if_neg (by omega)]
  · obtain ⟨m, rfl⟩ : ∃ m : Nat, n = (m : Int) := ⟨n.toNat, by omega⟩
    rw [itoa_nat]
    obtain ⟨c, r, h, a, b⟩ := dd_head m
    rw [h, Lib.atoiAll_plain c r (by omega) (by omega), ← h, mag_dd m (by omega)]
    simp only [Lib.signless]
    rw [if_neg (by omega)]
theorem itoa_inj {a b : Int} (ha : InR a) (hb : InR b) (h : Lib.itoa a = Lib.itoa b) : a = b := by
  have h1 := atoi_itoa a ha
  rw [h, atoi_itoa b hb] at h1
  injection h1 with h1
  exact h1.symm
/-- What reading a decimal answers. -/
def decOf (l : List UInt8) : Int × Bool :=
  match Lib.atoiAll l with
  | .ok n => if Lib.itoa n = l then (n, true) else (0, false)
  | _ => (0, false)
theorem decOf_yes (n : Int) (h : InR n) {l : List UInt8} (hl : Lib.itoa n = l) : decOf l = (n, true) := by
  unfold decOf
  rw [← hl, atoi_itoa n h]
  simp
theorem decOf_no {l : List UInt8} (h : ∀ n, InR n → Lib.itoa n ≠ l) : decOf l = (0, false) := by
  unfold decOf
  split
  · rename_i n hn
    rw [if_neg (h n (Lib.atoiAll_bounds hn))]
  · rfl
theorem decOf_cases (l : List UInt8) : (∃ n, InR n ∧ Lib.itoa n = l ∧ decOf l = (n, true)) ∨ (decOf l = (0, false) ∧ ∀ n, InR n → Lib.itoa n ≠ l) := by
  by_cases h : ∃ n, InR n ∧ Lib.itoa n = l
  · obtain ⟨n, a, b⟩ := h
    exact .inl ⟨n, a, b, decOf_yes n a b⟩
  · exact .inr ⟨decOf_no (fun n a b => h ⟨n, a, b⟩), fun n a b => h ⟨n, a, b⟩⟩

/-! QUOTED STRINGS -/
def hexd (k : Nat) : UInt8 := UInt8.ofNat (if k < 10 then 48 + k else 87 + k)
def qb (c : UInt8) : List UInt8 :=
  if c.toNat = 34 ∨ c.toNat = 92 then [92, c] else if c.toNat = 10 then [92, 110] else if c.toNat < 32 ∨ 126 < c.toNat then [92, 120, hexd (c.toNat / 16), hexd (c.toNat % 16)] else [c]
def qs (l : List UInt8) : List UInt8 := l.flatMap qb
def quote (l : List UInt8) : List UInt8 := 34 :: (qs l ++ [34])
theorem qs_cons (c : UInt8) (l : List UInt8) : qs (c :: l) = qb c ++ qs l := by simp [qs]
theorem qs_append (a b : List UInt8) : qs (a ++ b) = qs a ++ qs b := by simp [qs]
theorem qs_nil : qs [] = [] := rfl
theorem qb_len (c : UInt8) : 1 ≤ (qb c).length ∧ (qb c).length ≤ 4 := by
  unfold qb; repeat' split
  all_goals simp
theorem qs_len (l : List UInt8) : l.length ≤ (qs l).length ∧ (qs l).length ≤ 4 * l.length := by
  induction l with
  | nil => simp [qs]
  | cons c l ih =>
    have := qb_len c
    rw [qs_cons, List.length_append, List.length_cons]; omega
theorem quote_len (l : List UInt8) : l.length + 2 ≤ (quote l).length ∧ (quote l).length ≤ 4 * l.length + 2 := by
  have := qs_len l
  simp only [quote, List.length_cons, List.length_append, List.length_nil]; omega
/-- The kinds of bytes. -/
theorem qb_esc {c : UInt8} (h : c.toNat = 34 ∨ c.toNat = 92) : qb c = [92, c] := by unfold qb; rw [if_pos h]
theorem qb_lf {c : UInt8} (h : c.toNat = 10) : qb c = [92, 110] := by unfold qb; rw [if_neg (by omega), if_pos h]
theorem qb_hex {c : UInt8} (h1 : c.toNat ≠ 10) (h2 : c.toNat < 32 ∨ 126 < c.toNat) : qb c = [92, 120, hexd (c.toNat / 16), hexd (c.toNat % 16)] := by
  unfold qb; rw [if_neg (by omega), if_neg h1, if_pos h2]
theorem qb_self {c : UInt8} (h1 : c.toNat ≠ 34) (h2 : c.toNat ≠ 92) (h3 : 32 ≤ c.toNat) (h4 : c.toNat ≤ 126) : qb c = [c] := by
  unfold qb; rw [if_neg (by omega), if_neg (by omega), if_neg (by omega)]
theorem qb_cases (c : UInt8) : ((c.toNat = 34 ∨ c.toNat = 92) ∧ qb c = [92, c]) ∨ (c.toNat = 10 ∧ qb c = [92, 110]) ∨ ((c.toNat < 32 ∨ 126 < c.toNat) ∧ c.toNat ≠ 10 ∧ qb c = [92, 120, hexd (c.toNat / 16), hexd (c.toNat % 16)]) ∨ (c.toNat ≠ 34 ∧ c.toNat ≠ 92 ∧ 32 ≤ c.toNat ∧ c.toNat ≤ 126 ∧ qb c = [c]) := by
  by_cases h1 : c.toNat = 34 ∨ c.toNat = 92
  · exact .inl ⟨h1, qb_esc h1⟩
  · by_cases h2 : c.toNat = 10
    · exact .inr (.inl ⟨h2, qb_lf h2⟩)
    · by_cases h3 : c.toNat < 32 ∨ 126 < c.toNat
      · exact .inr (.inr (.inl ⟨h3, h2, qb_hex h2 h3⟩))
      · exact .inr (.inr (.inr ⟨by omega, by omega, by omega, by omega, qb_self (by omega) (by omega) (by omega) (by omega)⟩))
theorem hexd_nat (k : Nat) (h : k < 16) : (hexd k).toNat = if k < 10 then 48 + k else 87 + k := by
  unfold hexd
  split
  · exact ofNat_toNat (by omega)
  · exact ofNat_toNat (by omega)
theorem hexd_inj {a b : Nat} (ha : a < 16) (hb : b < 16) (h : hexd a = hexd b) : a = b := by
  have h1 := hexd_nat a ha
  rw [h, hexd_nat b hb] at h1
  split at h1 <;> split at h1 <;> omega
/-- One byte is read back. -/
theorem qb_first {c d : UInt8} {X Y : List UInt8} (h : qb c ++ X = qb d ++ Y) : c = d ∧ X = Y := by
  have hc := c.toNat_lt
  have hd := d.toNat_lt
  have nat : ∀ {a b : UInt8}, a = b → a.toNat = b.toNat := fun h => congrArg _ h
  have e92 : (92 : UInt8).toNat = 92 := rfl
  have e110 : (110 : UInt8).toNat = 110 := rfl
  have e120 : (120 : UInt8).toNat = 120 := rfl
  rcases qb_cases c with ⟨h1, e1⟩ | ⟨h1, e1⟩ | ⟨h1, h1', e1⟩ | ⟨h1, h1', h1'', h1''', e1⟩ <;>
  rcases qb_cases d with ⟨h2, e2⟩ | ⟨h2, e2⟩ | ⟨h2, h2', e2⟩ | ⟨h2, h2', h2'', h2''', e2⟩ <;>
  rw [e1, e2] at h <;> simp only [List.cons_append, List.nil_append, List.cons.injEq] at h
  · exact ⟨h.2.1, h.2.2⟩
  · have := nat h.2.1; omega
  · have := nat h.2.1; omega
  · have := nat h.1; omega
  · have := nat h.2.1; omega
  · exact ⟨UInt8.toNat_inj.1 (by omega), h.2.2⟩
  · have := nat h.2.1; omega
  · have := nat h.1; omega
  · have := nat h.2.1; omega
  · have := nat h.2.1; omega
  · have a := hexd_inj (by omega) (by omega) h.2.2.1
    have b := hexd_inj (by omega) (by omega) h.2.2.2.1
    exact ⟨UInt8.toNat_inj.1 (by omega), h.2.2.2.2⟩
  · have := nat h.1; omega
  · have := nat h.1; omega
  · have := nat h.1; omega
  · have := nat h.1; omega
  · exact ⟨h.1, h.2⟩
theorem qb_head (c : UInt8) (X : List UInt8) : ∃ a Y, qb c ++ X = a :: Y ∧ a.toNat ≠ 34 := by
  have e92 : (92 : UInt8).toNat = 92 := rfl
  rcases qb_cases c with ⟨_, e⟩ | ⟨_, e⟩ | ⟨_, _, e⟩ | ⟨h, _, _, _, e⟩
  · exact ⟨_, _, by rw [e]; rfl, by omega⟩
  · exact ⟨_, _, by rw [e]; rfl, by omega⟩
  · exact ⟨_, _, by rw [e]; rfl, by omega⟩
  · exact ⟨_, _, by rw [e]; rfl, h⟩
theorem qs_inj : ∀ {a b : List UInt8}, qs a ++ [34] = qs b ++ [34] → a = b
  | [], [], _ => rfl
  | [], d :: b, h => by
    rw [qs_cons, List.append_assoc] at h
    obtain ⟨x, Y, e, hx⟩ := qb_head d (qs b ++ [34])
    rw [e] at h
    simp [qs] at h
    exact absurd (congrArg UInt8.toNat h.1.symm) hx
  | c :: a, [], h => by
    rw [qs_cons, List.append_assoc] at h
    obtain ⟨x, Y, e, hx⟩ := qb_head c (qs a ++ [34])
    rw [e] at h
    simp [qs] at h
    exact absurd (congrArg UInt8.toNat h.1) hx
  | c :: a, d :: b, h => by
    rw [qs_cons, qs_cons, List.append_assoc, List.append_assoc] at h
    obtain ⟨rfl, h'⟩ := qb_first h
    rw [qs_inj h']
theorem quote_inj {a b : List UInt8} (h : quote a = quote b) : a = b := by
  unfold quote at h
  exact qs_inj (List.cons.inj h).2
/-- What reading a quoted string answers: the string that it stands for, and whether it is one. -/
def UnqIs (l t : List UInt8) (b : Bool) : Prop := (b = true ∧ quote t = l) ∨ (b = false ∧ t = [] ∧ ∀ t, quote t ≠ l)
theorem UnqIs.same {l t t' : List UInt8} {b b' : Bool} (h : UnqIs l t b) (h' : UnqIs l t' b') : t = t' ∧ b = b' := by
  rcases h with ⟨rfl, h⟩ | ⟨rfl, rfl, h⟩ <;> rcases h' with ⟨rfl, h'⟩ | ⟨rfl, rfl, h'⟩
  · exact ⟨quote_inj (h.trans h'.symm), rfl⟩
  · exact absurd h (h' _)
  · exact absurd h' (h _)
  · exact ⟨rfl, rfl⟩

/-! LINES -/
def pieces : List UInt8 → List (List UInt8)
  | [] => [ [] ]
  | c :: r => if c.toNat = 10 then [] :: pieces r else match pieces r with | [] => [ [c] ] | p :: ps => (c :: p) :: ps
theorem pieces_ne (l : List UInt8) : pieces l ≠ [] := by
  cases l with
  | nil => simp [pieces]
  | cons c r => rw [pieces]; split; simp; split <;> simp
theorem pieces_lf (c : UInt8) (r : List UInt8) (h : c.toNat = 10) : pieces (c :: r) = [] :: pieces r := by rw [pieces, if_pos h]
theorem pieces_other (c : UInt8) (r : List UInt8) (h : c.toNat ≠ 10) : ∃ p ps, pieces r = p :: ps ∧ pieces (c :: r) = (c :: p) :: ps := by
  cases hp : pieces r with
  | nil => exact absurd hp (pieces_ne r)
  | cons p ps => exact ⟨p, ps, rfl, by rw [pieces, if_neg h, hp]⟩
theorem pieces_none {a : List UInt8} (h : ∀ c ∈ a, c.toNat ≠ 10) : pieces a = [a] := by
  induction a with
  | nil => rfl
  | cons c r ih =>
    obtain ⟨p, ps, e, e'⟩ := pieces_other c r (h c List.mem_cons_self)
    rw [ih fun c hc => h c (List.mem_cons_of_mem _ hc)] at e
    injection e with e1 e2
    rw [e', ← e1, ← e2]
theorem pieces_cat {a b : List UInt8} (h : ∀ c ∈ a, c.toNat ≠ 10) : pieces (a ++ 10 :: b) = a :: pieces b := by
  induction a with
  | nil => exact pieces_lf _ _ rfl
  | cons c r ih =>
    obtain ⟨p, ps, e, e'⟩ := pieces_other c (r ++ 10 :: b) (h c List.mem_cons_self)
    rw [ih fun c hc => h c (List.mem_cons_of_mem _ hc)] at e
    injection e with e1 e2
    rw [List.cons_append, e', ← e1, ← e2]
/-- The shape of a string: no LF, or one behind a part without. -/
theorem lf_cases : ∀ (l : List UInt8), (∀ c ∈ l, c.toNat ≠ 10) ∨ ∃ a b, l = a ++ 10 :: b ∧ (∀ c ∈ a, c.toNat ≠ 10) ∧ b.length < l.length
  | [] => .inl (by simp)
  | c :: r => by
    by_cases h : c.toNat = 10
    · exact .inr ⟨[], r, by rw [show c = 10 from UInt8.toNat_inj.1 h]; rfl, by simp, by simp⟩
    · rcases lf_cases r with h1 | ⟨a, b, rfl, h1, h2⟩
      · exact .inl (by intro d hd; rcases List.mem_cons.1 hd with rfl | hd; exact h; exact h1 d hd)
      · exact .inr ⟨c :: a, b, rfl, by intro d hd; rcases List.mem_cons.1 hd with rfl | hd; exact h; exact h1 d hd, by simp; omega⟩
def unl (l : List (List UInt8)) : List UInt8 := l.flatMap fun x => x ++ [10]
theorem unl_cons (a : List UInt8) (l : List (List UInt8)) : unl (a :: l) = a ++ 10 :: unl l := by simp [unl]
theorem unl_append (a b : List (List UInt8)) : unl (a ++ b) = unl a ++ unl b := by simp [unl]
theorem unl_pieces (l : List UInt8) : unl (pieces l) = l ++ [10] := by
  induction h : l.length using Nat.strongRecOn generalizing l with
  | _ n ih =>
    rcases lf_cases l with h1 | ⟨a, b, rfl, h1, h2⟩
    · rw [pieces_none h1]; simp [unl]
    · rw [pieces_cat h1, unl_cons, ih b.length (by omega) b rfl]; simp
/-- The lines of a string. -/
def linesOf (l : List UInt8) : List (List UInt8) := if (pieces l).getLast (pieces_ne l) = [] then (pieces l).dropLast else pieces l
theorem pieces_unl {L : List (List UInt8)} (h : ∀ x ∈ L, ∀ c ∈ x, c.toNat ≠ 10) : pieces (unl L) = L ++ [ [] ] := by
  induction L with
  | nil => rfl
  | cons a L ih =>
    rw [unl_cons, pieces_cat (h a List.mem_cons_self), ih fun x hx => h x (List.mem_cons_of_mem _ hx)]; rfl
theorem lines_unl {L : List (List UInt8)} (h : ∀ x ∈ L, ∀ c ∈ x, c.toNat ≠ 10) : linesOf (unl L) = L := by
  have e := pieces_unl h
  unfold linesOf
  have e2 : (pieces (unl L)).getLast (pieces_ne _) = [] := by simp [e]
  rw [if_pos e2, e]; simp
/-- The lines joined. -/
def wantOf (l : List UInt8) : List UInt8 := if l = [] ∨ l.getLast? = some 10 then l else l ++ [10]
theorem last_pieces (l : List UInt8) : (pieces l).getLast (pieces_ne l) = [] ↔ (l = [] ∨ l.getLast? = some 10) := by
  induction h : l.length using Nat.strongRecOn generalizing l with
  | _ n ih =>
    rcases lf_cases l with h1 | ⟨a, b, rfl, h1, h2⟩
    · simp only [pieces_none h1, List.getLast_singleton]
      constructor
      · exact .inl
      · rintro (h2 | h2)
        · exact h2
        · exact absurd rfl (h1 10 (List.mem_of_getLast? h2))
    · have e : (pieces (a ++ 10 :: b)).getLast (pieces_ne _) = (pieces b).getLast (pieces_ne _) := by
        simp only [pieces_cat h1]
        exact List.getLast_cons (pieces_ne b)
      rw [e, ih b.length (by omega) b rfl]
      cases b with
      | nil => simp
      | cons x b => simp [List.getLast?_append, List.getLast?_cons]
theorem unl_lines (l : List UInt8) : unl (linesOf l) = wantOf l := by
  have e := unl_pieces l
  unfold linesOf wantOf
  by_cases h : (pieces l).getLast (pieces_ne l) = []
  · rw [if_pos h, if_pos ((last_pieces l).1 h)]
    rw [← List.dropLast_concat_getLast (pieces_ne l), h, unl_append] at e
    simpa [unl] using e
  · rw [if_neg h, if_neg (fun x => h ((last_pieces l).2 x)), e]
theorem lines_sum : ∀ (L : List (List UInt8)), (L.map List.length).sum + L.length = (unl L).length
  | [] => rfl
  | a :: L => by rw [unl_cons]; simp; have := lines_sum L; omega
theorem pieces_len (l : List UInt8) : (pieces l).length ≤ l.length + 1 := by
  have h1 := lines_sum (pieces l)
  rw [unl_pieces, List.length_append, List.length_singleton] at h1
  omega
theorem lines_len (l : List UInt8) : (linesOf l).length ≤ l.length + 1 := by
  have := pieces_len l
  unfold linesOf; split
  · simp; omega
  · exact this

/-! strings.Split at an LF -/
theorem index_lf {l : List UInt8} (h : ∀ c ∈ l, c.toNat ≠ 10) : Lib.index l [10] = -1 := by
  rw [Lib.index_one]
  induction l with
  | nil => rfl
  | cons c r ih =>
    have hc : (c == 10) = false := by simp; exact fun e => h c List.mem_cons_self (by rw [e]; rfl)
    rw [Lib.indexByte, ih fun c hc => h c (List.mem_cons_of_mem _ hc), hc]; rfl
theorem index_lf_at {a b : List UInt8} (h : ∀ c ∈ a, c.toNat ≠ 10) : Lib.index (a ++ 10 :: b) [10] = a.length := by
  rw [Lib.index_one]
  induction a with
  | nil => rfl
  | cons c r ih =>
    have hc : (c == 10) = false := by simp; exact fun e => h c List.mem_cons_self (by rw [e]; rfl)
    rw [List.cons_append, Lib.indexByte, ih fun c hc => h c (List.mem_cons_of_mem _ hc), hc]
    have : ((r.length : Int) == -1) = false := by rw [beq_eq_false_iff_ne]; omega
    simp [this]
theorem splitK_pieces : ∀ (k : Nat) (l : List UInt8), (pieces l).length ≤ k + 1 → Lib.splitK [10] 0 k l = pieces l
  | 0, l, h => by
    rcases lf_cases l with h1 | ⟨a, b, rfl, h1, h2⟩
    · rw [pieces_none h1]; rfl
    · rw [pieces_cat h1] at h
      have := pieces_ne b
      cases hb : pieces b <;> simp_all
  | k + 1, l, h => by
    rcases lf_cases l with h1 | ⟨a, b, rfl, h1, h2⟩
    · rw [pieces_none h1, Lib.splitK, index_lf h1]; rfl
    · rw [pieces_cat h1, Lib.splitK, index_lf_at h1]
      rw [pieces_cat h1, List.length_cons] at h
      have e : ((a.length : Int) == -1) = false := by rw [beq_eq_false_iff_ne]; omega
      rw [e]
      simp only [Bool.false_eq_true, if_false, Int.toNat_natCast, Nat.add_zero, List.length_singleton]
      have e1 : (a ++ 10 :: b).take a.length = a := by simp
      have e2 : (a ++ 10 :: b).drop (a.length + 1) = b := by simp
      rw [e1, e2, splitK_pieces k b (by omega)]

/-! FIELDS -/
def white (c : UInt8) : Bool := c.toNat == 32 || c.toNat == 9 || c.toNat == 10
def fieldsGo : List UInt8 → List UInt8 → List (List UInt8)
  | cur, [] => if cur = [] then [] else [cur]
  | cur, c :: r => if white c = true then (if cur = [] then [] else [cur]) ++ fieldsGo [] r else fieldsGo (cur ++ [c]) r
def fieldsOf (l : List UInt8) : List (List UInt8) := fieldsGo [] l
theorem fieldsGo_lf (b : List UInt8) : ∀ (a cur : List UInt8), fieldsGo cur (a ++ 10 :: b) = fieldsGo cur a ++ fieldsGo [] b
  | [], cur => by
    have : white 10 = true := rfl
    have e : fieldsGo cur (10 :: b) = (if cur = [] then [] else [cur]) ++ fieldsGo [] b := by rw [fieldsGo, if_pos this]
    rw [List.nil_append, e]
    congr 1
  | c :: a, cur => by
    rw [List.cons_append, fieldsGo, fieldsGo]
    split
    · rw [fieldsGo_lf b a []]; simp
    · exact fieldsGo_lf b a _
theorem fields_pieces (l : List UInt8) : (pieces l).flatMap fieldsOf = fieldsOf l := by
  induction h : l.length using Nat.strongRecOn generalizing l with
  | _ n ih =>
    rcases lf_cases l with h1 | ⟨a, b, rfl, h1, h2⟩
    · rw [pieces_none h1]; simp
    · rw [pieces_cat h1, List.flatMap_cons, ih b.length (by omega) b rfl]
      exact (fieldsGo_lf b a []).symm
theorem fields_lines (l : List UInt8) : (linesOf l).flatMap fieldsOf = fieldsOf l := by
  unfold linesOf
  by_cases h : (pieces l).getLast (pieces_ne l) = []
  · rw [if_pos h]
    have e := fields_pieces l
    rw [← List.dropLast_concat_getLast (pieces_ne l), h, List.flatMap_append] at e
    simpa [fieldsOf, fieldsGo] using e
  · rw [if_neg h, fields_pieces]
theorem fieldsGo_ok : ∀ (l cur : List UInt8), (∀ c ∈ cur, white c = false) → ∀ f ∈ fieldsGo cur l, f ≠ [] ∧ ∀ c ∈ f, white c = false
  | [], cur, hc, f, hf => by
    rw [fieldsGo] at hf
    split at hf
    · simp at hf
    · rename_i h
      simp at hf; subst hf
      exact ⟨h, hc⟩
  | c :: r, cur, hc, f, hf => by
    rw [fieldsGo] at hf
    split at hf
    · rcases List.mem_append.1 hf with hf | hf
      · split at hf
        · simp at hf
        · rename_i h
          simp at hf; subst hf
          exact ⟨h, hc⟩
      · exact fieldsGo_ok r [] (by simp) f hf
    · rename_i hw
      refine fieldsGo_ok r _ ?_ f hf
      intro d hd
      rcases List.mem_append.1 hd with hd | hd
      · exact hc d hd
      · simp at hd; subst hd; simpa using hw
theorem fields_ok (l : List UInt8) : ∀ f ∈ fieldsOf l, f ≠ [] ∧ ∀ c ∈ f, white c = false := fieldsGo_ok l [] (by simp)
theorem fieldsGo_len : ∀ (l cur : List UInt8), (fieldsGo cur l).length ≤ l.length + 1 ∧ ∀ f ∈ fieldsGo cur l, f.length ≤ cur.length + l.length
  | [], cur => by rw [fieldsGo]; split <;> simp
  | c :: r, cur => by
    rw [fieldsGo]
    have h1 := fieldsGo_len r []
    have h2 := fieldsGo_len r (cur ++ [c])
    split
    · refine ⟨?_, ?_⟩
      · rw [List.length_append, List.length_cons]
        have : (if cur = [] then [] else [cur]).length ≤ 1 := by split <;> simp
        omega
      · intro f hf
        rcases List.mem_append.1 hf with hf | hf
        · split at hf
          · simp at hf
          · simp at hf; subst hf; simp
        · have := h1.2 f hf
          simp at this ⊢; omega
    · refine ⟨by rw [List.length_cons]; omega, fun f hf => ?_⟩
      have := h2.2 f hf
      simp at this ⊢; omega
theorem fields_len (l : List UInt8) : (fieldsOf l).length ≤ l.length + 1 := (fieldsGo_len l []).1
end Go.Proofs.YteccccpjhpbebaaGreatDoor.WireM
