/-
  THE PATTERNS OF PACKAGE text AS PLAIN FUNCTIONS ON LISTS OF BYTES (no program in this text).
-/
import Derived.Test.YteccccpjhpbebaaGreatDoorTa
namespace Go.Proofs.YteccccpjhpbebaaGreatDoor.WireM
open Go
set_option linter.unusedVariables false
set_option linter.unusedSimpArgs false

def i93 (l : List UInt8) : Int := Lib.indexByte l 93
def clsLen (l : List UInt8) : Nat := if (l.drop 1).head? = some 33 ∧ 0 ≤ i93 (l.drop 3) then 3 + (i93 (l.drop 3)).toNat + 1 else 2 + (i93 (l.drop 2)).toNat + 1
/-- The length of the part at the beginning of a pattern. -/
def partLen : List UInt8 → Nat
  | [] => 0
  | c :: r => if c.toNat = 92 ∧ r ≠ [] then 2 else if c.toNat = 91 ∧ 0 ≤ i93 (r.drop 1) then clsLen (c :: r) else 1
theorem i93_lt (l : List UInt8) : i93 l < l.length := by
  unfold i93
  rcases Int.lt_or_le (Lib.indexByte l 93) 0 with h | h
  · omega
  · obtain ⟨o, ho⟩ : ∃ o : Nat, Lib.indexByte l 93 = o := ⟨(Lib.indexByte l 93).toNat, by omega⟩
    have h1 := (Lib.indexByte_some ho).1
    have h2 : o < l.length := by
      rcases Nat.lt_or_ge o l.length with h' | h'
      · exact h'
      · rw [List.getElem?_eq_none h'] at h1; cases h1
    omega
theorem clsLen_le (l : List UInt8) (h : 0 ≤ i93 (l.drop 2)) : clsLen l ≤ l.length ∧ 3 ≤ clsLen l := by
  have h1 := i93_lt (l.drop 2)
  have h2 := i93_lt (l.drop 3)
  rw [List.length_drop] at h1 h2
  unfold clsLen
  split
  · rename_i h3
    have := h3.2
    omega
  · omega
theorem partLen_pos (c : UInt8) (r : List UInt8) : 1 ≤ partLen (c :: r) ∧ partLen (c :: r) ≤ (c :: r).length := by
  rw [partLen]
  split
  · rename_i h
    have : r.length ≠ 0 := fun e => h.2 (List.eq_nil_of_length_eq_zero e)
    simp; omega
  · split
    · rename_i h
      have := clsLen_le (c :: r) h.2
      omega
    · simp
/-- The parts of a pattern. -/
def parts (l : List UInt8) : List (List UInt8) :=
  match h : l with
  | [] => []
  | c :: r => (c :: r).take (partLen (c :: r)) :: parts ((c :: r).drop (partLen (c :: r)))
termination_by l.length
decreasing_by
  have := partLen_pos c r
  simp only [List.length_drop, List.length_cons] at *
  omega
theorem parts_nil : parts [] = [] := by rw [parts]
theorem parts_cons (c : UInt8) (r : List UInt8) : parts (c :: r) = (c :: r).take (partLen (c :: r)) :: parts ((c :: r).drop (partLen (c :: r))) := by
  conv => lhs; rw [parts]
theorem parts_one (c : UInt8) (r : List UInt8) (h : partLen (c :: r) = 1) : parts (c :: r) = [c] :: parts r := by rw [parts_cons, h]; rfl
theorem parts_two (c d : UInt8) (r : List UInt8) (h : partLen (c :: d :: r) = 2) : parts (c :: d :: r) = [c, d] :: parts r := by rw [parts_cons, h]; rfl
theorem partLen_plain {c : UInt8} {r : List UInt8} (h1 : c.toNat ≠ 92) (h2 : c.toNat ≠ 91) : partLen (c :: r) = 1 := by
  rw [partLen, if_neg (fun h => h1 h.1), if_neg (fun h => h2 h.1)]
theorem partLen_bs (d : UInt8) (r : List UInt8) : partLen (92 :: d :: r) = 2 := by
  rw [partLen, if_pos ⟨rfl, by simp⟩]
/-- Each part is not empty. -/
theorem parts_pos : ∀ (n : Nat) (l : List UInt8), l.length ≤ n → ∀ t ∈ parts l, 1 ≤ t.length ∧ t.length ≤ l.length
  | _, [], _, t, ht => by rw [parts_nil] at ht; cases ht
  | 0, c :: r, h, t, ht => by simp at h
  | n + 1, c :: r, h, t, ht => by
    have hp := partLen_pos c r
    rw [parts_cons] at ht
    rcases List.mem_cons.1 ht with rfl | ht
    · rw [List.length_take]; omega
    · have := parts_pos n ((c :: r).drop (partLen (c :: r))) (by rw [List.length_drop]; omega) t ht
      rw [List.length_drop] at this
      omega
theorem parts_len : ∀ (n : Nat) (l : List UInt8), l.length ≤ n → (parts l).length ≤ l.length
  | _, [], _ => by rw [parts_nil]; simp
  | 0, c :: r, h => by simp at h
  | n + 1, c :: r, h => by
    have hp := partLen_pos c r
    rw [parts_cons]
    have := parts_len n ((c :: r).drop (partLen (c :: r))) (by rw [List.length_drop]; omega)
    rw [List.length_drop] at this
    rw [List.length_cons]; omega

/-! WHAT A PART MATCHES -/
def inSet : List UInt8 → UInt8 → Bool
  | [], _ => false
  | [a], c => a.toNat == c.toNat
  | [a, x], c => a.toNat == c.toNat || x.toNat == c.toNat
  | a :: x :: b :: r, c => if x.toNat = 45 then (decide (a.toNat ≤ c.toNat) && decide (c.toNat ≤ b.toNat)) || inSet r c else a.toNat == c.toNat || inSet (x :: b :: r) c
theorem inSet_range (a b c x : UInt8) (r : List UInt8) (h : x.toNat = 45) : inSet (a :: x :: b :: r) c = ((decide (a.toNat ≤ c.toNat) && decide (c.toNat ≤ b.toNat)) || inSet r c) := by
  rw [inSet, if_pos h]
theorem inSet_one (a c : UInt8) (r : List UInt8) (h : ¬ (2 < (a :: r).length ∧ (r.head?.map (·.toNat)) = some 45)) : inSet (a :: r) c = (a.toNat == c.toNat || inSet r c) := by
  match r, h with
  | [], _ => rw [inSet, inSet]; simp
  | [x], _ => rw [inSet, inSet]
  | x :: b :: r', h =>
    have hx : x.toNat ≠ 45 := fun e => h ⟨by simp, by simp [e]⟩
    rw [inSet, if_neg hx]
def setOf (t : List UInt8) : List UInt8 := (t.take (t.length - 1)).drop 1
def clsNot (t : List UInt8) : Bool := decide (1 < (setOf t).length) && decide ((setOf t).head?.map (·.toNat) = some 33)
def clsHas (t : List UInt8) (c : UInt8) : Bool := if clsNot t = true then !(inSet ((setOf t).drop 1) c) else inSet (setOf t) c
def fit (t : List UInt8) (c : UInt8) : Bool :=
  if 2 < t.length then clsHas t c else if t.length = 2 then decide (t.getD 1 0 = c) else decide (t = [63]) || decide (t.getD 0 0 = c)
def star : List UInt8 := [42]
/-- Whether a list of parts matches a string. -/
def mt : List (List UInt8) → List UInt8 → Prop
  | [], s => s = []
  | p :: ps, s => (p = star ∧ ∃ k, k ≤ s.length ∧ mt ps (s.drop k)) ∨ (p ≠ star ∧ ∃ c r, s = c :: r ∧ fit p c = true ∧ mt ps r)
def mtB : List (List UInt8) → List UInt8 → Bool
  | [], s => s.isEmpty
  | p :: ps, s => if p = star then (List.range (s.length + 1)).any (fun k => mtB ps (s.drop k)) else (!s.isEmpty && fit p (s.headD 0)) && mtB ps s.tail
theorem mtB_iff : ∀ (ps : List (List UInt8)) (s : List UInt8), mtB ps s = true ↔ mt ps s
  | [], s => by rw [mtB, mt]; simp
  | p :: ps, s => by
    rw [mtB, mt]
    by_cases h : p = star
    · rw [if_pos h]
      simp only [List.any_eq_true, List.mem_range, h, true_and, ne_eq, not_true_eq_false, false_and, or_false]
      constructor
      · rintro ⟨k, hk, hm⟩; exact ⟨k, by omega, (mtB_iff ps _).1 hm⟩
      · rintro ⟨k, hk, hm⟩; exact ⟨k, by omega, (mtB_iff ps _).2 hm⟩
    · rw [if_neg h]
      simp only [h, false_and, false_or, ne_eq, not_false_eq_true, true_and]
      cases s with
      | nil => simp
      | cons c r =>
        simp only [Bool.and_eq_true, List.tail_cons, List.headD_cons, mtB_iff ps r]
        constructor
        · rintro ⟨⟨_, a⟩, b⟩; exact ⟨c, r, rfl, a, b⟩
        · rintro ⟨c', r', e, a, b⟩; injection e with e1 e2; subst e1; subst e2; exact ⟨⟨rfl, a⟩, b⟩
theorem mt_star (ps : List (List UInt8)) (s : List UInt8) : mt (star :: ps) s ↔ ∃ k, k ≤ s.length ∧ mt ps (s.drop k) := by
  rw [mt]; simp
theorem mt_one {p : List UInt8} (h : p ≠ star) (ps : List (List UInt8)) (c : UInt8) (r : List UInt8) : mt (p :: ps) (c :: r) ↔ fit p c = true ∧ mt ps r := by
  rw [mt]
  constructor
  · rintro (⟨a, _⟩ | ⟨_, c', r', e, a, b⟩)
    · exact absurd a h
    · injection e with e1 e2; subst e1; subst e2; exact ⟨a, b⟩
  · rintro ⟨a, b⟩; exact .inr ⟨h, c, r, rfl, a, b⟩
theorem mt_one_nil {p : List UInt8} (h : p ≠ star) (ps : List (List UInt8)) : ¬ mt (p :: ps) [] := by
  rw [mt]
  rintro (⟨a, _⟩ | ⟨_, c', r', e, a, b⟩)
  · exact absurd a h
  · cases e
theorem mt_append : ∀ (P Q : List (List UInt8)) (s : List UInt8), mt (P ++ Q) s ↔ ∃ k, k ≤ s.length ∧ mt P (s.take k) ∧ mt Q (s.drop k)
  | [], Q, s => by
    constructor
    · intro h; exact ⟨0, by omega, by simp [mt], h⟩
    · rintro ⟨k, hk, h1, h2⟩
      rw [mt] at h1
      have : k = 0 ∨ s.length = 0 := by
        have := congrArg List.length h1
        rw [List.length_take, List.length_nil] at this
        omega
      rcases this with rfl | h0
      · exact h2
      · have : s = [] := List.eq_nil_of_length_eq_zero h0
        subst this
        simpa using h2
  | p :: P, Q, s => by
    by_cases hp : p = star
    · subst hp
      rw [List.cons_append, mt_star]
      constructor
      · rintro ⟨k, hk, h⟩
        obtain ⟨j, hj, h1, h2⟩ := (mt_append P Q _).1 h
        rw [List.length_drop] at hj
        refine ⟨k + j, by omega, (mt_star _ _).2 ⟨k, by rw [List.length_take]; omega, ?_⟩, by rw [← List.drop_drop]; exact h2⟩
        rw [List.drop_take, show k + j - k = j by omega]
        exact h1
      · rintro ⟨k, hk, h1, h2⟩
        obtain ⟨j, hj, h1⟩ := (mt_star _ _).1 h1
        rw [List.length_take] at hj
        refine ⟨j, by omega, (mt_append P Q _).2 ⟨k - j, by rw [List.length_drop]; omega, ?_, ?_⟩⟩
        · rw [List.drop_take] at h1; exact h1
        · rw [List.drop_drop, show j + (k - j) = k by omega]; exact h2
    · rw [List.cons_append]
      cases s with
      | nil =>
        constructor
        · intro h; exact absurd h (mt_one_nil hp _)
        · rintro ⟨k, hk, h1, h2⟩
          simp at h1
          exact absurd h1 (mt_one_nil hp _)
      | cons c r =>
        rw [mt_one hp]
        constructor
        · rintro ⟨hf, h⟩
          obtain ⟨k, hk, h1, h2⟩ := (mt_append P Q r).1 h
          exact ⟨k + 1, by simp; omega, by rw [List.take_succ_cons, mt_one hp]; exact ⟨hf, h1⟩, by simpa using h2⟩
        · rintro ⟨k, hk, h1, h2⟩
          cases k with
          | zero => simp at h1; exact absurd h1 (mt_one_nil hp _)
          | succ k =>
            rw [List.take_succ_cons, mt_one hp] at h1
            exact ⟨h1.1, (mt_append P Q r).2 ⟨k, by simp at hk; omega, h1.2, by simpa using h2⟩⟩
/-- Parts that are no star match one byte each. -/
theorem mt_shift : ∀ (P Q : List (List UInt8)) (s : List UInt8), (∀ p ∈ P, p ≠ star) → mt (P ++ Q) s → P.length ≤ s.length ∧ mt Q (s.drop P.length)
  | [], Q, s, _, h => ⟨by simp, by simpa using h⟩
  | p :: P, Q, s, hp, h => by
    have h0 := hp p List.mem_cons_self
    cases s with
    | nil => exact absurd h (mt_one_nil h0 _)
    | cons c r =>
      rw [List.cons_append, mt_one h0] at h
      have := mt_shift P Q r (fun x hx => hp x (List.mem_cons_of_mem _ hx)) h.2
      exact ⟨by simp; omega, by simpa using this.2⟩

/-! THE MATCHING LOOP -/
def M (L : List (List UInt8)) (s : List UInt8) (i j : Nat) : Prop := mt (L.drop i) (s.drop j)
theorem M_end {L : List (List UInt8)} {s : List UInt8} {j : Nat} (hj : j ≤ s.length) : M L s L.length j ↔ j = s.length := by
  unfold M
  rw [List.drop_length, mt]
  constructor
  · intro h
    have := congrArg List.length h
    rw [List.length_drop] at this
    simp at this; omega
  · intro h; rw [h, List.drop_length]
theorem M_star {L : List (List UInt8)} {s : List UInt8} {i j : Nat} (hi : i < L.length) (h : L.getD i [] = star) (hj : j ≤ s.length) : M L s i j ↔ ∃ k, j ≤ k ∧ k ≤ s.length ∧ M L s (i + 1) k := by
  unfold M
  have e : L.drop i = star :: L.drop (i + 1) := by
    rw [List.drop_eq_getElem_cons hi, ← h]; simp [List.getD, hi]
  rw [e, mt_star]
  constructor
  · rintro ⟨k, hk, hm⟩
    rw [List.length_drop] at hk
    exact ⟨j + k, by omega, by omega, by rw [List.drop_drop] at hm; exact hm⟩
  · rintro ⟨k, h1, h2, hm⟩
    exact ⟨k - j, by rw [List.length_drop]; omega, by rw [List.drop_drop, show j + (k - j) = k by omega]; exact hm⟩
theorem M_one {L : List (List UInt8)} {s : List UInt8} {i j : Nat} (hi : i < L.length) (h : L.getD i [] ≠ star) (hj : j < s.length) : M L s i j ↔ fit (L.getD i []) s[j] = true ∧ M L s (i + 1) (j + 1) := by
  unfold M
  have e : L.drop i = L.getD i [] :: L.drop (i + 1) := by
    rw [List.drop_eq_getElem_cons hi]; simp [List.getD, hi]
  rw [e, List.drop_eq_getElem_cons hj, mt_one h]
theorem M_one_end {L : List (List UInt8)} {s : List UInt8} {i : Nat} (hi : i < L.length) (h : L.getD i [] ≠ star) {j : Nat} (hj : s.length ≤ j) : ¬ M L s i j := by
  unfold M
  have e : L.drop i = L.getD i [] :: L.drop (i + 1) := by
    rw [List.drop_eq_getElem_cons hi]; simp [List.getD, hi]
  rw [e, List.drop_of_length_le hj]
  exact mt_one_nil h _
/-- What the matching loop holds: 'i', 'j': parts and bytes that are matched; 'a', 'b': the last star and the end of what it takes (none: a = -1). -/
def Inv (L : List (List UInt8)) (s : List UInt8) (i j : Nat) (a b : Int) : Prop :=
  i ≤ L.length ∧ j ≤ s.length ∧
  ((a = -1 ∧ b = -1 ∧ (M L s 0 0 ↔ M L s i j)) ∨
   (∃ x y : Nat, a = x ∧ b = y ∧ x < i ∧ y ≤ j ∧ j = y + (i - (x + 1)) ∧ (∀ k, x < k → k < i → L.getD k [] ≠ star) ∧
     (M L s 0 0 ↔ (M L s i j ∨ ∃ k, y < k ∧ k ≤ s.length ∧ M L s (x + 1) k))))
theorem Inv.start (L : List (List UInt8)) (s : List UInt8) : Inv L s 0 0 (-1) (-1) := ⟨by omega, by omega, .inl ⟨rfl, rfl, Iff.rfl⟩⟩
theorem Inv.star {L : List (List UInt8)} {s : List UInt8} {i j : Nat} {a b : Int} (h : Inv L s i j a b) (hi : i < L.length) (hs : L.getD i [] = star) : Inv L s (i + 1) j i j := by
  obtain ⟨h1, h2, h3⟩ := h
  refine ⟨by omega, h2, .inr ⟨i, j, rfl, rfl, by omega, by omega, by omega, fun k hk hk' => by omega, ?_⟩⟩
  have key : (M L s (i + 1) j ∨ ∃ k, j < k ∧ k ≤ s.length ∧ M L s (i + 1) k) ↔ M L s i j := by
    rw [M_star hi hs h2]
    constructor
    · rintro (h | ⟨k, h4, h5, h6⟩)
      · exact ⟨j, by omega, h2, h⟩
      · exact ⟨k, by omega, h5, h6⟩
    · rintro ⟨k, h4, h5, h6⟩
      by_cases e : k = j
      · subst e; exact .inl h6
      · exact .inr ⟨k, by omega, h5, h6⟩
  rw [key]
  rcases h3 with ⟨_, _, h3⟩ | ⟨x, y, _, _, hx, hy, hj, hn, h3⟩
  · exact h3
  · rw [h3]
    constructor
    · rintro (h | ⟨k, h4, h5, h6⟩)
      · exact h
      · have hd : L.drop (x + 1) = (L.drop (x + 1)).take (i - (x + 1)) ++ L.drop i := by
          conv => lhs; rw [← List.take_append_drop (i - (x + 1)) (L.drop (x + 1))]
          rw [List.drop_drop, show x + 1 + (i - (x + 1)) = i by omega]
        have hl : ((L.drop (x + 1)).take (i - (x + 1))).length = i - (x + 1) := by rw [List.length_take, List.length_drop]; omega
        unfold M at h6
        rw [hd] at h6
        have := mt_shift _ _ _ (fun p hp => by
          obtain ⟨q, hq, rfl⟩ := List.getElem_of_mem hp
          rw [hl] at hq
          have := hn (x + 1 + q) (by omega) (by omega)
          simpa [List.getD, show x + 1 + q < L.length by omega] using this) h6
        rw [hl, List.drop_drop, List.length_drop] at this
        have hM : M L s i (k + (i - (x + 1))) := this.2
        by_cases hk : k + (i - (x + 1)) ≤ s.length
        · rw [M_star hi hs h2]
          obtain ⟨q, q1, q2, q3⟩ := (M_star hi hs hk).1 hM
          exact ⟨q, by omega, q2, q3⟩
        · exfalso; omega
    · exact .inl
theorem Inv.one {L : List (List UInt8)} {s : List UInt8} {i j : Nat} {a b : Int} (h : Inv L s i j a b) (hi : i < L.length) (hs : L.getD i [] ≠ WireM.star) (hj : j < s.length) (hf : fit (L.getD i []) s[j] = true) : Inv L s (i + 1) (j + 1) a b := by
  obtain ⟨h1, h2, h3⟩ := h
  have key : M L s i j ↔ M L s (i + 1) (j + 1) := by rw [M_one hi hs hj, hf]; simp
  refine ⟨by omega, by omega, ?_⟩
  rcases h3 with ⟨ha, hb, h3⟩ | ⟨x, y, ha, hb, hx, hy, hjj, hn, h3⟩
  · exact .inl ⟨ha, hb, h3.trans key⟩
  · refine .inr ⟨x, y, ha, hb, by omega, by omega, by omega, fun k hk hk' => ?_, by rw [h3, key]⟩
    by_cases e : k = i
    · subst e; exact hs
    · exact hn k hk (by omega)
/-- Where the loop can't go on, nothing matches here. -/
def Stuck (L : List (List UInt8)) (s : List UInt8) (i j : Nat) : Prop := ¬ M L s i j
theorem Inv.back {L : List (List UInt8)} {s : List UInt8} {i j x y : Nat} (h : Inv L s i j x y) (hst : ¬ M L s i j) (hy : y < s.length) : Inv L s (x + 1) (y + 1) x ((y : Int) + 1) := by
  obtain ⟨h1, h2, h3⟩ := h
  rcases h3 with ⟨ha, hb, h3⟩ | ⟨x', y', ha, hb, hx, hy', hjj, hn, h3⟩
  · omega
  · obtain rfl : x' = x := by omega
    obtain rfl : y' = y := by omega
    refine ⟨by omega, by omega, .inr ⟨x', y' + 1, rfl, by omega, by omega, by omega, by omega, fun k hk hk' => by omega, ?_⟩⟩
    rw [h3]
    constructor
    · rintro (h | ⟨k, a, b, c⟩)
      · exact absurd h hst
      · by_cases e : k = y' + 1
        · subst e; exact .inl c
        · exact .inr ⟨k, by omega, b, c⟩
    · rintro (h | ⟨k, a, b, c⟩)
      · exact .inr ⟨y' + 1, by omega, by omega, h⟩
      · exact .inr ⟨k, by omega, b, c⟩
theorem Inv.done {L : List (List UInt8)} {s : List UInt8} {a b : Int} (h : Inv L s L.length s.length a b) : M L s 0 0 := by
  obtain ⟨h1, h2, h3⟩ := h
  have hm : M L s L.length s.length := (M_end (Nat.le_refl _)).2 rfl
  rcases h3 with ⟨_, _, h3⟩ | ⟨x, y, _, _, _, _, _, _, h3⟩
  · exact h3.2 hm
  · exact h3.2 (.inl hm)
theorem Inv.stop {L : List (List UInt8)} {s : List UInt8} {i j : Nat} {a b : Int} (h : Inv L s i j a b) (hst : ¬ M L s i j) (hb : a < 0 ∨ (s.length : Int) ≤ b) : ¬ M L s 0 0 := by
  obtain ⟨h1, h2, h3⟩ := h
  rcases h3 with ⟨_, _, h3⟩ | ⟨x, y, ha, hb', _, _, _, _, h3⟩
  · exact fun hm => hst (h3.1 hm)
  · intro hm
    rcases h3.1 hm with hm | ⟨k, a1, a2, a3⟩
    · exact hst hm
    · omega
theorem stuck_end {L : List (List UInt8)} {s : List UInt8} {j : Nat} (hj : j < s.length) : ¬ M L s L.length j := fun h => by
  have := (M_end (Nat.le_of_lt hj)).1 h; omega
theorem stuck_fit {L : List (List UInt8)} {s : List UInt8} {i j : Nat} (hi : i < L.length) (hs : L.getD i [] ≠ star) (hj : j < s.length) (hf : fit (L.getD i []) s[j] = false) : ¬ M L s i j := fun h => by
  have := ((M_one hi hs hj).1 h).1
  rw [hf] at this; cases this

/-! PLAIN, MAGIC, ESCAPE -/
def unprot (t : List UInt8) : List UInt8 := if t.length = 2 then t.drop 1 else t
def plainOf (l : List UInt8) : List UInt8 := (parts l).flatMap unprot
def magicT (t : List UInt8) : Bool := decide (t = [42]) || decide (t = [63]) || decide (2 < t.length)
def magicOf (l : List UInt8) : Bool := (parts l).any magicT
def special (c : UInt8) : Bool := c.toNat == 42 || c.toNat == 63 || c.toNat == 91 || c.toNat == 92
def escB (c : UInt8) : List UInt8 := if special c = true then [92, c] else [c]
def escOf (l : List UInt8) : List UInt8 := l.flatMap escB
theorem escOf_cons (c : UInt8) (l : List UInt8) : escOf (c :: l) = escB c ++ escOf l := by simp [escOf]
theorem escOf_len (l : List UInt8) : (escOf l).length ≤ 2 * l.length := by
  induction l with
  | nil => simp [escOf]
  | cons c l ih =>
    rw [escOf_cons, List.length_append, List.length_cons]
    have : (escB c).length ≤ 2 := by unfold escB; split <;> simp
    omega
theorem plainOf_len : ∀ (n : Nat) (l : List UInt8), l.length ≤ n → (plainOf l).length ≤ l.length
  | _, [], _ => by simp [plainOf, parts_nil]
  | 0, c :: r, h => by simp at h
  | n + 1, c :: r, h => by
    have hp := partLen_pos c r
    unfold plainOf
    rw [parts_cons, List.flatMap_cons, List.length_append]
    have := plainOf_len n ((c :: r).drop (partLen (c :: r))) (by rw [List.length_drop]; omega)
    rw [List.length_drop] at this
    have h2 : (unprot ((c :: r).take (partLen (c :: r)))).length ≤ partLen (c :: r) := by
      unfold unprot; split
      · rw [List.length_drop, List.length_take]; omega
      · rw [List.length_take]; omega
    unfold plainOf at this
    omega
theorem parts_esc (c : UInt8) (X : List UInt8) : parts (escB c ++ X) = escB c :: parts X := by
  unfold escB
  by_cases h : special c = true
  · rw [if_pos h]
    exact parts_two 92 c X (partLen_bs c X)
  · rw [if_neg h]
    have h' : ¬ (c.toNat = 92) ∧ ¬ (c.toNat = 91) := by
      unfold special at h; simp at h; omega
    exact parts_one c X (partLen_plain h'.1 h'.2)
theorem parts_escOf (t X : List UInt8) : parts (escOf t ++ X) = t.map escB ++ parts X := by
  induction t with
  | nil => simp [escOf]
  | cons c t ih => rw [escOf_cons, List.append_assoc, parts_esc, ih]; rfl
theorem escB_ne (c : UInt8) : escB c ≠ star := by
  unfold escB star
  split
  · simp
  · rename_i h
    intro e
    simp at e; subst e
    exact h rfl
theorem escB_fit (c d : UInt8) : fit (escB c) d = decide (c = d) := by
  unfold escB fit
  by_cases h : special c = true
  · rw [if_pos h]; simp [List.getD]
  · rw [if_neg h]
    have h63 : c ≠ 63 := by
      intro e; subst e; exact h rfl
    simp [List.getD, h63]
theorem mt_esc (P : List (List UInt8)) (s : List UInt8) : ∀ t : List UInt8, mt (t.map escB ++ P) (t ++ s) ↔ mt P s
  | [] => by simp
  | c :: t => by
    rw [List.map_cons, List.cons_append, List.cons_append, mt_one (escB_ne c), escB_fit, mt_esc P s t]; simp
theorem magic_esc (t : List UInt8) : magicOf (escOf t) = false := by
  have e := parts_escOf t []
  rw [List.append_nil, parts_nil, List.append_nil] at e
  unfold magicOf
  rw [e, List.any_eq_false]
  intro x hx
  obtain ⟨c, _, rfl⟩ := List.mem_map.1 hx
  unfold magicT
  have h1 : escB c ≠ [42] := escB_ne c
  have h2 : escB c ≠ [63] := by
    unfold escB
    split
    · simp
    · rename_i h
      intro e; simp at e; subst e; exact h rfl
  have h3 : ¬ 2 < (escB c).length := by unfold escB; split <;> simp
  simp [h1, h2, h3]
theorem plain_esc (t : List UInt8) : plainOf (escOf t) = t := by
  have e := parts_escOf t []
  rw [List.append_nil, parts_nil, List.append_nil] at e
  unfold plainOf
  rw [e]
  induction t with
  | nil => rfl
  | cons c t ih =>
    have e' := parts_escOf t []
    rw [List.append_nil, parts_nil, List.append_nil] at e'
    rw [List.map_cons, List.flatMap_cons, ih e']
    unfold escB unprot
    split <;> simp
theorem mt_esc_self (t : List UInt8) : mt (parts (escOf t)) t := by
  have e := parts_escOf t []
  rw [List.append_nil, parts_nil] at e
  rw [e]
  have := (mt_esc [] [] t).2 (by simp [mt])
  simpa using this
/-- A pattern without magic matches its plain string alone. -/
theorem mt_plain : ∀ (P : List (List UInt8)) (s : List UInt8), (∀ t ∈ P, magicT t = false ∧ 1 ≤ t.length) → (mt P s ↔ s = P.flatMap unprot)
  | [], s, _ => by simp [mt]
  | t :: P, s, h => by
    obtain ⟨h0, h1⟩ := h t List.mem_cons_self
    have ih := fun s => mt_plain P s fun x hx => h x (List.mem_cons_of_mem _ hx)
    unfold magicT at h0
    simp only [Bool.or_eq_false_iff, decide_eq_false_iff_not] at h0
    obtain ⟨⟨h42, h63⟩, hl⟩ := h0
    obtain ⟨c, hc, hf⟩ : ∃ c, unprot t = [c] ∧ ∀ d, fit t d = decide (c = d) := by
      match t, h1, hl with
      | [c], _, _ =>
        refine ⟨c, rfl, fun d => ?_⟩
        unfold fit
        simp [List.getD] at h63 ⊢
        simp [h63]
      | [a, c], _, _ => exact ⟨c, rfl, fun d => by unfold fit; simp [List.getD]⟩
      | _ :: _ :: _ :: _, _, hl => simp at hl
    rw [List.flatMap_cons, hc]
    cases s with
    | nil =>
      constructor
      · intro h; exact absurd h (mt_one_nil h42 _)
      · intro h; simp at h
    | cons d r =>
      rw [mt_one h42, hf, ih r]
      simp only [decide_eq_true_eq, List.cons_append, List.nil_append, List.cons.injEq]
      constructor
      · rintro ⟨rfl, rfl⟩; exact ⟨rfl, rfl⟩
      · rintro ⟨rfl, rfl⟩; exact ⟨rfl, rfl⟩
theorem plain_law (p s : List UInt8) (h : magicOf p = false) : mt (parts p) s ↔ s = plainOf p := by
  unfold magicOf at h
  rw [List.any_eq_false] at h
  exact mt_plain (parts p) s fun t ht => ⟨by simpa using h t ht, (parts_pos _ p (Nat.le_refl _) t ht).1⟩

/-! STARS -/
theorem parts_star (p : List UInt8) : parts (42 :: p) = star :: parts p := parts_one 42 p (partLen_plain (by decide) (by decide))
theorem parts_any (p : List UInt8) : parts (63 :: p) = [63] :: parts p := parts_one 63 p (partLen_plain (by decide) (by decide))
theorem fit_any (c : UInt8) : fit [63] c = true := by simp [fit]
theorem i93_snoc (l : List UInt8) : i93 (l ++ [42]) = i93 l := by
  unfold i93
  induction l with
  | nil => rfl
  | cons c r ih => rw [List.cons_append, Lib.indexByte, Lib.indexByte, ih]
theorem i93_drop (l : List UInt8) (k : Nat) : i93 ((l ++ [42]).drop k) = i93 (l.drop k) := by
  by_cases h : k ≤ l.length
  · rw [List.drop_append_of_le_length h, i93_snoc]
  · rw [List.drop_of_length_le (by simp; omega), List.drop_of_length_le (by omega)]
theorem clsLen_snoc (l : List UInt8) (h : 0 ≤ i93 (l.drop 2)) : clsLen (l ++ [42]) = clsLen l := by
  have hl := i93_lt (l.drop 2)
  rw [List.length_drop] at hl
  unfold clsLen
  rw [i93_drop, i93_drop, List.drop_append_of_le_length (by omega)]
  have : (l.drop 1 ++ [42]).head? = (l.drop 1).head? := by
    cases e : l.drop 1 with
    | nil => have := congrArg List.length e; rw [List.length_drop] at this; simp at this; omega
    | cons a r => rfl
  rw [this]
theorem partLen_snoc (c : UInt8) (r : List UInt8) (h : r = [] → c.toNat ≠ 92) : partLen (c :: (r ++ [42])) = partLen (c :: r) := by
  rw [partLen, partLen]
  have e1 : (c.toNat = 92 ∧ r ++ [42] ≠ []) ↔ (c.toNat = 92 ∧ r ≠ []) := by
    constructor
    · rintro ⟨a, _⟩; exact ⟨a, fun e => h e a⟩
    · rintro ⟨a, _⟩; exact ⟨a, by simp⟩
  have e2 : (c.toNat = 91 ∧ 0 ≤ i93 ((r ++ [42]).drop 1)) ↔ (c.toNat = 91 ∧ 0 ≤ i93 (r.drop 1)) := by rw [i93_drop]
  by_cases h1 : c.toNat = 92 ∧ r ≠ []
  · rw [if_pos h1, if_pos (e1.2 h1)]
  · rw [if_neg h1, if_neg (fun x => h1 (e1.1 x))]
    by_cases h2 : c.toNat = 91 ∧ 0 ≤ i93 (r.drop 1)
    · rw [if_pos h2, if_pos (e2.2 h2)]
      exact clsLen_snoc (c :: r) h2.2
    · rw [if_neg h2, if_neg (fun x => h2 (e2.1 x))]
theorem parts_snoc : ∀ (n : Nat) (p : List UInt8), p.length ≤ n → (p.getLast?.map (·.toNat) ≠ some 92) → parts (p ++ [42]) = parts p ++ [star]
  | _, [], _, _ => by rw [List.nil_append, parts_star, parts_nil]; rfl
  | 0, c :: r, h, _ => by simp at h
  | n + 1, c :: r, h, hl => by
    have hp := partLen_pos c r
    have e := partLen_snoc c r (fun e => by subst e; simpa using hl)
    rw [List.cons_append, parts_cons, e, parts_cons c r]
    have e1 : (c :: (r ++ [42])).take (partLen (c :: r)) = (c :: r).take (partLen (c :: r)) := by
      rw [← List.cons_append, List.take_append_of_le_length hp.2]
    have e2 : (c :: (r ++ [42])).drop (partLen (c :: r)) = (c :: r).drop (partLen (c :: r)) ++ [42] := by
      rw [← List.cons_append, List.drop_append_of_le_length hp.2]
    rw [e1, e2, parts_snoc n _ (by rw [List.length_drop]; omega) ?_]
    · rfl
    · rw [List.getLast?_drop]
      split
      · simp
      · exact hl
theorem star_end (p s : List UInt8) (h : p.getLast?.map (·.toNat) ≠ some 92) : mt (parts (p ++ [42])) s ↔ ∃ k, k ≤ s.length ∧ mt (parts p) (s.take k) := by
  rw [parts_snoc _ p (Nat.le_refl _) h, mt_append]
  constructor
  · rintro ⟨k, a, b, _⟩; exact ⟨k, a, b⟩
  · rintro ⟨k, a, b⟩
    exact ⟨k, a, b, (mt_star _ _).2 ⟨(s.drop k).length, Nat.le_refl _, by rw [List.drop_length, mt]⟩⟩
theorem star_begin (p s : List UInt8) : mt (parts (42 :: p)) s ↔ ∃ k, k ≤ s.length ∧ mt (parts p) (s.drop k) := by rw [parts_star, mt_star]
theorem any_begin (p : List UInt8) (c : UInt8) (r : List UInt8) : mt (parts (63 :: p)) (c :: r) ↔ mt (parts p) r := by
  rw [parts_any, mt_one (by decide), fit_any]; simp
theorem any_nil (p : List UInt8) : ¬ mt (parts (63 :: p)) [] := by
  rw [parts_any]; exact mt_one_nil (by decide) _
theorem esc_begin (t p s : List UInt8) : mt (parts (escOf t ++ p)) (t ++ s) ↔ mt (parts p) s := by rw [parts_escOf, mt_esc]
/-- Pattern's answer. -/
def patB (p s : List UInt8) : Bool := mtB (parts p) s
theorem patB_M (p s : List UInt8) : patB p s = true ↔ M (parts p) s 0 0 := by
  unfold patB M; rw [mtB_iff]; simp
theorem patB_no {p s : List UInt8} (h : ¬ M (parts p) s 0 0) : patB p s = false := by
  rw [← Bool.not_eq_true, patB_M]; exact h
end Go.Proofs.YteccccpjhpbebaaGreatDoor.WireM
