/-
  THE REFERENCE's WAY OF READING AN INT, PLAIN MATHEMATICS (no program in this text).
-/
import Derived.Test.YteccccpjhpbebaaGreatDoorMb
namespace Go.Proofs.YteccccpjhpbebaaGreatDoor.WireM
open Go
set_option linter.unusedVariables false
set_option linter.unusedSimpArgs false

def rdIntE (e : UInt8) (L : List UInt8) : Option (Int × List UInt8) :=
  match L with
  | [] => none
  | c :: r => if c = 45 then (scan 9223372036854775808 e false 0 r).bind fun p => if p.1 = 0 then none else some (-(p.1 : Int), p.2) else (dgMax e (c :: r)).map fun p => ((p.1 : Int), p.2)
theorem rdIntE_59 (L : List UInt8) : rdIntE 59 L = rdInt L := by
  cases L <;> rfl
theorem rdIntE_read (e : UInt8) (he : e.toNat < 48 ∨ 57 < e.toNat) (n : Int) (t : List UInt8) (h0 : -9223372036854775808 ≤ n) (h1 : n ≤ 9223372036854775807) : rdIntE e (Lib.itoa n ++ e :: t) = some (n, t) := by
  by_cases hn : n < 0
  · obtain ⟨m, rfl⟩ : ∃ m : Nat, n = -(m : Int) := ⟨n.natAbs, by omega⟩
    have : scan 9223372036854775808 e false 0 (Lib.decDigits m ++ e :: t) = some (m, t) := scan_read _ e he t m (by omega)
    rw [itoa_negs m (by omega)]
    show rdIntE e (45 :: (Lib.decDigits m ++ e :: t)) = _
    rw [rdIntE, if_pos rfl, this]
    show (if m = 0 then none else some (-(m : Int), t)) = _
    rw [if_neg (by omega)]
  · obtain ⟨m, rfl⟩ : ∃ m : Nat, n = (m : Int) := ⟨n.toNat, by omega⟩
    obtain ⟨c, r, hd, hc, _⟩ := dd_head m
    have h : dgMax e (Lib.decDigits m ++ e :: t) = some (m, t) := scan_read _ e he t m (by omega)
    have e2 : Lib.itoa (m : Int) ++ e :: t = c :: (r ++ e :: t) := by rw [itoa_nat, hd]; simp
    rw [hd] at h
    rw [e2, rdIntE, if_neg (fun a => by subst a; exact absurd hc (by decide))]
    rw [List.cons_append] at h
    rw [h]
    rfl
theorem rdIntE_canon {e : UInt8} {L t : List UInt8} {v : Int} (h : rdIntE e L = some (v, t)) : L = Lib.itoa v ++ e :: t ∧ -9223372036854775808 ≤ v ∧ v ≤ 9223372036854775807 := by
  unfold rdIntE at h
  split at h
  · simp at h
  · rename_i c r
    split at h
    · rename_i hc
      simp only [Option.bind_eq_some_iff] at h
      obtain ⟨⟨n, t'⟩, h1, h2⟩ := h
      split at h2
      · simp at h2
      · rename_i hn
        simp only [Option.some.injEq, Prod.mk.injEq] at h2
        obtain ⟨rfl, rfl⟩ := h2
        have := scan_le h1 (by omega)
        refine ⟨?_, by omega, by omega⟩
        rw [scan_canon h1, itoa_negs n hn, hc]
        simp
    · simp only [Option.map_eq_some_iff] at h
      obtain ⟨⟨n, t'⟩, h1, h2⟩ := h
      simp only [Prod.mk.injEq] at h2
      obtain ⟨rfl, rfl⟩ := h2
      have := dgMax_le h1
      refine ⟨?_, by omega, by omega⟩
      rw [scan_canon h1, itoa_nat]
/-- Reading digits is reading an int that is not negative. -/
theorem dgMax_of {e : UInt8} {L : List UInt8} : dgMax e L = match rdIntE e L with | some (v, t) => if v < 0 then none else some (v.toNat, t) | none => none := by
  cases L with
  | nil => rfl
  | cons c r =>
    have hcons : rdIntE e (c :: r) = if c = 45 then (scan 9223372036854775808 e false 0 r).bind fun p => if p.1 = 0 then none else some (-(p.1 : Int), p.2) else (dgMax e (c :: r)).map fun p => ((p.1 : Int), p.2) := rfl
    rw [hcons]
    by_cases hc : c = 45
    · rw [if_pos hc]
      have h0 : dgMax e (c :: r) = none := by
        subst hc
        unfold dgMax
        rw [scan, if_neg (by simp), if_pos (by decide)]
      rw [h0]
      cases hs : scan 9223372036854775808 e false 0 r with
      | none => rfl
      | some p =>
        obtain ⟨n, t⟩ := p
        by_cases hn : n = 0
        · simp [hn]
        · simp [hn]
    · rw [if_neg hc]
      cases hs : dgMax e (c :: r) with
      | none => rfl
      | some p =>
        obtain ⟨n, t⟩ := p
        simp
theorem rdIntE_len {e : UInt8} {L t : List UInt8} {v : Int} (h : rdIntE e L = some (v, t)) : t.length < L.length := by
  have := (rdIntE_canon h).1
  rw [this, List.length_append, List.length_cons]; omega

def dval (l : List UInt8) : Nat := l.foldl (fun a c => a * 10 + (c.toNat - 48)) 0
theorem dval_snoc (l : List UInt8) (c : UInt8) : dval (l ++ [c]) = dval l * 10 + (c.toNat - 48) := by
  simp [dval, List.foldl_append]
theorem dval_dd (u : Nat) : dval (Lib.decDigits u) = u := by
  induction u using Nat.strongRecOn with
  | _ u ih =>
    by_cases h : u < 10
    · rw [dd_small h]
      show 0 * 10 + ((UInt8.ofNat (48 + u)).toNat - 48) = u
      rw [ofNat_toNat (by omega)]; omega
    · rw [dd_big h, dval_snoc, ih (u / 10) (by omega), ofNat_toNat (by omega)]; omega
theorem dd_digits (u : Nat) : ∀ c ∈ Lib.decDigits u, 48 ≤ c.toNat ∧ c.toNat ≤ 57 := by
  induction u using Nat.strongRecOn with
  | _ u ih =>
    intro c hc
    by_cases h : u < 10
    · rw [dd_small h] at hc
      simp only [List.mem_singleton] at hc
      rw [hc, ofNat_toNat (by omega)]; omega
    · rw [dd_big h] at hc
      rcases List.mem_append.1 hc with h1 | h1
      · exact ih (u / 10) (by omega) c h1
      · simp only [List.mem_singleton] at h1
        rw [h1, ofNat_toNat (by omega)]; omega
theorem dval_mono (l : List UInt8) : ∀ k, dval (l.take k) ≤ dval l := by
  have h : ∀ (a b : List UInt8), dval a ≤ dval (a ++ b) := by
    intro a b
    induction b generalizing a with
    | nil => simp
    | cons c b ih =>
      have h1 := ih (a ++ [c])
      rw [dval_snoc] at h1
      rw [List.append_assoc, List.singleton_append] at h1
      omega
  intro k
  have := h (l.take k) (l.drop k)
  rwa [List.take_append_drop] at this
theorem dval_succ (l : List UInt8) (k : Nat) (h : k < l.length) : dval (l.take (k + 1)) = dval (l.take k) * 10 + (l[k].toNat - 48) := by
  rw [List.take_succ_eq_append_getElem h, dval_snoc]
theorem itoa_mem {e : UInt8} (he : e.toNat < 48 ∨ 57 < e.toNat) (h45 : e ≠ 45) (v : Int) : e ∉ Lib.itoa v := by
  unfold Lib.itoa
  split
  · intro h
    rcases List.mem_cons.1 h with h1 | h1
    · exact h45 h1
    · have := dd_digits _ _ h1; omega
  · intro h
    have := dd_digits _ _ h; omega
end Go.Proofs.YteccccpjhpbebaaGreatDoor.WireM
