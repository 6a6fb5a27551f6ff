/-
  THE REFERENCE: what Unquote reads, in plain mathematics.
-/
import Derived.Test.YteccccpjhpbebaaGreatDoorUh
namespace Go.Proofs.YteccccpjhpbebaaGreatDoor
open Go.RowKit WireM
set_option linter.unusedVariables false
set_option linter.unusedSimpArgs false

/-- What is read of the bytes between the quotes. -/
def rdq : List UInt8 → List UInt8
  | [] => []
  | [c] => [c]
  | b :: c :: r =>
    if b.toNat = 92 then
      if c.toNat = 110 then 10 :: rdq r
      else if c.toNat = 120 ∧ 2 ≤ r.length then UInt8.ofNat (hexv (r.getD 0 0) * 16 + hexv (r.getD 1 0)) :: rdq (r.drop 2)
      else c :: rdq r
    else b :: rdq (c :: r)
termination_by l => l.length
decreasing_by all_goals (simp; try omega)
theorem rdq_plain (b : UInt8) (r : List UInt8) (h : b.toNat ≠ 92) : rdq (b :: r) = b :: rdq r := by
  cases r with
  | nil => rw [rdq, rdq]
  | cons c r => rw [rdq, if_neg h]
theorem rdq_lf (c : UInt8) (r : List UInt8) (h : c.toNat = 110) : rdq (92 :: c :: r) = 10 :: rdq r := by
  rw [rdq, if_pos (by decide), if_pos h]
theorem rdq_hex (c : UInt8) (r : List UInt8) (h : c.toNat = 120) (h2 : 2 ≤ r.length) : rdq (92 :: c :: r) = UInt8.ofNat (hexv (r.getD 0 0) * 16 + hexv (r.getD 1 0)) :: rdq (r.drop 2) := by
  rw [rdq, if_pos (by decide), if_neg (by omega), if_pos ⟨h, h2⟩]
theorem rdq_esc (c : UInt8) (r : List UInt8) (h1 : c.toNat ≠ 110) (h2 : ¬ (c.toNat = 120 ∧ 2 ≤ r.length)) : rdq (92 :: c :: r) = c :: rdq r := by
  rw [rdq, if_pos (by decide), if_neg h1, if_neg h2]
theorem rdq_end : rdq [92] = [92] := by rw [rdq]
theorem rdq_qs (t : List UInt8) : rdq (qs t) = t := by
  induction t with
  | nil => rw [qs_nil, rdq]
  | cons c t ih =>
    rw [qs_cons]
    rcases qb_cases c with ⟨h1, e⟩ | ⟨h1, e⟩ | ⟨h1, h2, e⟩ | ⟨h1, h2, h3, h4, e⟩
    · rw [e]
      show rdq (92 :: c :: qs t) = _
      rw [rdq_esc c _ (by omega) (fun h => by omega), ih]
    · rw [e]
      show rdq (92 :: 110 :: qs t) = _
      rw [rdq_lf _ _ (by decide), ih]
      congr 1
      exact (UInt8.toNat_inj.1 h1).symm
    · rw [e]
      show rdq (92 :: 120 :: hexd (c.toNat / 16) :: hexd (c.toNat % 16) :: qs t) = _
      have hc : c.toNat < 256 := c.toNat_lt
      rw [rdq_hex _ _ (by decide) (by simp)]
      show UInt8.ofNat (hexv (hexd (c.toNat / 16)) * 16 + hexv (hexd (c.toNat % 16))) :: rdq (qs t) = _
      rw [ih, hexv_hexd _ (by omega), hexv_hexd _ (by omega)]
      congr 1
      refine UInt8.toNat_inj.1 ?_
      rw [UInt8.toNat_ofNat']; omega
    · rw [e]
      show rdq (c :: qs t) = _
      rw [rdq_plain c _ h2, ih]

/-- What fits tells of a part's five fields. -/
def fitB (kind : Nat) (b : UInt8) (set : List UInt8) (no : Bool) (c : UInt8) : Bool :=
  if kind = 2 then true else if kind = 3 then (inSet set c != no) else b.toNat == c.toNat
theorem rfits_any (kind : Nat) (b c : UInt8) (set text : ByteArray) (no : Bool) (hk : kind ≤ 3) (hs : set.size ≤ 1000000000) (w : World) :
    Calls Tryz.prog 40 #[.agg #[.int .i64 kind, .int .u8 b.toNat, .string set, .bool no, .string text], .int .u8 c.toNat] w fun e w' => e = .returned (.bool (fitB kind b set.data.toList no c)) ∧ Below w.heap.size w w' := by
  have ha := (Below.refl w.heap.size w).alloc (Nat.le_refl _) (.cells #[.int .i64 kind, .int .u8 b.toNat, .string set, .bool no, .string text] 56)
  by_cases h2 : kind = 2
  · subst h2
    go_enter Tryz.func40, Tryz.ntmps40
    go_wp2_with fail
    go_ret
    exact ⟨by simp [fitB], ha⟩
  · have e2 : ((kind : Int) == 2) = false := by rw [beq_eq_false_iff_ne]; omega
    by_cases h3 : kind = 3
    · subst h3
      go_enter Tryz.func40, Tryz.ntmps40
      have hq := fun W => (rin_any set c hs W).mono (R' := fun e w' => e = .returned (.bool (inSet set.data.toList c)) ∧ ∃ n, w' = W.drewN n) fun e w' h => ⟨h.1, 0, h.2.symm⟩
      go_wp2_with fail
      go_quiet ((go_at_call 53; exact Calls.quiet_of (hq _)))
      go_wp2_with fail
      go_ret
      exact ⟨by unfold fitB; rw [if_neg (by decide), if_pos rfl]; rfl, Go.below_drewN ha _⟩
    · have e3 : ((kind : Int) == 3) = false := by rw [beq_eq_false_iff_ne]; omega
      by_cases he : b.toNat = c.toNat
      · have f : ((b.toNat : Int) == c.toNat) = true := by rw [beq_iff_eq]; omega
        have HR := Lib.hid (show fitB kind b set.data.toList no c = true by unfold fitB; rw [if_neg h2, if_neg h3]; simp [he])
        clear he h2 h3
        go_enter Tryz.func40, Tryz.ntmps40
        go_wp2_with fail
        go_ret
        exact ⟨by rw [HR.out]; rfl, ha⟩
      · have f : ((b.toNat : Int) == c.toNat) = false := by rw [beq_eq_false_iff_ne]; omega
        have HR := Lib.hid (show fitB kind b set.data.toList no c = false by unfold fitB; rw [if_neg h2, if_neg h3]; simp [he])
        clear he h2 h3
        go_enter Tryz.func40, Tryz.ntmps40
        go_wp2_with fail
        go_ret
        exact ⟨by rw [HR.out]; rfl, ha⟩
end Go.Proofs.YteccccpjhpbebaaGreatDoor
