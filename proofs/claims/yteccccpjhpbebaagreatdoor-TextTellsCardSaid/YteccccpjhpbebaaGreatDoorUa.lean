/-
  THE REFERENCE: Decimal.
-/
import Derived.Test.YteccccpjhpbebaaGreatDoorTq
namespace Go.Proofs.YteccccpjhpbebaaGreatDoor
open Go.RowKit WireM
set_option linter.unusedVariables false
set_option linter.unusedSimpArgs false

/-- string([]byte{c}). -/
theorem one_string (w : World) (c : UInt8) (v : Int) (hv : v = c.toNat) :
    (convert 42 9 (.slice (some ⟨w.heap.size, 0, none⟩) 1 1)).run Tryz.prog (w.alloc (.cells #[.int .u8 v] 5)) = .ok (.string (bs [c])) (w.alloc (.cells #[.int .u8 v] 5)) := by
  subst hv
  refine run_convert_bytes_back (P := Tryz.prog) _ 42 9 5 ⟨w.heap.size, 0, none⟩ 1 [c] Tryz.underlying42 Tryz.underlying5 Tryz.underlying9 ?_
  intro j hj
  match j, hj with
  | 0, _ => simp [Addr.add]
theorem rdec_digit (d : Nat) (c : UInt8) (h : d < 10) (hv : (48 : Int) + d = c.toNat) (w : World) :
    Calls Tryz.prog 10 #[.int .i64 d] w fun e w' => e = .returned (.string (bs [c])) ∧ Below w.heap.size w w' := by
  have g1 : (0 : Int) ≤ d := by omega
  have g2 : (d : Int) < 10 := by omega
  have hs := one_string w c (48 + d) hv
  clear hv
  go_enter Tryz.func10, Tryz.ntmps10
  go_wp2_with fail
  go_ret
  exact ⟨rfl, (Below.refl _ w).alloc (Nat.le_refl _) _⟩
theorem dd_of (d : Nat) (h : d < 10) : ∃ c : UInt8, (48 : Int) + d = c.toNat ∧ Lib.decDigits d = [c] ∧ UInt8.ofNat (48 + d) = c :=
  ⟨UInt8.ofNat (48 + d), by rw [UInt8.toNat_ofNat']; omega, dd_small h, rfl⟩
theorem cat_bs (a b : List UInt8) : bs a ++ bs b = bs (a ++ b) := ext (by rw [show (bs a ++ bs b).data.toList = (bs a).data.toList ++ (bs b).data.toList by simp, bs_data, bs_data, bs_data])
theorem dd_len (n : Nat) (h : n ≤ 9223372036854775808) : (Lib.decDigits n).length ≤ 20 := by
  by_cases h0 : n = 9223372036854775808
  · have := (itoa_len (-(n : Int)) (by omega) (by omega)).1
    rw [itoa_negs n (by omega)] at this
    simp at this; omega
  · have := (itoa_len (n : Int) (by omega) (by omega)).1
    rw [itoa_nat] at this
    omega
set_option maxHeartbeats 1000000 in
theorem rdec_nat : ∀ (k n : Nat), n ≤ k → n ≤ 9223372036854775807 → ∀ w : World,
    Calls Tryz.prog 10 #[.int .i64 n] w fun e w' => e = .returned (.string (bs (Lib.decDigits n))) ∧ Below w.heap.size w w' := by
  intro k
  induction k with
  | zero =>
    intro n hn _ w
    obtain rfl : n = 0 := by omega
    obtain ⟨c, hc, hd, _⟩ := dd_of 0 (by decide)
    rw [hd]
    exact rdec_digit 0 c (by decide) hc w
  | succ k ih =>
    intro n hn hm w
    by_cases h : n < 10
    · obtain ⟨c, hc, hd, _⟩ := dd_of n h
      rw [hd]
      exact rdec_digit n c h hc w
    · obtain ⟨v, hv⟩ : ∃ v, n / 10 = v := ⟨_, rfl⟩
      obtain ⟨d, hd⟩ : ∃ d, n % 10 = d := ⟨_, rfl⟩
      have HV := Lib.hid (fun w => ih v (by omega) (by omega) w)
      obtain ⟨c, hc, _, hcd⟩ := dd_of d (by omega)
      have HD := Lib.hid (fun w => rdec_digit d c (by omega) hc w)
      have HB := Lib.hid (show Lib.decDigits n = Lib.decDigits v ++ [c] by rw [dd_big h, hv, hd, hcd])
      have hq : Int.tdiv (n : Int) 10 = (v : Int) := by rw [Int.tdiv_eq_ediv_of_nonneg (by omega)]; omega
      have hr : Int.tmod (n : Int) 10 = (d : Int) := by rw [Int.tmod_eq_emod_of_nonneg (by omega)]; omega
      have hl : (bs (Lib.decDigits v)).size ≤ 20 := by rw [bs_size]; exact dd_len v (by omega)
      have v1 : (v : Int) ≤ 1000000000000000000 := by omega
      have d1 : (d : Int) ≤ 9 := by omega
      have g1 : (0 : Int) ≤ n := by omega
      have g2 : ¬ (n : Int) < 10 := by omega
      have g3 : (0 : Int) < n := by omega
      have hl1 : (bs [c]).size ≤ 1 := by rw [bs_size]; simp
      have HC := Lib.hid (cat_bs (Lib.decDigits v) [c])
      clear ih hv hd hc hcd h
      generalize bs (Lib.decDigits v) = E at *
      generalize bs [c] = G at *
      go_enter Tryz.func10, Tryz.ntmps10
      go_wp2_with fail
      go_at_call 10
      refine (HV.out w).mono ?_
      rintro e w1 ⟨rfl, b1⟩
      go_wp2_with fail
      go_at_call 10
      refine (HD.out w1).mono ?_
      rintro e w2 ⟨rfl, b2⟩
      have b3 : Below w.heap.size w w2 := b1.trans (b2.mono b1.size)
      go_wp2_with fail
      go_ret
      exact ⟨by rw [HB.out, ← HC.out]; rfl, b3⟩
set_option maxHeartbeats 1000000 in
theorem rdec_neg : ∀ (k n : Nat), n ≤ k → 1 ≤ n → n ≤ 9223372036854775808 → ∀ w : World,
    Calls Tryz.prog 10 #[.int .i64 (-(n : Int))] w fun e w' => e = .returned (.string (bs (45 :: Lib.decDigits n))) ∧ Below w.heap.size w w' := by
  intro k
  induction k with
  | zero => intro n hn h1; omega
  | succ k ih =>
    intro n hn h1 hm w
    have g1 : ¬ (0 : Int) ≤ -(n : Int) := by omega
    have g3 : ¬ (0 : Int) < -(n : Int) := by omega
    by_cases h : n < 10
    · obtain ⟨c, hc, hd, _⟩ := dd_of n h
      have HD := Lib.hid (fun w => rdec_digit n c h hc w)
      have HB := Lib.hid (show (⟨#[45]⟩ : ByteArray) ++ bs [c] = bs (45 :: Lib.decDigits n) by rw [hd]; exact cat_bs [45] [c])
      have hl1 : (bs [c]).size ≤ 1 := by rw [bs_size]; simp
      have n1 : (n : Int) ≤ 9 := by omega
      have n2 : (-10 : Int) < -(n : Int) := by omega
      clear ih hd hc
      generalize bs [c] = G at *
      go_enter Tryz.func10, Tryz.ntmps10
      go_wp2_with fail
      go_at_call 10
      refine (HD.out w).mono ?_
      rintro e w1 ⟨rfl, b1⟩
      go_wp2_with fail
      go_ret
      exact ⟨by rw [← HB.out]; rfl, b1⟩
    · obtain ⟨v, hv⟩ : ∃ v, n / 10 = v := ⟨_, rfl⟩
      obtain ⟨d, hd⟩ : ∃ d, n % 10 = d := ⟨_, rfl⟩
      have HV := Lib.hid (fun w => ih v (by omega) (by omega) (by omega) w)
      obtain ⟨c, hc, _, hcd⟩ := dd_of d (by omega)
      have HD := Lib.hid (fun w => rdec_digit d c (by omega) hc w)
      have HB := Lib.hid (show 45 :: Lib.decDigits n = (45 :: Lib.decDigits v) ++ [c] by rw [dd_big h, hv, hd, hcd]; rfl)
      have hq : Int.tdiv (-(n : Int)) 10 = -(v : Int) := by rw [Int.neg_tdiv, Int.tdiv_eq_ediv_of_nonneg (by omega)]; omega
      have hr : Int.tmod (-(n : Int)) 10 = -(d : Int) := by rw [Int.neg_tmod, Int.tmod_eq_emod_of_nonneg (by omega)]; omega
      have hl : (bs (45 :: Lib.decDigits v)).size ≤ 21 := by rw [bs_size, List.length_cons]; have := dd_len v (by omega); omega
      have v1 : (v : Int) ≤ 1000000000000000000 := by omega
      have d1 : (d : Int) ≤ 9 := by omega
      have g2 : ¬ (-10 : Int) < -(n : Int) := by omega
      have hl1 : (bs [c]).size ≤ 1 := by rw [bs_size]; simp
      have HC := Lib.hid (cat_bs (45 :: Lib.decDigits v) [c])
      clear ih hv hd hc hcd h
      generalize bs (45 :: Lib.decDigits v) = E at *
      generalize bs [c] = G at *
      go_enter Tryz.func10, Tryz.ntmps10
      go_wp2_with fail
      go_at_call 10
      refine (HV.out w).mono ?_
      rintro e w1 ⟨rfl, b1⟩
      go_wp2_with fail
      go_at_call 10
      refine (HD.out w1).mono ?_
      rintro e w2 ⟨rfl, b2⟩
      have b3 : Below w.heap.size w w2 := b1.trans (b2.mono b1.size)
      go_wp2_with fail
      go_ret
      exact ⟨by rw [HB.out, ← HC.out]; rfl, b3⟩
/-- ████ The reference's Decimal. -/
theorem rdecimal_any (n : Int) (h : InR n) (w : World) :
    Calls Tryz.prog 10 #[.int .i64 n] w fun e w' => e = .returned (.string (bs (Lib.itoa n))) ∧ Below w.heap.size w w' := by
  obtain ⟨h1, h2⟩ := h
  rcases Int.lt_or_le n 0 with h0 | h0
  · obtain ⟨m, rfl⟩ : ∃ m : Nat, n = -(m : Int) := ⟨n.natAbs, by omega⟩
    rw [itoa_negs m (by omega)]
    exact rdec_neg m m (Nat.le_refl _) (by omega) (by omega) w
  · obtain ⟨m, rfl⟩ : ∃ m : Nat, n = (m : Int) := ⟨n.toNat, by omega⟩
    rw [itoa_nat]
    exact rdec_nat m m (Nat.le_refl _) (by omega) w
end Go.Proofs.YteccccpjhpbebaaGreatDoor
