/-
  PACKAGE cell: parseHeader.
-/
import Derived.Test.YtdejajpmebgidaaDoorKa
namespace Go.Proofs.YtdejajpmebgidaaDoor
open Go.RowKit Go.Maps WireM DiskM CellM
set_option linter.unusedVariables false
set_option linter.unusedSimpArgs false
set_option maxRecDepth 100000

theorem or_nat (a b : Nat) (ha : a < 9223372036854775808) (hb : b < 9223372036854775808) (h : a ||| b < 9223372036854775808) : bits .or .i64 (a : Int) (b : Int) = ((a ||| b : Nat) : Int) := by
  show IntKind.i64.wrap (((BitVec.ofInt 64 (a : Int) ||| BitVec.ofInt 64 (b : Int)).toNat : Nat) : Int) = _
  rw [BitVec.toNat_or, BitVec.toNat_ofInt, BitVec.toNat_ofInt, IntKind.wrap_i64]
  have e1 : ((a : Int) % ((2 ^ 64 : Nat) : Int)).toNat = a := by omega
  have e2 : ((b : Int) % ((2 ^ 64 : Nat) : Int)).toNat = b := by omega
  rw [e1, e2]
  omega
theorem or_add (a m k : Nat) (ha : a < 2 ^ k) (hs : 2 ^ k * m + a < 9223372036854775808) (hk : 2 ^ k < 9223372036854775808) : bits .or .i64 (a : Int) ((2 ^ k * m : Nat) : Int) = ((2 ^ k * m + a : Nat) : Int) := by
  have e : a ||| (2 ^ k * m) = 2 ^ k * m + a := by rw [Nat.or_comm, ← Nat.two_pow_add_eq_or_of_lt ha]
  rw [or_nat a (2 ^ k * m) (by omega) (by omega) (by rw [e]; exact hs), e]
theorem or8 (a m : Nat) (ha : a < 256) (hm : m < 256) : bits .or .i64 (a : Int) ((m : Int) * 256) = ((256 * m + a : Nat) : Int) := by
  have := or_add a m 8 (by simpa using ha) (by simp only [Nat.reducePow]; omega) (by decide)
  simp only [Nat.reducePow] at this
  rw [← this]
  congr 1
  omega
theorem or16 (a m : Nat) (ha : a < 65536) (hm : m < 256) : bits .or .i64 (a : Int) ((m : Int) * 65536) = ((65536 * m + a : Nat) : Int) := by
  have := or_add a m 16 (by simpa using ha) (by simp only [Nat.reducePow]; omega) (by decide)
  simp only [Nat.reducePow] at this
  rw [← this]
  congr 1
  omega
theorem or24 (a m : Nat) (ha : a < 16777216) (hm : m < 256) : bits .or .i64 (a : Int) ((m : Int) * 16777216) = ((16777216 * m + a : Nat) : Int) := by
  have := or_add a m 24 (by simpa using ha) (by simp only [Nat.reducePow]; omega) (by decide)
  simp only [Nat.reducePow] at this
  rw [← this]
  congr 1
  omega
theorem wr8 (n : Nat) (h : n < 256) : wrap64 (n : Int) = (n : Int) ∧ wrap64 ((n : Int) * 256) = (n : Int) * 256 ∧ wrap64 ((n : Int) * 65536) = (n : Int) * 65536 ∧ wrap64 ((n : Int) * 16777216) = (n : Int) * 16777216 := by
  unfold wrap64; refine ⟨?_, ?_, ?_, ?_⟩ <;> omega
theorem dec_a (n Z : Nat) (h1 : 1 ≤ (n : Int)) (h2 : (n : Int) ≤ 2) : decide ((n = 1 ∨ n = 2) ∧ Z ≤ 65536) = decide ((Z : Int) ≤ 65536) := by
  have hn : n = 1 ∨ n = 2 := by omega
  by_cases hz : Z ≤ 65536
  · rw [decide_eq_true ⟨hn, hz⟩, decide_eq_true (show (Z : Int) ≤ 65536 by omega)]
  · rw [decide_eq_false (fun h => hz h.2), decide_eq_false (show ¬ (Z : Int) ≤ 65536 by omega)]
theorem dec_b (n Z : Nat) (h1 : 2 < (n : Int)) : decide ((n = 1 ∨ n = 2) ∧ Z ≤ 65536) = false := decide_eq_false (fun h => by omega)
theorem dec_c (n Z : Nat) (h1 : (n : Int) < 1) : decide ((n = 1 ∨ n = 2) ∧ Z ≤ 65536) = false := decide_eq_false (fun h => by omega)
theorem below_drewN (w : World) : ∀ n, Below w.heap.size w (w.drewN n) := fun n => ⟨rfl, rfl, rfl, Nat.le_refl _, fun _ _ => rfl⟩
set_option maxHeartbeats 4000000 in
theorem parse_core (S : ByteArray) (n0 n1 n2 n3 n4 X Y Z : Nat) (h0 : 0 < S.size) (h1 : 1 < S.size) (h2 : 2 < S.size) (h3 : 3 < S.size) (h4 : 4 < S.size) (g5 : ¬ ((S.size : Int) < 5)) (x0 : ((S[0].toNat : Nat) : Int) = (n0 : Int)) (x1 : ((S[1].toNat : Nat) : Int) = (n1 : Int)) (x2 : ((S[2].toNat : Nat) : Int) = (n2 : Int))
    (x3 : ((S[3].toNat : Nat) : Int) = (n3 : Int)) (x4 : ((S[4].toNat : Nat) : Int) = (n4 : Int)) (w0 : wrap64 (n0 : Int) = (n0 : Int)) (w1 : wrap64 (n1 : Int) = (n1 : Int)) (w2 : wrap64 (n2 : Int) = (n2 : Int)) (w3 : wrap64 (n3 : Int) = (n3 : Int)) (w4 : wrap64 (n4 : Int) = (n4 : Int))
    (s2 : wrap64 ((n2 : Int) * 256) = (n2 : Int) * 256) (s3 : wrap64 ((n3 : Int) * 65536) = (n3 : Int) * 65536) (s4 : wrap64 ((n4 : Int) * 16777216) = (n4 : Int) * 16777216) (o1 : bits .or .i64 (n1 : Int) ((n2 : Int) * 256) = (X : Int)) (o2 : bits .or .i64 (X : Int) ((n3 : Int) * 65536) = (Y : Int)) (o3 : bits .or .i64 (Y : Int) ((n4 : Int) * 16777216) = (Z : Int)) (w : World) :
    Calls Tryd.prog 30 #[.string S] w fun e w' => e = .returned (.tuple #[.int .i64 (n0 : Int), .int .i64 (Z : Int), .bool (decide ((n0 = 1 ∨ n0 = 2) ∧ Z ≤ 65536))]) ∧ Below w.heap.size w w' := by
  obtain ⟨R, hR⟩ : ∃ R, R = decide ((n0 = 1 ∨ n0 = 2) ∧ Z ≤ 65536) := ⟨_, rfl⟩
  have HR := Lib.hid hR
  rw [← hR]
  clear hR
  go_enter Tryd.func30, Tryd.ntmps30
  go_wp2
  go_quiet (fail)
  go_wp2
  all_goals
    go_ret3
    first
    | exact ⟨by rw [HR.out, dec_a n0 Z (by assumption) (by assumption)]; rfl, below_drewN _ _⟩
    | exact ⟨by rw [HR.out, dec_b n0 Z (by assumption)]; rfl, below_drewN _ _⟩
    | exact ⟨by rw [HR.out, dec_c n0 Z (by assumption)]; rfl, below_drewN _ _⟩
theorem num_is (b0 b1 b2 b3 b4 : UInt8) : num [b0, b1, b2, b3, b4] = 16777216 * b4.toNat + (65536 * b3.toNat + (256 * b2.toNat + b1.toNat)) := by
  have h1 : at0 [b0, b1, b2, b3, b4] 1 = b1 := rfl
  have h2 : at0 [b0, b1, b2, b3, b4] 2 = b2 := rfl
  have h3 : at0 [b0, b1, b2, b3, b4] 3 = b3 := rfl
  have h4 : at0 [b0, b1, b2, b3, b4] 4 = b4 := rfl
  unfold num
  rw [h1, h2, h3, h4]
  omega
theorem chain (n1 n2 n3 n4 : Nat) (t1 : n1 < 256) (t2 : n2 < 256) (t3 : n3 < 256) (t4 : n4 < 256) : ∃ X Y Z : Nat, bits .or .i64 (n1 : Int) ((n2 : Int) * 256) = (X : Int) ∧ bits .or .i64 (X : Int) ((n3 : Int) * 65536) = (Y : Int) ∧ bits .or .i64 (Y : Int) ((n4 : Int) * 16777216) = (Z : Int) ∧ Z = 16777216 * n4 + (65536 * n3 + (256 * n2 + n1)) :=
  ⟨256 * n2 + n1, 65536 * n3 + (256 * n2 + n1), 16777216 * n4 + (65536 * n3 + (256 * n2 + n1)), or8 n1 n2 t1 t2, or16 (256 * n2 + n1) n3 (by omega) t3, or24 (65536 * n3 + (256 * n2 + n1)) n4 (by omega) t4, rfl⟩
theorem parseHeader_any (b0 b1 b2 b3 b4 : UInt8) (w : World) : Calls Tryd.prog 30 #[.string (bs [b0, b1, b2, b3, b4])] w fun e w' => e = .returned (.tuple #[.int .i64 (b0.toNat : Int), .int .i64 (num [b0, b1, b2, b3, b4] : Int), .bool (decide ((b0.toNat = 1 ∨ b0.toNat = 2) ∧ num [b0, b1, b2, b3, b4] ≤ 65536))]) ∧ Below w.heap.size w w' := by
  have en := num_is b0 b1 b2 b3 b4
  have hz : (bs [b0, b1, b2, b3, b4]).size = 5 := rfl
  have x0 : ∀ h : 0 < (bs [b0, b1, b2, b3, b4]).size, (bs [b0, b1, b2, b3, b4])[0] = b0 := fun _ => rfl
  have x1 : ∀ h : 1 < (bs [b0, b1, b2, b3, b4]).size, (bs [b0, b1, b2, b3, b4])[1] = b1 := fun _ => rfl
  have x2 : ∀ h : 2 < (bs [b0, b1, b2, b3, b4]).size, (bs [b0, b1, b2, b3, b4])[2] = b2 := fun _ => rfl
  have x3 : ∀ h : 3 < (bs [b0, b1, b2, b3, b4]).size, (bs [b0, b1, b2, b3, b4])[3] = b3 := fun _ => rfl
  have x4 : ∀ h : 4 < (bs [b0, b1, b2, b3, b4]).size, (bs [b0, b1, b2, b3, b4])[4] = b4 := fun _ => rfl
  generalize bs [b0, b1, b2, b3, b4] = S at *
  generalize num [b0, b1, b2, b3, b4] = Z at *
  have t1 := b1.toNat_lt
  have t2 := b2.toNat_lt
  have t3 := b3.toNat_lt
  have t4 := b4.toNat_lt
  have u0 := wr8 _ b0.toNat_lt
  have u1 := wr8 _ t1
  have u2 := wr8 _ t2
  have u3 := wr8 _ t3
  have u4 := wr8 _ t4
  obtain ⟨X, Y, Z2, o1, o2, o3, e3⟩ := chain b1.toNat b2.toNat b3.toNat b4.toNat t1 t2 t3 t4
  have e4 : Z2 = Z := e3.trans en.symm
  clear e3 en
  subst e4
  have h0 : 0 < S.size := by omega
  have h1 : 1 < S.size := by omega
  have h2 : 2 < S.size := by omega
  have h3 : 3 < S.size := by omega
  have h4 : 4 < S.size := by omega
  exact parse_core S b0.toNat b1.toNat b2.toNat b3.toNat b4.toNat X Y Z2 h0 h1 h2 h3 h4 (by omega) (by rw [x0]) (by rw [x1]) (by rw [x2]) (by rw [x3]) (by rw [x4]) u0.1 u1.1 u2.1 u3.1 u4.1 u2.2.1 u3.2.2.1 u4.2.2.2 o1 o2 o3 w
end Go.Proofs.YtdejajpmebgidaaDoor
