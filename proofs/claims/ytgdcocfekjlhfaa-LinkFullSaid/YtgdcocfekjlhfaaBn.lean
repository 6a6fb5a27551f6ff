/-
  LinkFull.
-/
import Derived.Test.YtgdcocfekjlhfaaBm
namespace Go.Proofs.Ytgdcocfekjlhfaa
open Go.RowKit
set_option linter.unusedVariables false
set_option linter.unusedSimpArgs false
set_option maxRecDepth 100000
def bP : ByteArray := ⟨#[112]⟩
def fullS : Nat → LS
  | 0 => LS.new
  | k + 1 => ((fullS k).send ((k : Int) % 2) bP).1
theorem full_at (k : Nat) : (fullS k).L.length = min k 500 ∧ (fullS k).cut = false := by
  induction k with
  | zero => exact ⟨rfl, rfl⟩
  | succ k ih =>
    obtain ⟨h1, h2⟩ := ih
    have hp : ¬ ((k : Int) % 2 ≠ 0 ∧ (k : Int) % 2 ≠ 1) := by omega
    unfold fullS LS.send LS.add
    rw [if_neg hp, if_neg (by simp [h2])]
    by_cases e : 500 ≤ (fullS k).L.length
    · rw [if_pos e]; exact ⟨by simp only; omega, h2⟩
    · rw [if_neg e]; exact ⟨by simp; omega, h2⟩
theorem full_err (k : Nat) : ((fullS k).send ((k : Int) % 2) bP).2 = if k < 500 then 0 else 6 := by
  obtain ⟨h1, h2⟩ := full_at k
  have hp : ¬ ((k : Int) % 2 ≠ 0 ∧ (k : Int) % 2 ≠ 1) := by omega
  unfold LS.send LS.add
  rw [if_neg hp, if_neg (by simp [h2])]
  by_cases e : k < 500
  · rw [if_neg (by omega), if_pos e]
  · rw [if_pos (by omega), if_neg e]
theorem full_double0 : (fullS 0).double 0 = (fullS 0, 4) := rfl
theorem full_double {k : Nat} (h0 : 0 < k) (h : k < 500) : ((fullS k).double 0).2 = 0 := by
  obtain ⟨h1, h2⟩ := full_at k
  unfold LS.double LS.add
  rw [if_pos (LS.has_iff.2 ⟨by omega, by omega⟩), if_neg (by omega)]
theorem full_double5 {k : Nat} (h : 500 ≤ k) : (fullS k).double 0 = (fullS k, 6) := by
  obtain ⟨h1, h2⟩ := full_at k
  unfold LS.double LS.add
  rw [if_pos (LS.has_iff.2 ⟨by omega, by omega⟩), if_pos (by omega)]
theorem full_drop {k : Nat} (h : 500 ≤ k) : ((fullS k).drop 7).2 = 0 ∧ ((fullS k).drop 7).1.L.length = 499 ∧ ((fullS k).drop 7).1.cut = false := by
  obtain ⟨h1, h2⟩ := full_at k
  unfold LS.drop LS.deliver
  rw [if_pos (LS.has_iff.2 ⟨by omega, by omega⟩)]
  refine ⟨rfl, ?_, h2⟩
  show ((fullS k).L.eraseIdx 7).length = 499
  rw [List.length_eraseIdx_of_lt (by omega)]; omega
theorem send_room {s : LS} (h : s.L.length = 499) (hc : s.cut = false) (b : ByteArray) : (s.send 0 b).2 = 0 ∧ (s.send 0 b).1.L.length = 500 ∧ (s.send 0 b).1.cut = false := by
  unfold LS.send LS.add
  rw [if_neg (by decide), if_neg (by simp [hc]), if_neg (by omega)]
  exact ⟨rfl, by simp [h], hc⟩
theorem send_full {s : LS} (h : s.L.length = 500) (hc : s.cut = false) (b : ByteArray) : s.send 0 b = (s, 6) := by
  unfold LS.send LS.add
  rw [if_neg (by decide), if_neg (by simp [hc]), if_pos (by omega)]
theorem send_cut (s : LS) (b : ByteArray) : s.cutS.send 0 b = (s.cutS, 28) := by
  unfold LS.send LS.cutS
  rw [if_neg (by decide), if_pos rfl]
section
variable {w0 w : World} {S : Nat → Prop} {p : Nat}
set_option maxHeartbeats 4000000 in
theorem full_any (n : Int) (hn : InI n) (w : World) : Calls Try.prog 6 #[.int .i64 n] w fun e w' => e = .returned (.bool true) ∧ Below w.heap.size w w' := by
  have SM := Lib.hid (small_any w)
  by_cases hr : 0 ≤ n ∧ n ≤ 600
  · obtain ⟨h0, h6⟩ := hr
    obtain ⟨m, rfl⟩ : ∃ m : Nat, n = m := ⟨n.toNat, by omega⟩
    have hm6 : m ≤ 600 := by omega
    have NEW := Lib.hid (fun (w1 : World) (b : Below w.heap.size w w1) => ((Tog.nil w (fun _ => False)).on b).xnew)
    have ZI : InI 0 := by unfold InI; omega
    have SI : InI 7 := by unfold InI; omega
    go_enter Try.func6, Try.ntmps6
    go_wp2_with (first
      | (go_at_call 7; refine SM.out.mono ?_; rintro e w1 ⟨rfl, t⟩; have N1 := Lib.hid (NEW.out w1 t); clear t SM)
      | (go_at_call 8; refine N1.out.mono ?_; rintro e w2 ⟨p, rfl, t⟩; have T0 := Lib.hid (show Tog w (fun _ => False) w2 [kLink 53 p (fullS 0)] from t); clear t N1))
    go_loopw [5] (fun i wr => ∃ k : Nat, k ≤ m ∧ i = .int .i64 (k : Int) ∧ Hid (Tog w (fun _ => False) wr [kLink 53 p (fullS k)])) (fun i _ => m - (intOf i).toNat)
    case atStart => exact ⟨0, Nat.zero_le _, rfl, T0⟩
    case round =>
      obtain ⟨k, hk, rfl, HT⟩ := hrel
      clear T0
      by_cases hlt : k < m
      · have g1 : (k : Int) < (m : Int) := by omega
        obtain ⟨r, hr⟩ : ∃ r, (k : Int) % 2 = r := ⟨_, rfl⟩
        have hb := and1 (k : Int)
        rw [hr] at hb
        have C := HT.out.xsend (i := 0) rfl ((k : Int) % 2) bP (by unfold InI; omega)
        rw [full_err, hr] at C
        have C2 := Lib.hid (C.mono (R' := fun e w' => e = .returned (.int .i64 (if k < 500 then 0 else 6)) ∧ Tog w (fun _ => False) w' [kLink 53 p (fullS (k + 1))]) (fun e w' ⟨a, b⟩ => ⟨a, by rw [← hr] at b; exact b⟩))
        have w1 : wrap64 ((k : Int) + 1) = (k : Int) + 1 := by unfold wrap64; omega
        have W1 := Lib.hid w1
        have MEAS := Lib.hid (show m - (intOf (.int .i64 ((k : Int) + 1))).toNat < m - (intOf (.int .i64 (k : Int))).toNat by simp [intOf]; omega)
        have NX := Lib.hid (show ∀ wz, Tog w (fun _ => False) wz [kLink 53 p (fullS (k + 1))] → ∃ k' : Nat, k' ≤ m ∧ Value.int .i64 ((k : Int) + 1) = .int .i64 (k' : Int) ∧ Hid (Tog w (fun _ => False) wz [kLink 53 p (fullS k')]) from fun wz T => ⟨k + 1, hlt, rfl, Lib.hid T⟩)
        by_cases h5 : k < 500
        · rw [if_pos h5] at C2
          have g5 : (k : Int) < 500 := by omega
          clear hlt hk hr w1 C h5 HT
          go_wp2_with (go_at_call 20; refine C2.out.mono ?_; rintro e w3 ⟨rfl, t⟩; have T := Lib.hid (NX.out w3 t); clear t)
          go_roundw
          case rel => first | exact T.out | (rw [W1.out]; exact T.out)
          case measure => first | exact MEAS.out | (rw [W1.out]; exact MEAS.out)
        · rw [if_neg h5] at C2
          have g5 : ¬ (k : Int) < 500 := by omega
          clear hlt hk hr w1 C h5 HT
          go_wp2_with (go_at_call 20; refine C2.out.mono ?_; rintro e w3 ⟨rfl, t⟩; have T := Lib.hid (NX.out w3 t); clear t)
          go_roundw
          case rel => first | exact T.out | (rw [W1.out]; exact T.out)
          case measure => first | exact MEAS.out | (rw [W1.out]; exact MEAS.out)
      · obtain rfl : m = k := by omega
        have C := HT.out.xcount (i := 0) rfl
        rw [(full_at m).1] at C
        obtain ⟨c, hc⟩ : ∃ c, min m 500 = c := ⟨_, rfl⟩
        rw [hc] at C
        have CC := Lib.hid C
        have g0 : (if (m : Int) < 500 then (m : Int) else 500) = (c : Int) := by split <;> omega
        have g0' : (if (500 : Int) < (m : Int) then (500 : Int) else (m : Int)) = (c : Int) := by split <;> omega
        have g0'' : min (m : Int) 500 = (c : Int) := by omega
        have D := HT.out.xdouble (i := 0) rfl 0 ZI
        clear hlt hk C
        by_cases hm0 : m = 0
        · subst hm0
          rw [full_double0] at D
          have DD := Lib.hid D
          have hc0 : c = 0 := by omega
          subst hc0
          clear D HT hc
          go_wp2_with (first
            | (go_at_call 15; refine CC.out.mono ?_; rintro e w3 ⟨rfl, rfl⟩; clear CC)
            | (go_at_call 22; refine DD.out.mono ?_; rintro e w3 ⟨rfl, t⟩; have X := Lib.hid (t.xcut (i := 0) rfl); clear t DD)
            | (go_at_call 24; refine X.out.mono ?_; rintro e w3 ⟨rfl, t⟩; have Y1 := Lib.hid (t.xcount (i := 0) rfl); have Y2 := Lib.hid (t.xiscut (i := 0) rfl); have Y3 := t.xsend (i := 0) rfl 0 ⟨#[115]⟩ ZI; rw [send_cut] at Y3; have Y4 := Lib.hid Y3; clear t X Y3)
            | (go_at_call 15; refine Y1.out.mono ?_; rintro e w3 ⟨rfl, rfl⟩)
            | (go_at_call 16; refine Y2.out.mono ?_; rintro e w3 ⟨rfl, rfl⟩)
            | (go_at_call 20; refine Y4.out.mono ?_; rintro e w3 ⟨rfl, t⟩; have TB := Lib.hid t.top; clear t))
          go_ret
          exact ⟨rfl, TB.out⟩
        · have gm : (0 : Int) < (m : Int) := by omega
          have gm0 : ((m : Int) == 0) = false := beq_eq_false_iff_ne.2 (by omega)
          by_cases h5 : m < 500
          · rw [full_double (by omega) h5] at D
            generalize ((fullS m).double 0).1 = S2 at D
            have DD := Lib.hid D
            have g5 : (m : Int) < 500 := by omega
            have hc0 : c = m := by omega
            subst hc0
            clear D HT hc hm0
            go_wp2_with (first
            | (go_at_call 15; refine CC.out.mono ?_; rintro e w3 ⟨rfl, rfl⟩; clear CC)
            | (go_at_call 22; refine DD.out.mono ?_; rintro e w3 ⟨rfl, t⟩; have X := Lib.hid (t.xcut (i := 0) rfl); clear t DD)
            | (go_at_call 24; refine X.out.mono ?_; rintro e w3 ⟨rfl, t⟩; have Y1 := Lib.hid (t.xcount (i := 0) rfl); have Y2 := Lib.hid (t.xiscut (i := 0) rfl); have Y3 := t.xsend (i := 0) rfl 0 ⟨#[115]⟩ ZI; rw [send_cut] at Y3; have Y4 := Lib.hid Y3; clear t X Y3)
            | (go_at_call 15; refine Y1.out.mono ?_; rintro e w3 ⟨rfl, rfl⟩)
            | (go_at_call 16; refine Y2.out.mono ?_; rintro e w3 ⟨rfl, rfl⟩)
            | (go_at_call 20; refine Y4.out.mono ?_; rintro e w3 ⟨rfl, t⟩; have TB := Lib.hid t.top; clear t))
            go_ret
            exact ⟨rfl, TB.out⟩
          · have h55 : 500 ≤ m := by omega
            rw [full_double5 h55] at D
            have DD := Lib.hid D
            obtain ⟨d1, d2, d3⟩ := full_drop h55
            have g5 : ¬ (m : Int) < 500 := by omega
            have g5' : (500 : Int) ≤ (m : Int) := by omega
            have hc0 : c = 500 := by omega
            subst hc0
            have PD := Lib.hid (show ∀ wz, Tog w (fun _ => False) wz [kLink 53 p (fullS m)] → ∃ S3 S4 : LS, Calls Try.prog 23 #[.pointer (some ⟨p, 0, none⟩), .int .i64 7] wz (fun e w' => e = .returned (.int .i64 0) ∧ Tog w (fun _ => False) w' [kLink 53 p S3]) ∧
                (∀ wy, Tog w (fun _ => False) wy [kLink 53 p S3] → Calls Try.prog 20 #[.pointer (some ⟨p, 0, none⟩), .int .i64 0, .string ⟨#[113]⟩] wy (fun e w' => e = .returned (.int .i64 0) ∧ Tog w (fun _ => False) w' [kLink 53 p S4])) ∧
                ∀ wy, Tog w (fun _ => False) wy [kLink 53 p S4] → Calls Try.prog 20 #[.pointer (some ⟨p, 0, none⟩), .int .i64 0, .string ⟨#[114]⟩] wy (fun e w' => e = .returned (.int .i64 6) ∧ Tog w (fun _ => False) w' [kLink 53 p S4]) from fun wz T => by
              obtain ⟨e1, e2, e3⟩ := send_room d2 d3 ⟨#[113]⟩
              refine ⟨_, (((fullS m).drop 7).1.send 0 ⟨#[113]⟩).1, (T.xdrop (i := 0) rfl 7 SI).mono (fun e w' ⟨a, b⟩ => ⟨by rw [a, d1], b⟩), fun wy T => (T.xsend (i := 0) rfl 0 ⟨#[113]⟩ ZI).mono (fun e w' ⟨a, b⟩ => ⟨by rw [a, e1], b⟩), fun wy T => ?_⟩
              have := T.xsend (i := 0) rfl 0 ⟨#[114]⟩ ZI
              rw [send_full e2 e3] at this
              exact this)
            clear D HT hc hm0 h5 h55 d1 d2 d3
            go_wp2_with (first
            | (go_at_call 15; refine CC.out.mono ?_; rintro e w3 ⟨rfl, rfl⟩; clear CC)
            | (go_at_call 22; refine DD.out.mono ?_; rintro e w3 ⟨rfl, t⟩; obtain ⟨S3, S4, a1, a2, a3⟩ := PD.out _ t; have A1 := Lib.hid a1; have A2 := Lib.hid a2; have A3 := Lib.hid a3; clear t DD a1 a2 a3)
            | (go_at_call 23; refine A1.out.mono ?_; rintro e w4 ⟨rfl, t⟩; have B2 := Lib.hid (A2.out _ t); clear t A1 A2)
            | (go_at_call 20; refine B2.out.mono ?_; rintro e w5 ⟨rfl, t⟩; have B3 := Lib.hid (A3.out _ t); clear t B2 A3)
            | (go_at_call 20; refine B3.out.mono ?_; rintro e w6 ⟨rfl, t⟩; have X := Lib.hid (t.xcut (i := 0) rfl); clear t B3)
            | (go_at_call 24; refine X.out.mono ?_; rintro e w3 ⟨rfl, t⟩; have Y1 := Lib.hid (t.xcount (i := 0) rfl); have Y2 := Lib.hid (t.xiscut (i := 0) rfl); have Y3 := t.xsend (i := 0) rfl 0 ⟨#[115]⟩ ZI; rw [send_cut] at Y3; have Y4 := Lib.hid Y3; clear t X Y3)
            | (go_at_call 15; refine Y1.out.mono ?_; rintro e w3 ⟨rfl, rfl⟩)
            | (go_at_call 16; refine Y2.out.mono ?_; rintro e w3 ⟨rfl, rfl⟩)
            | (go_at_call 20; refine Y4.out.mono ?_; rintro e w3 ⟨rfl, t⟩; have TB := Lib.hid t.top; clear t))
            go_ret
            exact ⟨rfl, TB.out⟩
  · have NEW := Lib.hid (fun (w1 : World) (b : Below w.heap.size w w1) => ((Tog.nil w (fun _ => False)).on b).xnew)
    by_cases h0 : n < 0
    · go_enter Try.func6, Try.ntmps6
      go_wp2_with (first
      | (go_at_call 7; refine SM.out.mono ?_; rintro e w1 ⟨rfl, t⟩; have N1 := Lib.hid (NEW.out w1 t); clear t SM)
      | (go_at_call 8; refine N1.out.mono ?_; rintro e w2 ⟨p, rfl, t⟩; have TB := Lib.hid t.top; clear t N1))
      go_ret
      exact ⟨rfl, TB.out⟩
    · have h6 : 600 < n := by omega
      go_enter Try.func6, Try.ntmps6
      go_wp2_with (first
      | (go_at_call 7; refine SM.out.mono ?_; rintro e w1 ⟨rfl, t⟩; have N1 := Lib.hid (NEW.out w1 t); clear t SM)
      | (go_at_call 8; refine N1.out.mono ?_; rintro e w2 ⟨p, rfl, t⟩; have TB := Lib.hid t.top; clear t N1))
      go_ret
      exact ⟨rfl, TB.out⟩
end
end Go.Proofs.Ytgdcocfekjlhfaa
