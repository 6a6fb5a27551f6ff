/-
  DiskSurvives: the walk.
-/
import Derived.Test.YtgebfhikahjahaaEl
import Derived.Deep.QuietTactic
import Derived.BigQuiet
namespace Go.Proofs.Ytgebfhikahjahaa
open Go.RowKit Go.Maps WireM DiskM
set_option linter.unusedVariables false
set_option linter.unusedSimpArgs false

theorem beq_utrue {a b : Nat} (h : a = b) : ((a : Int) == (b : Int)) = true := by simp [h]
theorem beq_vtrue {a b : Nat} (h : a = b) : ((b : Int) == (a : Int)) = true := by simp [h]
theorem beq_ufalse {a b : Nat} (h : ¬ a = b) : ((a : Int) == (b : Int)) = false := by simp; omega
theorem beq_vfalse {a b : Nat} (h : ¬ a = b) : ((b : Int) == (a : Int)) = false := by simp; omega
theorem surv_e {j n z : Nat} (h : ¬ (j < 64 * n + 64 ∧ j < z)) : ¬ (j < 64 * n + 64) ∨ (j < 64 * n + 64 ∧ ¬ j < z) := by omega
theorem surv_f {j n : Nat} (h : ¬ (j < 64 * n + 64)) : ¬ (j : Int) < 64 * (n : Int) + 64 := by omega
theorem surv_g {j n z : Nat} (h : j < 64 * n + 64) (h2 : ¬ j < z) : (j : Int) < 64 * (n : Int) + 64 ∧ ¬ (j : Int) < (z : Int) := by omega
theorem surv_o {w wr : World} {n z : Nat} (h : 64 * n < z) (hb : Below w.heap.size w wr) : ∃ n' : Nat, 64 * n' ≤ z + 63 ∧ Value.int .i64 ((n : Int) + 1) = .int .i64 (n' : Int) ∧ Hid (Below w.heap.size w wr) := ⟨n + 1, by omega, rfl, Lib.hid hb⟩
theorem surv_a {w : World} {j n : Nat} (hj0 : 64 * n ≤ j) (hj2 : j < 64 * n + 64) : ∀ (b1 b2 : Bool) (wr' : World), b1 = true → Below w.heap.size w wr' → ∃ (j' : Nat) (b1' b2' : Bool), 64 * n ≤ j' ∧ j' ≤ 64 * n + 64 ∧ Value.int .i64 ((j : Int) + 1) = .int .i64 (j' : Int) ∧ Value.bool b1 = .bool b1' ∧ Value.bool b2 = .bool b2' ∧ b1' = true ∧ Hid (Below w.heap.size w wr') := fun b1 b2 wr' h hb => ⟨j + 1, b1, b2, by omega, by omega, rfl, rfl, rfl, h, Lib.hid hb⟩
theorem surv_b {w : World} {j n : Nat} (hj0 : 64 * n ≤ j) (hj2 : j < 64 * n + 64) : ∀ (b1 b2 : Bool) (wr' : World), b2 = true → Below w.heap.size w wr' → ∃ (j' : Nat) (b1' b2' : Bool), 64 * n ≤ j' ∧ j' ≤ 64 * n + 64 ∧ Value.int .i64 ((j : Int) + 1) = .int .i64 (j' : Int) ∧ Value.bool b1 = .bool b1' ∧ Value.bool b2 = .bool b2' ∧ b2' = true ∧ Hid (Below w.heap.size w wr') := fun b1 b2 wr' h hb => ⟨j + 1, b1, b2, by omega, by omega, rfl, rfl, rfl, h, Lib.hid hb⟩
theorem surv_m {j n : Nat} (hj2 : j < 64 * n + 64) : 64 * n + 64 - (intOf (.int .i64 ((j : Int) + 1))).toNat < 64 * n + 64 - (intOf (.int .i64 (j : Int))).toNat := by simp only [intOf]; omega
theorem surv_n {j n : Nat} {z : Nat} (hj2 : j < 64 * n + 64) (h0 : 64 * n ≤ j) (h1 : j < z) (hz : z ≤ 100000) : (0 : Int) ≤ (j : Int) ∧ (j : Int) < 64 * (n : Int) + 64 ∧ (j : Int) < (z : Int) ∧ wrap64 ((j : Int) + 1) = (j : Int) + 1 := by unfold wrap64; omega
theorem byteAt_at {t : ByteArray} {L : List UInt8} (h : t.data.toList = L) (hs : t.size ≤ 100000) (j : Nat) (W : World) : Calls Try.prog 24 #[.string t, .int .i64 (j : Int)] W fun e w' => e = .returned (.int .u8 (at0 L j).toNat) ∧ w' = W := by
  have := byteAt_any t (j : Int) W (by omega)
  rw [h, if_neg (by omega), Int.toNat_natCast] at this
  exact this.mono (fun e w' hh => ⟨hh.1, hh.2.symm⟩)
theorem quiet_next {f : FuncId} {args : Array Value} {w : World} {x y : Nat} {u : Value} (h : Calls Try.prog f args (w.drewN (x + y)) fun e w' => e = .returned u ∧ w' = w.drewN (x + y)) : Calls Try.prog f args (w.drewN (x + y)) fun e w' => e = .returned u ∧ ∃ z, w' = w.drewN (x + z) := h.mono (fun _ _ hh => ⟨hh.1, y, hh.2⟩)
theorem bel_drewN {B : Nat} {a w : World} (h : Below B a w) (n : Nat) : Below B a (w.drewN n) := h.trans ⟨rfl, rfl, rfl, Nat.le_refl _, fun _ _ => rfl⟩
theorem div64 {j n : Nat} (h0 : 64 * n ≤ j) (h1 : j < 64 * n + 64) : j / 64 = n := by omega
set_option maxHeartbeats 8000000 in
set_option maxRecDepth 100000 in
theorem survives_up {w : World} {a ka : Option Addr} {c kc : Nat} {l : List ActV} {k : List Int} (h : ActsAt w.heap.size w a l) (f : Int) (hfI : InI f) (hf : Few l) (K : ListAt w ka kc k) (hd : (runActs St.new l).down = false) (hF : isF f) (hz : ((runActs St.new l).now f).length ≤ 100000) :
    Calls Try.prog 4 #[.slice a l.length c, .int .i64 f, .slice ka k.length kc] w fun e w' => e = .returned (.bool true) ∧ Below w.heap.size w w' := by
  have H := Lib.hid h
  have HF := Lib.hid hf
  have D0 := Lib.hid (Below.refl w.heap.size w)
  have FD := Lib.hid (decide_eq_true hf)
  have hk' : (k.length : Int) ≤ 60 := by have := K.len; omega
  have HK := Lib.hid K
  have HFI := Lib.hid hfI
  have hinv := h.inv
  have f0 : 0 ≤ f := hF.1
  have f1 : f ≤ 15 := by have := hF.2; omega
  generalize hst : runActs St.new l = st at *
  have HST := Lib.hid hst
  have HDN := Lib.hid hd
  obtain ⟨z1, z2⟩ := left_len hinv f k
  have hsec := Lib.hid (left_sec hinv f k)
  have R0 := Lib.hid (read_all hinv hd hF)
  have R1 := Lib.hid (by have := left_read hinv hd hF []; rwa [left_nil] at this)
  have R2 := Lib.hid (by have := left_read hinv hd hF [1]; rwa [left_one hinv] at this)
  have R3 := Lib.hid (left_read hinv hd hF k)
  generalize hR : leftOf st f k = R at *
  generalize hN : st.now f = N at *
  generalize hL : st.last f = L at *
  have HSZ := Lib.hid (show (st.size f : Int) = (N.length : Int) by rw [← hN]; rfl)
  obtain ⟨Nb, hNb⟩ : ∃ Nb, Nb = bs N := ⟨_, rfl⟩
  obtain ⟨Lb, hLb⟩ : ∃ Lb, Lb = bs L := ⟨_, rfl⟩
  obtain ⟨Rb, hRb⟩ : ∃ Rb, Rb = bs R := ⟨_, rfl⟩
  have n1 : Nb.size = N.length := by rw [hNb]; rfl
  have l1 : Lb.size = L.length := by rw [hLb]; rfl
  have r1 : Rb.size = R.length := by rw [hRb]; rfl
  have q0 : ¬ (100000 : Int) < (N.length : Int) := by omega
  have q1 : ¬ (Rb.size : Int) < (Lb.size : Int) := by omega
  have q1' : ¬ Rb.size < Lb.size := by omega
  have q2 : ¬ (Nb.size : Int) < (Rb.size : Int) := by omega
  have q2' : ¬ Nb.size < Rb.size := by omega
  have ASZ := Lib.hid (show Rb.size ≤ Nb.size ∧ Nb.size ≤ 100000 ∧ Lb.size ≤ Rb.size by omega)
  have rb0 : Rb.size ≤ 100000 := by omega
  have LSZ := Lib.hid (show Lb.size ≤ 100000 by omega)
  have HN := Lib.hid hNb
  have HL := Lib.hid hLb
  have HR := Lib.hid hRb
  have GR := Lib.hid (show ∀ i (h : i < Rb.size), Rb[i] = at0 R i by subst hRb; intro i h; rw [at0_lt h]; rfl)
  have GN := Lib.hid (show ∀ i (h : i < Nb.size), Nb[i] = at0 N i by subst hNb; intro i h; rw [at0_lt h]; rfl)
  have GL := Lib.hid (show Lb.data.toList = L by rw [hLb]; rfl)
  have ne1 : (Nb.toList != Nb.toList) = false := by simp
  clear h hf hst hfI hd hF K hinv hR hN hL hNb hLb hRb n1 l1 r1 z1 z2 hz
  go_enter Try.func4, Try.ntmps4
  go_wp2_with (first
    | (go_at_call 8; refine (small_at D0.out).mono ?_; rintro e w1 ⟨rfl, b1⟩; have D1 := Lib.hid b1; clear b1 D0)
    | (go_at_call 9; refine (few_at H.out D1.out FD.out).mono ?_; rintro e w1 ⟨rfl, rfl⟩; clear FD)
    | (go_at_call 22; refine (played_S1 H.out D1.out HF.out).mono ?_; rintro e w2 ⟨p, rfl, hs⟩; rw [HST.out] at hs; have D2 := Lib.hid hs; clear hs D1)
    | (go_at_call 14; refine (D2.out.isDown).mono ?_; rintro e w3 ⟨rfl, rfl⟩; rw [HDN.out]; have D3 := D2; clear D2)
    | (go_at_call 16; refine (D3.out.size f HFI.out).mono ?_; rintro e w4 ⟨rfl, rfl⟩; rw [HSZ.out]; have D4 := D3; clear D3)
    | (go_at_call 20; refine (D4.out.read f 0 16777216 HFI.out (by unfold InI; omega) (by unfold InI; omega)).mono ?_; rintro e w5 ⟨rfl, rfl⟩; rw [R0.out, ← HN.out]; have D5 := D4; clear D4)
    | (go_at_call 23; refine (D5.out.after f HFI.out (ListAt.nil w)).mono ?_; rintro e w6 ⟨rfl, hs⟩; rw [R1.out, ← HL.out]; have D6 := Lib.hid hs; clear hs D5)
    | (go_at_call 23; refine (D6.out.afterL f HFI.out [1] 1 (by decide)).mono ?_; rintro e w7 ⟨rfl, hs⟩; rw [R2.out, ← HN.out]; have D7 := Lib.hid hs; clear hs D6)
    | (go_at_call 23; refine (D7.out.after f HFI.out HK.out).mono ?_; rintro e w8 ⟨rfl, hs⟩; rw [R3.out, ← HR.out]; have D8 := Lib.hid hs.bel; clear hs D7))
  clear R0 R1 R2 R3 HST HDN HSZ HN HL HR q0 q1 q1' q2 q2' ne1 HK HF H HFI f0 f1
  go_loopw [17] (fun i wr => ∃ n : Nat, 64 * n ≤ Rb.size + 63 ∧ i = .int .i64 (n : Int) ∧ Hid (Below w.heap.size w wr)) (fun i _ => Rb.size + 64 - 64 * (intOf i).toNat)
  case atStart => exact ⟨0, by omega, rfl, D8⟩
  case round =>
    obtain ⟨n, hn, rfl, HB⟩ := hrel
    have v1 : wrap64 (64 * (n : Int)) = 64 * (n : Int) := by unfold wrap64; omega
    have v2 : wrap64 ((n : Int) + 1) = (n : Int) + 1 := by unfold wrap64; omega
    have v3 : wrap64 (64 * (n : Int) + 64) = 64 * (n : Int) + 64 := by unfold wrap64; omega
    have W2 := Lib.hid v2
    have MEAS := Lib.hid (show Rb.size + 64 - 64 * (intOf (.int .i64 ((n : Int) + 1))).toNat < Rb.size + 64 - 64 * (intOf (.int .i64 (n : Int))).toNat by simp [intOf]; omega)
    by_cases hlt : 64 * n < Rb.size
    · have g5 : 64 * (n : Int) < (Rb.size : Int) := by omega
      rcases hsec.out n with hs | hs
      · have S := Lib.hid hs
        clear hs hsec
        go_wp2

        go_loopw [20, 18, 19] (fun i x y wr => ∃ (j : Nat) (b1 b2 : Bool), 64 * n ≤ j ∧ j ≤ 64 * n + 64 ∧ i = .int .i64 (j : Int) ∧ x = .bool b1 ∧ y = .bool b2 ∧ b1 = true ∧ Hid (Below w.heap.size w wr)) (fun i _ _ _ => 64 * n + 64 - (intOf i).toNat)
        case atStart => exact ⟨64 * n, true, true, Nat.le_refl _, by omega, by go_num, rfl, rfl, rfl, HB⟩
        case round =>
          obtain ⟨j, b1, b2, hj0, hj1, rfl, rfl, rfl, rfl, HB2⟩ := hrel
          by_cases hj : j < 64 * n + 64 ∧ j < Rb.size
          · obtain ⟨hj2, hj3⟩ := hj
            obtain ⟨g0, g1, g2, v4⟩ := surv_n hj2 hj0 hj3 rb0
            have hjN : j < Nb.size := Nat.lt_of_lt_of_le hj3 ASZ.out.1
            have g3 : (j : Int) < (Nb.size : Int) := Int.ofNat_lt.2 hjN
            have W4 := Lib.hid v4
            have REL := Lib.hid (surv_a (w := w) hj0 hj2)
            have MEAS2 := Lib.hid (surv_m hj2)
            have xr := GR.out j hj3
            have xn := GN.out j hjN
            have BY := Lib.hid (byteAt_at GL.out LSZ.out j)
            have sq := S.out j (div64 hj0 hj2)
            rw [sq] at xr
            clear sq
            generalize at0 N j = xN at *
            generalize at0 L j = xL at *
            cases b2
            · go_wp2_with (fail)
              go_quiet (fail)
              go_wp2_with (fail)
              go_quiet ((go_at_call 24; first | exact quiet_next (BY.out _) | exact Calls.quiet_of_same (BY.out _)))
              go_wp2_with (fail)
              go_roundw
              case rel => first | exact REL.out _ _ _ rfl (bel_drewN HB2.out _) | (rw [W4.out]; exact REL.out _ _ _ rfl (bel_drewN HB2.out _))
              case measure => first | exact MEAS2.out | (rw [W4.out]; exact MEAS2.out)
            · by_cases hx : xN.toNat = xL.toNat
              · have e1 : ((xN.toNat : Int) == (xL.toNat : Int)) = true := beq_utrue hx
                have e2 : ((xL.toNat : Int) == (xN.toNat : Int)) = true := beq_vtrue hx
                clear hx
                go_wp2_with (fail)
                go_quiet (fail)
                go_wp2_with (fail)
                go_quiet ((go_at_call 24; first | exact quiet_next (BY.out _) | exact Calls.quiet_of_same (BY.out _)))
                go_wp2_with (fail)
                go_roundw
                case rel => first | exact REL.out _ _ _ rfl (bel_drewN HB2.out _) | (rw [W4.out]; exact REL.out _ _ _ rfl (bel_drewN HB2.out _))
                case measure => first | exact MEAS2.out | (rw [W4.out]; exact MEAS2.out)
              · have e1 : ((xN.toNat : Int) == (xL.toNat : Int)) = false := beq_ufalse hx
                have e2 : ((xL.toNat : Int) == (xN.toNat : Int)) = false := beq_vfalse hx
                clear hx
                go_wp2_with (fail)
                go_quiet (fail)
                go_wp2_with (fail)
                go_quiet ((go_at_call 24; first | exact quiet_next (BY.out _) | exact Calls.quiet_of_same (BY.out _)))
                go_wp2_with (fail)
                go_roundw
                case rel => first | exact REL.out _ _ _ rfl (bel_drewN HB2.out _) | (rw [W4.out]; exact REL.out _ _ _ rfl (bel_drewN HB2.out _))
                case measure => first | exact MEAS2.out | (rw [W4.out]; exact MEAS2.out)
          · have hge : ¬ (j < 64 * n + 64) ∨ (j < 64 * n + 64 ∧ ¬ j < Rb.size) := surv_e hj
            clear hj
            have HN2 := Lib.hid (surv_o (w := w) hlt HB2.out)
            rcases hge with hge | ⟨hge, hge2⟩
            · have g1 : ¬ (j : Int) < 64 * (n : Int) + 64 := surv_f hge
              go_wp2
              go_roundw
              case rel => first | exact HN2.out | (rw [W2.out]; exact HN2.out)
              case measure => first | exact MEAS.out | (rw [W2.out]; exact MEAS.out)
            · obtain ⟨g1, g2⟩ := surv_g hge hge2
              go_wp2
              go_roundw
              case rel => first | exact HN2.out | (rw [W2.out]; exact HN2.out)
              case measure => first | exact MEAS.out | (rw [W2.out]; exact MEAS.out)
      · have S := Lib.hid hs
        clear hs hsec
        go_wp2

        go_loopw [20, 18, 19] (fun i x y wr => ∃ (j : Nat) (b1 b2 : Bool), 64 * n ≤ j ∧ j ≤ 64 * n + 64 ∧ i = .int .i64 (j : Int) ∧ x = .bool b1 ∧ y = .bool b2 ∧ b2 = true ∧ Hid (Below w.heap.size w wr)) (fun i _ _ _ => 64 * n + 64 - (intOf i).toNat)
        case atStart => exact ⟨64 * n, true, true, Nat.le_refl _, by omega, by go_num, rfl, rfl, rfl, HB⟩
        case round =>
          obtain ⟨j, b1, b2, hj0, hj1, rfl, rfl, rfl, rfl, HB2⟩ := hrel
          by_cases hj : j < 64 * n + 64 ∧ j < Rb.size
          · obtain ⟨hj2, hj3⟩ := hj
            obtain ⟨g0, g1, g2, v4⟩ := surv_n hj2 hj0 hj3 rb0
            have hjN : j < Nb.size := Nat.lt_of_lt_of_le hj3 ASZ.out.1
            have g3 : (j : Int) < (Nb.size : Int) := Int.ofNat_lt.2 hjN
            have W4 := Lib.hid v4
            have REL := Lib.hid (surv_b (w := w) hj0 hj2)
            have MEAS2 := Lib.hid (surv_m hj2)
            have xr := GR.out j hj3
            have xn := GN.out j hjN
            have BY := Lib.hid (byteAt_at GL.out LSZ.out j)
            have sq := S.out j (div64 hj0 hj2)
            rw [sq] at xr
            clear sq
            generalize at0 N j = xN at *
            generalize at0 L j = xL at *
            cases b1
            · go_wp2_with (fail)
              go_quiet (fail)
              go_wp2_with (fail)
              go_quiet ((go_at_call 24; first | exact quiet_next (BY.out _) | exact Calls.quiet_of_same (BY.out _)))
              go_wp2_with (fail)
              go_roundw
              case rel => first | exact REL.out _ _ _ rfl (bel_drewN HB2.out _) | (rw [W4.out]; exact REL.out _ _ _ rfl (bel_drewN HB2.out _))
              case measure => first | exact MEAS2.out | (rw [W4.out]; exact MEAS2.out)
            · by_cases hx : xN.toNat = xL.toNat
              · have e1 : ((xN.toNat : Int) == (xL.toNat : Int)) = true := beq_utrue hx
                have e2 : ((xL.toNat : Int) == (xN.toNat : Int)) = true := beq_vtrue hx
                clear hx
                go_wp2_with (fail)
                go_quiet (fail)
                go_wp2_with (fail)
                go_quiet ((go_at_call 24; first | exact quiet_next (BY.out _) | exact Calls.quiet_of_same (BY.out _)))
                go_wp2_with (fail)
                go_roundw
                case rel => first | exact REL.out _ _ _ rfl (bel_drewN HB2.out _) | (rw [W4.out]; exact REL.out _ _ _ rfl (bel_drewN HB2.out _))
                case measure => first | exact MEAS2.out | (rw [W4.out]; exact MEAS2.out)
              · have e1 : ((xN.toNat : Int) == (xL.toNat : Int)) = false := beq_ufalse hx
                have e2 : ((xL.toNat : Int) == (xN.toNat : Int)) = false := beq_vfalse hx
                clear hx
                go_wp2_with (fail)
                go_quiet (fail)
                go_wp2_with (fail)
                go_quiet ((go_at_call 24; first | exact quiet_next (BY.out _) | exact Calls.quiet_of_same (BY.out _)))
                go_wp2_with (fail)
                go_roundw
                case rel => first | exact REL.out _ _ _ rfl (bel_drewN HB2.out _) | (rw [W4.out]; exact REL.out _ _ _ rfl (bel_drewN HB2.out _))
                case measure => first | exact MEAS2.out | (rw [W4.out]; exact MEAS2.out)
          · have hge : ¬ (j < 64 * n + 64) ∨ (j < 64 * n + 64 ∧ ¬ j < Rb.size) := surv_e hj
            clear hj
            have HN2 := Lib.hid (surv_o (w := w) hlt HB2.out)
            rcases hge with hge | ⟨hge, hge2⟩
            · have g1 : ¬ (j : Int) < 64 * (n : Int) + 64 := surv_f hge
              cases b1
              all_goals
                go_wp2
                go_roundw
                case rel => first | exact HN2.out | (rw [W2.out]; exact HN2.out)
                case measure => first | exact MEAS.out | (rw [W2.out]; exact MEAS.out)
            · obtain ⟨g1, g2⟩ := surv_g hge hge2
              cases b1
              all_goals
                go_wp2
                go_roundw
                case rel => first | exact HN2.out | (rw [W2.out]; exact HN2.out)
                case measure => first | exact MEAS.out | (rw [W2.out]; exact MEAS.out)
    · have g5 : ¬ 64 * (n : Int) < (Rb.size : Int) := by omega
      go_wp2
      go_ret
      exact ⟨rfl, HB.out⟩
theorem survives_any {w : World} {a ka : Option Addr} {c kc : Nat} {l : List ActV} {k : List Int} (h : ActsAt w.heap.size w a l) (f : Int) (hfI : InI f) (hk : k.length ≤ maxLen) (hs : SrcAt w (.slice ka k.length kc) k.length (intCells k)) (hl : k ≠ [] → ∀ b, (Value.slice ka k.length kc).ownBlock = some b → b < w.heap.size) :
    Calls Try.prog 4 #[.slice a l.length c, .int .i64 f, .slice ka k.length kc] w fun e w' => e = .returned (.bool true) ∧ Below w.heap.size w w' := by
  by_cases hg : Few l ∧ k.length ≤ 60
  · by_cases hb : (runActs St.new l).down = true ∨ ¬ isF f ∨ 100000 < ((runActs St.new l).now f).length
    · exact survives_bad h f hfI hg.1 hg.2 hb
    · have h1 : (runActs St.new l).down = false := by
        cases hd : (runActs St.new l).down
        · rfl
        · exact absurd (.inl hd) hb
      have h2 : isF f := Classical.byContradiction fun h => hb (.inr (.inl h))
      exact survives_up h f hfI hg.1 ⟨hs, hl, hg.2⟩ h1 h2 (by
        have : ¬ 100000 < ((runActs St.new l).now f).length := fun h => hb (.inr (.inr h))
        omega)
  · exact survives_few h f hk hg
end Go.Proofs.Ytgebfhikahjahaa
