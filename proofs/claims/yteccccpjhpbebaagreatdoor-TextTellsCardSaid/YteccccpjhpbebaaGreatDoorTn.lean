/-
  PACKAGE text: Pattern.
-/
import Derived.Test.YteccccpjhpbebaaGreatDoorTm
import Derived.Deep.LoopGhost
import Derived.WalkMore
import Derived.Outline
namespace Go.Proofs.YteccccpjhpbebaaGreatDoor
open Go.RowKit WireM
set_option linter.unusedVariables false
set_option linter.unusedSimpArgs false

/-- What every round of the matching loop lowers. -/
def mu (P N i : Nat) (a b : Int) : Nat := ((P : Int) - 1 - a).toNat * ((N + 2) * (P + 1)) + ((N : Int) - b).toNat * (P + 1) + (P - i)
theorem mu_le {A A' B B' C C' X Y : Nat} (h1 : A' ≤ A) (h2 : B' ≤ B) (h3 : C' < C) : A' * X + B' * Y + C' < A * X + B * Y + C := by
  have e1 : A' * X ≤ A * X := Nat.mul_le_mul_right X h1
  have e2 : B' * Y ≤ B * Y := Nat.mul_le_mul_right Y h2
  omega
theorem mu_back {A B B' C C' X Y : Nat} (h2 : B = B' + 1) (h3 : C' < Y) : A * X + B' * Y + C' < A * X + B * Y + C := by
  have e2 : B * Y = B' * Y + Y := by rw [h2, Nat.succ_mul]
  omega
theorem inv_bounds {L : List (List UInt8)} {s : List UInt8} {i j : Nat} {a b : Int} (h : Inv L s i j a b) : i ≤ L.length ∧ j ≤ s.length ∧ -1 ≤ a ∧ a < i ∧ -1 ≤ b ∧ b ≤ j ∧ (0 ≤ a → ∃ x y : Nat, a = x ∧ b = y ∧ x < i) := by
  obtain ⟨h1, h2, h3⟩ := h
  rcases h3 with ⟨ha, hb, _⟩ | ⟨x, y, ha, hb, hx, hy, _⟩
  · exact ⟨h1, h2, by omega, by omega, by omega, by omega, fun h => by omega⟩
  · exact ⟨h1, h2, by omega, by omega, by omega, by omega, fun _ => ⟨x, y, ha, hb, hx⟩⟩
/-- What the loop of Pattern holds. -/
def PtAt (L : List (List UInt8)) (D : List UInt8) (w : World) (g i j : Nat) (a b : Int) (wr : World) : Prop :=
  Inv L D i j a b ∧ mu L.length D.length i a b ≤ g ∧ Below w.heap.size w wr
theorem pt_star {L : List (List UInt8)} {D : List UInt8} {w wr : World} {g i j : Nat} {a b : Int} (h : PtAt L D w g i j a b wr) (hi : i < L.length) (hs : L.getD i [] = WireM.star) :
    ∃ g', g' < g ∧ PtAt L D w g' (i + 1) j i j wr := by
  obtain ⟨h1, h2, h3⟩ := h
  obtain ⟨b1, b2, b3, b4, b5, b6, b7⟩ := inv_bounds h1
  refine ⟨mu L.length D.length (i + 1) i j, Nat.lt_of_lt_of_le ?_ h2, h1.star hi hs, Nat.le_refl _, h3⟩
  unfold mu
  exact mu_le (by omega) (by omega) (by omega)
theorem pt_one {L : List (List UInt8)} {D : List UInt8} {w wr w2 : World} {g i j : Nat} {a b : Int} (h : PtAt L D w g i j a b wr) (hi : i < L.length) (hs : L.getD i [] ≠ WireM.star) (hj : j < D.length) (hf : fit (L.getD i []) D[j] = true) (hw : Below w.heap.size w w2) :
    ∃ g', g' < g ∧ PtAt L D w g' (i + 1) (j + 1) a b w2 := by
  obtain ⟨h1, h2, h3⟩ := h
  refine ⟨mu L.length D.length (i + 1) a b, Nat.lt_of_lt_of_le ?_ h2, h1.one hi hs hj hf, Nat.le_refl _, hw⟩
  unfold mu
  exact mu_le (Nat.le_refl _) (Nat.le_refl _) (by omega)
theorem pt_back {L : List (List UInt8)} {D : List UInt8} {w wr w2 : World} {g i j x y : Nat} (h : PtAt L D w g i j x y wr) (hst : ¬ M L D i j) (hy : y < D.length) (hw : Below w.heap.size w w2) :
    ∃ g', g' < g ∧ PtAt L D w g' (x + 1) (y + 1) x ((y : Int) + 1) w2 := by
  obtain ⟨h1, h2, h3⟩ := h
  obtain ⟨b1, b2, b3, b4, b5, b6, b7⟩ := inv_bounds h1
  refine ⟨mu L.length D.length (x + 1) x ((y : Int) + 1), Nat.lt_of_lt_of_le ?_ h2, h1.back hst hy, Nat.le_refl _, hw⟩
  unfold mu
  exact mu_back (by omega) (by omega)

set_option maxHeartbeats 4000000 in
set_option maxRecDepth 100000 in
theorem pattern_any (p s : ByteArray) (hp : p.size ≤ 1000000000) (hs : s.size ≤ 1000000000) (w : World) :
    Calls Tryz.prog 20 #[.string p, .string s] w fun e w' => e = .returned (.bool (patB p.data.toList s.data.toList)) ∧ Below w.heap.size w w' := by
  obtain ⟨L, hL⟩ : ∃ L, parts p.data.toList = L := ⟨_, rfl⟩
  have ep : p.data.toList.length = p.size := by simp
  have HE := Lib.hid (show s.data.toList.length = s.size by simp)
  have HY := Lib.hid (show M L s.data.toList 0 0 → patB p.data.toList s.data.toList = true from fun h => (patB_M _ _).2 (by rw [hL]; exact h))
  have HN := Lib.hid (show ¬ M L s.data.toList 0 0 → patB p.data.toList s.data.toList = false from fun h => patB_no (by rw [hL]; exact h))
  have hll : L.length ≤ 1000000000 := by
    have := parts_len _ p.data.toList (Nat.le_refl _)
    rw [hL] at this
    omega
  have HT := Lib.hid (show ∀ t ∈ L, 1 ≤ t.length ∧ t.length ≤ 1000000000 from fun t ht => by
    have := parts_pos _ p.data.toList (Nat.le_refl _) t (by rw [hL]; exact ht)
    omega)
  obtain ⟨D, hD⟩ : ∃ D, s.data.toList = D := ⟨_, rfl⟩
  rw [hD] at HE HY HN ⊢
  have hDl : D.length = s.size := HE.out
  have HB := Lib.hid (show ∀ (k : Nat) (h : k < s.size) (h2 : k < D.length), D[k] = s[k] from fun k h h2 => by
    subst hD; simp; rfl)
  have HDl := Lib.hid hDl
  clear ep hD hDl HE
  go_enter Tryz.func20, Tryz.ntmps20
  go_wp2_with fail
  go_step3
  go_wp2_with fail
  go_at_call 37
  refine (split_any p hp _).mono ?_
  rintro e w1 ⟨v, rfl, hrow⟩
  rw [hL] at hrow
  clear hL
  obtain ⟨ad, cap, rfl⟩ := row_form hrow
  have hz1 : (L.length : Int) ≤ 1000000000 := by omega
  have hz2 : (s.size : Int) ≤ 1000000000 := by omega
  have hst : PtAt L D w (mu L.length D.length 0 (-1) (-1)) 0 0 (-1) (-1) w1 := ⟨Inv.start L D, Nat.le_refl _, hrow.2⟩
  have hdr : ∃ q, w1 = w1.drewN q := ⟨0, rfl⟩
  go_wp2_with fail
  go_step3
  go_wp2_with fail
  go_loopg [6, 7, 8, 9] (mu L.length D.length 0 (-1) (-1)) (fun gk u v x y wr => ∃ (i j : Nat) (a b : Int), u = .int .i64 i ∧ v = .int .i64 j ∧ x = .int .i64 a ∧ y = .int .i64 b ∧ PtAt L D w gk i j a b wr ∧ ∃ q, wr = w1.drewN q)
  case atStart => exact ⟨0, 0, -1, -1, rfl, rfl, rfl, rfl, hst, hdr⟩
  case round =>
    obtain ⟨i, j, a, b, rfl, rfl, rfl, rfl, hpt, q, hq⟩ := hrel
    clear hst hdr
    have hkept : StrKept w1 wr := by rw [hq]; exact StrKept.below (Go.below_drewN (Below.refl _ _) q)
    have HQ := Lib.hid hq
    clear hq
    obtain ⟨b1, b2, b3, b4, b5, b6, b7⟩ := inv_bounds hpt.1
    have H7 := Lib.hid b7
    have bD := HDl.out
    have bw := hpt.2.2
    rw [bD] at b2
    clear b7 bD
    by_cases hi : i < L.length
    · have hiz : (i : Int) < L.length := by omega
      obtain ⟨-, bb, oo, rfl, hcell⟩ := row_cell hrow hkept hi
      have ht := HT.out (L.getD i []) (by simp [List.getD, hi])
      by_cases hstar : L.getD i [] = WireM.star
      · obtain ⟨g', hg', hpt'⟩ := pt_star hpt hi hstar
        rw [hstar] at hcell
        have f0 : ((bs WireM.star).toList == [42]) = true := by rw [isStar_eq]; rfl
        clear hstar hpt
        generalize bs WireM.star = st at *
        go_wp2_with fail
        go_roundg g'
        case measure => omega
        case rel => exact ⟨i + 1, j, i, j, by go_num, rfl, rfl, rfl, hpt', q, HQ.out⟩
      · have f0 : ((bs (L.getD i [])).toList == [42]) = false := by rw [isStar_eq, bs_data]; simpa [WireM.star] using hstar
        by_cases hj : j < s.size
        · have hjz : (j : Int) < s.size := by omega
          have hjD : j < D.length := by rw [HDl.out]; exact hj
          have hm := matches_any (bs (L.getD i [])) s[j] (by rw [bs_size]; exact ht.1) (by rw [bs_size]; omega)
          rw [bs_data] at hm
          by_cases hf : fit (L.getD i []) s[j] = true
          · have HP := Lib.hid (show ∀ w2, Below w.heap.size w w2 → ∃ g', g' < gk ∧ PtAt L D w g' (i + 1) (j + 1) a b w2 from fun w2 hw2 => pt_one hpt hi hstar hjD (by rw [HB.out j hj hjD]; exact hf) hw2)
            rw [hf] at hm
            clear hf hstar hpt
            generalize bs (L.getD i []) = tt at *
            go_wp2_with fail
            go_quiet ((go_at_call 38; exact Calls.quiet_of (hm _)))
            go_wp2_with fail
            obtain ⟨g', hg', hpt'⟩ := HP.out _ (Go.below_drewN bw nq)
            go_roundg g'
            case measure => omega
            case rel => exact ⟨i + 1, j + 1, a, b, by go_num, by go_num, rfl, rfl, hpt', q + nq, by rw [HQ.out, World.drewN_drewN]⟩
          · have hf' : fit (L.getD i []) s[j] = false := by simpa using hf
            have HS := Lib.hid (show ¬ M L D i j from stuck_fit hi hstar hjD (by rw [HB.out j hj hjD]; exact hf'))
            rw [hf'] at hm
            have fin1 : ((i : Int) == L.length) = false := by rw [beq_eq_false_iff_ne]; omega
            clear hf hf' hstar
            generalize bs (L.getD i []) = tt at *
            by_cases ha : 0 ≤ a
            · obtain ⟨x, y, rfl, rfl, hxi⟩ := H7.out ha
              by_cases hb : y < s.size
              · have hbz : (y : Int) < s.size := by omega
                have hxz : (0 : Int) ≤ x := by omega
                have HP := Lib.hid (show ∀ w2, Below w.heap.size w w2 → ∃ g', g' < gk ∧ PtAt L D w g' (x + 1) (y + 1) x ((y : Int) + 1) w2 from fun w2 hw2 => pt_back hpt HS.out (by rw [HDl.out]; exact hb) hw2)
                clear hpt
                go_wp2_with fail
                go_quiet ((go_at_call 38; exact Calls.quiet_of (hm _)))
                go_wp2_with fail
                obtain ⟨g', hg', hpt'⟩ := HP.out _ (Go.below_drewN bw nq)
                go_roundg g'
                case measure => omega
                case rel => exact ⟨x + 1, y + 1, x, (y : Int) + 1, by go_num, by go_num, rfl, rfl, hpt', q + nq, by rw [HQ.out, World.drewN_drewN]⟩
              · have hbz : ¬ (y : Int) < s.size := by omega
                have hxz : (0 : Int) ≤ x := by omega
                have HR := Lib.hid (show patB p.data.toList D = false from HN.out (Inv.stop hpt.1 HS.out (.inr (by rw [HDl.out]; omega))))
                clear hpt
                go_wp2_with fail
                go_quiet ((go_at_call 38; exact Calls.quiet_of (hm _)))
                go_wp2_with fail
                try rw [Exit.noGoto_ret]
                go_ret
                exact ⟨by rw [HR.out]; rfl, Go.below_drewN bw nq⟩
            · have haz : ¬ (0 : Int) ≤ a := ha
              have HR := Lib.hid (show patB p.data.toList D = false from HN.out (Inv.stop hpt.1 HS.out (.inl (by omega))))
              clear hpt
              go_wp2_with fail
              go_quiet ((go_at_call 38; exact Calls.quiet_of (hm _)))
              go_wp2_with fail
              try rw [Exit.noGoto_ret]
              go_ret
              exact ⟨by rw [HR.out]; rfl, Go.below_drewN bw nq⟩
        · have hjz : ¬ (j : Int) < s.size := by omega
          have hjd : decide ((j : Int) < s.size) = false := by simpa using hjz
          have HS := Lib.hid (show ¬ M L D i j from M_one_end hi hstar (by rw [HDl.out]; omega))
          have fin1 : ((i : Int) == L.length) = false := by rw [beq_eq_false_iff_ne]; omega
          clear hstar
          generalize bs (L.getD i []) = tt at *
          by_cases ha : 0 ≤ a
          · obtain ⟨x, y, rfl, rfl, hxi⟩ := H7.out ha
            by_cases hb : y < s.size
            · have hbz : (y : Int) < s.size := by omega
              have hxz : (0 : Int) ≤ x := by omega
              have HP := Lib.hid (show ∀ w2, Below w.heap.size w w2 → ∃ g', g' < gk ∧ PtAt L D w g' (x + 1) (y + 1) x ((y : Int) + 1) w2 from fun w2 hw2 => pt_back hpt HS.out (by rw [HDl.out]; exact hb) hw2)
              clear hpt
              go_wp2_with fail
              go_quiet (fail)
              go_wp2_with fail
              obtain ⟨g', hg', hpt'⟩ := HP.out _ (Go.below_drewN bw nq)
              go_roundg g'
              case measure => omega
              case rel => exact ⟨x + 1, y + 1, x, (y : Int) + 1, by go_num, by go_num, rfl, rfl, hpt', q + nq, by rw [HQ.out, World.drewN_drewN]⟩
            · have hbz : ¬ (y : Int) < s.size := by omega
              have hxz : (0 : Int) ≤ x := by omega
              have HR := Lib.hid (show patB p.data.toList D = false from HN.out (Inv.stop hpt.1 HS.out (.inr (by rw [HDl.out]; omega))))
              clear hpt
              go_wp2_with fail
              go_quiet (fail)
              go_wp2_with fail
              try rw [Exit.noGoto_ret]
              go_ret
              exact ⟨by rw [HR.out]; rfl, Go.below_drewN bw nq⟩
          · have haz : ¬ (0 : Int) ≤ a := ha
            have HR := Lib.hid (show patB p.data.toList D = false from HN.out (Inv.stop hpt.1 HS.out (.inl (by omega))))
            clear hpt
            go_wp2_with fail
            go_quiet (fail)
            go_wp2_with fail
            try rw [Exit.noGoto_ret]
            go_ret
            exact ⟨by rw [HR.out]; rfl, Go.below_drewN bw nq⟩
    · have hiz : ¬ (i : Int) < L.length := by omega
      have hid : decide ((i : Int) < L.length) = false := by simpa using hiz
      obtain rfl : i = L.length := by omega
      have fin0 : ((L.length : Int) == L.length) = true := by simp
      by_cases hj : j < s.size
      · have hjz : (j : Int) < s.size := by omega
        have HS := Lib.hid (show ¬ M L D L.length j from stuck_end (by rw [HDl.out]; exact hj))
        have fin1 : ((j : Int) == s.size) = false := by rw [beq_eq_false_iff_ne]; omega
        by_cases ha : 0 ≤ a
        · obtain ⟨x, y, rfl, rfl, hxi⟩ := H7.out ha
          by_cases hb : y < s.size
          · have hbz : (y : Int) < s.size := by omega
            have hxz : (0 : Int) ≤ x := by omega
            have HP := Lib.hid (show ∀ w2, Below w.heap.size w w2 → ∃ g', g' < gk ∧ PtAt L D w g' (x + 1) (y + 1) x ((y : Int) + 1) w2 from fun w2 hw2 => pt_back hpt HS.out (by rw [HDl.out]; exact hb) hw2)
            clear hpt
            go_wp2_with fail
            go_quiet (fail)
            go_wp2_with fail
            obtain ⟨g', hg', hpt'⟩ := HP.out _ (Go.below_drewN bw nq)
            go_roundg g'
            case measure => omega
            case rel => exact ⟨x + 1, y + 1, x, (y : Int) + 1, by go_num, by go_num, rfl, rfl, hpt', q + nq, by rw [HQ.out, World.drewN_drewN]⟩
          · have hbz : ¬ (y : Int) < s.size := by omega
            have hxz : (0 : Int) ≤ x := by omega
            have HR := Lib.hid (show patB p.data.toList D = false from HN.out (Inv.stop hpt.1 HS.out (.inr (by rw [HDl.out]; omega))))
            clear hpt
            go_wp2_with fail
            go_quiet (fail)
            go_wp2_with fail
            try rw [Exit.noGoto_ret]
            go_ret
            exact ⟨by rw [HR.out]; rfl, Go.below_drewN bw nq⟩
        · have haz : ¬ (0 : Int) ≤ a := ha
          have HR := Lib.hid (show patB p.data.toList D = false from HN.out (Inv.stop hpt.1 HS.out (.inl (by omega))))
          clear hpt
          go_wp2_with fail
          go_quiet (fail)
          go_wp2_with fail
          try rw [Exit.noGoto_ret]
          go_ret
          exact ⟨by rw [HR.out]; rfl, Go.below_drewN bw nq⟩
      · have hjz : ¬ (j : Int) < s.size := by omega
        obtain rfl : j = s.size := by omega
        have fin1 : ((s.size : Int) == s.size) = true := by simp
        have HR := Lib.hid (show patB p.data.toList D = true from HY.out (Inv.done (by have := hpt.1; rw [HDl.out]; exact this)))
        go_wp2_with fail
        try rw [Exit.noGoto_ret]
        go_ret
        exact ⟨by rw [HR.out]; rfl, bw⟩
end Go.Proofs.YteccccpjhpbebaaGreatDoor
