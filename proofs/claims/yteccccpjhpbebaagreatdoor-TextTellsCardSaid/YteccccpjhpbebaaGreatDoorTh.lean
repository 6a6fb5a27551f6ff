/-
  strconv.unquote: a string between quotation marks.
-/
import Derived.Test.YteccccpjhpbebaaGreatDoorTe
namespace Go.Proofs.YteccccpjhpbebaaGreatDoor
open Go.RowKit WireM
set_option linter.unusedVariables false
set_option linter.unusedSimpArgs false

theorem herr_at {w w' : World} {tp : TypeId} {p : Value} (ht : Glob w) (hb : Below w.heap.size w w') (h : w.cell? ⟨0, 0, none⟩ = some (.iface tp p)) : w'.cell? ⟨0, 0, none⟩ = some (.iface tp p) := by
  rw [hb.cell (p := ⟨0, 0, none⟩) (show 0 < w.heap.size by have := ht.size; omega)]; exact h
set_option maxHeartbeats 4000000 in
set_option maxRecDepth 1000000 in
theorem uq_34f (s : ByteArray) (q : UInt8) (i : Nat) (w : World) (ht : Glob w) (h2 : 2 ≤ s.size) (hz : s.size ≤ 100000000) (hq : s[0] = q) (hi : ix (s.data.toList.drop 1) q = i) (hqn : q.toNat = 34) (h1 : hasB (s.extract 0 (i + 2)).data.toList 92 = false) (h3 : hasB (s.extract 0 (i + 2)).data.toList 10 = false) (hv : Lib.validD (s.extract 1 (i + 1)).data.toList = true) :
    Calls Tryz.prog 45 #[.string s, .bool true] w (UqPost s w) := by
  have hp0 : 0 < s.size := by omega
  have g0 : ¬ (s.size : Int) < 2 := by omega
  have g1 : (0 : Int) < s.size := by omega
  have g2 : (1 : Int) ≤ s.size := by omega
  have hc := index_any (s.extract 1 s.size) q w
  rw [tail_bs0, bs_data, hi, ← tail_bs0] at hc
  have HC := Lib.hid hc
  have hil := (ix_some hi).1
  rw [List.length_drop] at hil
  have es : s.data.toList.length = s.size := by simp
  rw [es] at hil
  have i2 : i + 2 ≤ s.size := by omega
  have i3 : (i : Int) + 2 ≤ s.size := by omega
  have i4 : ¬ (i : Int) < 0 := by omega
  have i5 : (i : Int) ≤ 100000000 := by omega
  have s1 := fun W => slice_to s (i + 2) ((i : Int) + 2) (by omega) i2 W
  have s2 := fun W => slice_mid s 1 (i + 1) 1 ((i : Int) + 2 - 1) (by omega) (by omega) (by omega) (by omega) W
  have s3 := fun W => slice_from s (i + 2) ((i : Int) + 2) (by omega) i2 W
  have e96 : ((q.toNat : Int) == 96) = false := by rw [beq_eq_false_iff_ne]; omega
  have e34 : ((q.toNat : Int) == 34) = true := by rw [beq_iff_eq]; omega
  have e39 : ((q.toNat : Int) == 39) = false := by rw [beq_eq_false_iff_ne]; omega
  have hqv := Lib.hid hqn
  have c1 := contains_any (s.extract 0 (i + 2)) 92 w
  rw [h1] at c1
  have Hc1 := Lib.hid c1
  have c2 := contains_any (s.extract 0 (i + 2)) 10 w
  rw [h3] at c2
  have Hc2 := Lib.hid c2
  have hvd := Tryz.utf8_ValidString (s.extract 1 (i + 1)) w (by rw [ByteArray.size_extract]; omega) ht.utf
  rw [hv] at hvd
  have HVD := Lib.hid hvd
  have HF := Lib.hid (show ∀ t, quote t = s.data.toList → ((s.extract 0 (i + 2)).extract 1 (i + 1)).data.toList = t ∧ (s.extract (i + 2) s.size).size = 0 from fun t e => by
    have hq34 : q = 34 := UInt8.toNat_inj.1 hqn
    rw [hq34] at hi
    have := fast_ok hp0 hi (by rw [← h1, Lib.extract_data]; simp) t e
    refine ⟨?_, by rw [ByteArray.size_extract]; omega⟩
    rw [← this.1, Lib.extract_data, Lib.extract_data]
    simp only [List.drop_zero, Nat.sub_zero, Nat.add_sub_cancel]
    rw [List.drop_take, List.take_take]; congr 1; omega)
  have s4 := fun W => slice_mid (s.extract 0 (i + 2)) 1 (i + 1) 1 ((i : Int) + 2 - 1) (by omega) (by omega) (by omega) (by rw [ByteArray.size_extract]; omega) W
  have o1 : ((s.extract 0 (i + 2)).extract 1 (i + 1)).size ≤ 4 * s.size := by rw [ByteArray.size_extract, ByteArray.size_extract]; omega
  have o2 : (s.extract (i + 2) s.size).size ≤ s.size := by rw [ByteArray.size_extract]; omega
  clear hi hc es hqn h1 c1 h3 c2 hv hvd
  go_enter Tryz.func45, Tryz.ntmps45
  go_wp2_with fail
  go_at_call 59
  refine HC.out.mono ?_
  rintro e w1 ⟨rfl, rfl⟩
  go_wp2_with fail
  go_at_call 60
  refine Hc1.out.mono ?_
  rintro e w1 ⟨rfl, rfl⟩
  go_wp2_with fail
  go_at_call 60
  refine Hc2.out.mono ?_
  rintro e w1 ⟨rfl, rfl⟩
  go_wp2_with fail
  go_at_call 61
  refine HVD.out.mono ?_
  rintro e w1 ⟨rfl, bv⟩
  go_wp2_with fail
  go_quiet (fail)
  go_wp2_with fail
  go_ret3
  exact uq_yes HF.out o1 o2 (Go.below_drewN bv _)
set_option maxHeartbeats 4000000 in
set_option maxRecDepth 1000000 in
theorem uq_34a (s : ByteArray) (q : UInt8) (i : Nat) (w : World) (ht : Glob w) (h2 : 2 ≤ s.size) (hz : s.size ≤ 100000000) (hq : s[0] = q) (hi : ix (s.data.toList.drop 1) q = i) (hqn : q.toNat = 34) (h1 : hasB (s.extract 0 (i + 2)).data.toList 92 = true) :
    Calls Tryz.prog 45 #[.string s, .bool true] w (UqPost s w) := by
  obtain ⟨tp, p, herr⟩ := ht.err
  have hp0 : 0 < s.size := by omega
  have g0 : ¬ (s.size : Int) < 2 := by omega
  have g1 : (0 : Int) < s.size := by omega
  have g2 : (1 : Int) ≤ s.size := by omega
  have hc := index_any (s.extract 1 s.size) q w
  rw [tail_bs0, bs_data, hi, ← tail_bs0] at hc
  have HC := Lib.hid hc
  have hil := (ix_some hi).1
  rw [List.length_drop] at hil
  have es : s.data.toList.length = s.size := by simp
  rw [es] at hil
  have i2 : i + 2 ≤ s.size := by omega
  have i3 : (i : Int) + 2 ≤ s.size := by omega
  have i4 : ¬ (i : Int) < 0 := by omega
  have i5 : (i : Int) ≤ 100000000 := by omega
  have s1 := fun W => slice_to s (i + 2) ((i : Int) + 2) (by omega) i2 W
  have s2 := fun W => slice_mid s 1 (i + 1) 1 ((i : Int) + 2 - 1) (by omega) (by omega) (by omega) (by omega) W
  have s3 := fun W => slice_from s (i + 2) ((i : Int) + 2) (by omega) i2 W
  have e96 : ((q.toNat : Int) == 96) = false := by rw [beq_eq_false_iff_ne]; omega
  have e34 : ((q.toNat : Int) == 34) = true := by rw [beq_iff_eq]; omega
  have e39 : ((q.toNat : Int) == 39) = false := by rw [beq_eq_false_iff_ne]; omega
  have hqv := Lib.hid hqn
  have c1 := contains_any (s.extract 0 (i + 2)) 92 w
  rw [h1] at c1
  have Hc1 := Lib.hid c1
  have hs0 := sl_start hp0
  have mk := fun W => make_bytes (3 * (i + 2) / 2) (3 * ((i : Int) + 2) / 2) (by omega) (by omega) W
  have hbuf := made_buf (3 * (i + 2) / 2) (by omega) (Below.refl w.heap.size w)
  clear hi hc es hqn h1 c1
  go_enter Tryz.func45, Tryz.ntmps45
  go_wp2_with fail
  go_at_call 59
  refine HC.out.mono ?_
  rintro e w1 ⟨rfl, rfl⟩
  go_wp2_with fail
  go_at_call 60
  refine Hc1.out.mono ?_
  rintro e w1 ⟨rfl, rfl⟩
  go_wp2_with fail
  go_loopw [0, 14] (fun x v wr => ∃ (I : ByteArray) (L : List UInt8), x = .string I ∧ SlAt s I L ∧ BufAt w L v wr) (fun x _ _ => sLen x)
  case atStart => exact ⟨_, [], rfl, hs0, hbuf⟩
  case round =>
    obtain ⟨I, L, rfl, hsl, hb⟩ := hrel
    clear hbuf hs0
    have HSL := Lib.hid hsl
    have z1 := hsl.1
    have z2 := hsl.2.1
    have tabs : Glob wr := ht.of hb.2
    have herr2 : wr.cell? ⟨0, 0, none⟩ = some (.iface tp p) := by
      rw [hb.2.cell (p := ⟨0, 0, none⟩) (show 0 < w.heap.size by have := ht.size; omega)]; exact herr
    clear hsl
    by_cases h0 : I.size = 0
    · have n0 : ¬ (0 : Int) < I.size := by omega
      have hno := Lib.hid (show NoQ s from sl_empty HSL.out h0)
      clear h0
      go_wp2_with fail
      go_quiet (fail)
      go_wp2_with fail
      go_ret3
      exact uq_no hno.out (Nat.le_refl _) (Go.below_drewN hb.2 _)
    · have n0 : (0 : Int) < I.size := by omega
      have hp : 0 < I.size := by omega
      have n1 : (1 : Int) ≤ I.size := by omega
      have hx : (I[0]'hp).toNat < 256 := (I[0]'hp).toNat_lt
      by_cases hq0 : (I[0]'hp) = q
      · have e1 : (((I[0]'hp).toNat : Int) == q.toNat) = true := by rw [beq_iff_eq, hq0]
        have hcv := buf_string hb
        have o1 : (bs L).size ≤ 4 * s.size := by rw [bs_size]; omega
        have o2 : (I.extract 1 I.size).size ≤ s.size := by rw [ByteArray.size_extract]; omega
        have hyes := Lib.hid (show ∀ t, quote t = s.data.toList → (bs L).data.toList = t ∧ (I.extract 1 I.size).size = 0 from fun t e => sl_end HSL.out hp (by rw [hq0]; exact hqv.out) t e)
        clear hq0 h0
        go_wp2_with fail
        go_ret3
        exact uq_yes hyes.out o1 o2 hb.2
      · have e1 := byte_ne hq0
        have hi34 := Lib.hid (show (I[0]'hp).toNat ≠ q.toNat from fun h => hq0 (UInt8.toNat_inj.1 h))
        have huc := uc_any I q wr tabs (by omega) (.inl hqv.out)
        have HUC := Lib.hid huc
        clear hq0 h0 huc
        go_wp2_with fail
        go_at_call 63
        refine HUC.out.mono ?_
        rintro e w2 hp2
        rcases hp2 with ⟨v, mb, T, rfl, hu, b2⟩ | ⟨v, mb, T, tp2, p2, rfl, hu, b2⟩
        · have herr3 : w2.cell? ⟨0, 0, none⟩ = some (.iface tp p) := by
            rw [b2.cell (p := ⟨0, 0, none⟩) (show 0 < wr.heap.size by have := tabs.size; omega)]; exact herr2
          have hb2 : BufAt w L _ w2 := ⟨hb.1.kept (grownBy_of_below b2) (by
            cases hv : Value.ownBlock _ with
            | none => exact .inl rfl
            | some g => exact .inr (by simp)), below_step hb.2 b2⟩
          have HU := Lib.hid hu
          have u1 := hu.1
          have u2 := hu.2.1
          have u3 := hu.2.2.1
          clear hu hb
          by_cases h10 : (I[0]'hp).toNat = 10
          · have e10 : (((I[0]'hp).toNat : Int) == 10) = true := by rw [beq_iff_eq]; omega
            have hno := Lib.hid (show NoQ s from sl_lf HSL.out hp h10)
            clear h10
            go_wp2_with fail
            go_quiet (fail)
            go_wp2_with fail
            go_ret3
            exact uq_no hno.out (Nat.le_refl _) (Go.below_drewN hb2.2 _)
          · have e10 : (((I[0]'hp).toNat : Int) == 10) = false := by rw [beq_eq_false_iff_ne]; omega
            clear h10
            by_cases hone : v < 128 ∨ mb = false
            · obtain ⟨B, hB⟩ : ∃ B : UInt8, IntKind.u8.wrap v = B.toNat := ⟨UInt8.ofNat (IntKind.u8.wrap v).toNat, by
                have hr : 0 ≤ IntKind.u8.wrap v ∧ IntKind.u8.wrap v < 256 := by rw [IntKind.wrap_u8]; omega
                rw [UInt8.toNat_ofNat']; omega⟩
              have hstep := Lib.hid (show SlAt s T (L ++ [B]) from sl_step HSL.out hp (by rw [← hqv.out]; exact hi34.out) hqv.out HU.out (by simp) (fun c hc _ => by rw [hc, IntWalk.u8_in _ (by have := c.toNat_lt; omega)] at hB; rw [UInt8.toNat_inj.1 (Int.ofNat.inj hB)]))
              have hlow : v < 128 ∨ (¬ v < 128 ∧ mb = false) := by
                by_cases h : v < 128
                · exact .inl h
                · exact .inr ⟨h, hone.resolve_left h⟩
              clear hone
              rcases hlow with hlow | ⟨hlow, rfl⟩
              all_goals
                go_wp2_with (at_builtin; refine append_buf rfl _ _ rfl [B] hb2 #[.int .u8 B.toNat] 1 rfl rfl rfl rfl (by omega) ?_; intro v' w3 hb3)
                clear hb2
                go_wp2_with fail
                go_roundw
                case rel => exact ⟨T, _, rfl, hstep.out, hb3⟩
                case measure => simp [sLen]; omega
            · have hlow : ¬ v < 128 := fun h => hone (.inl h)
              obtain rfl : mb = true := by cases mb with | true => rfl | false => exact absurd (Or.inr rfl) hone
              have hstep := Lib.hid (show SlAt s T (L ++ Lib.encodeRune v) from sl_step HSL.out hp (by rw [← hqv.out]; exact hi34.out) hqv.out HU.out (rune_len v) (fun c hc hm => by cases hm))
              have hrb := rune_buf v u2 u3 hb2 (by omega)
              have HRB := Lib.hid hrb
              clear hone hrb
              go_wp2_with fail
              go_at_call 64
              refine HRB.out.mono ?_
              rintro e w3 ⟨v', rfl, hb3⟩
              clear hb2
              go_wp2_with fail
              go_roundw
              case rel => exact ⟨T, _, rfl, hstep.out, hb3⟩
              case measure => simp [sLen]; omega
        · have herr3 : w2.cell? ⟨0, 0, none⟩ = some (.iface tp p) := by
            rw [b2.cell (p := ⟨0, 0, none⟩) (show 0 < wr.heap.size by have := tabs.size; omega)]; exact herr2
          have hno := Lib.hid (show NoQ s from sl_err HSL.out hp (by rw [← hqv.out]; exact hi34.out) hqv.out hu)
          have hbb := below_step hb.2 b2
          clear hu
          by_cases h10 : (I[0]'hp).toNat = 10
          · have e10 : (((I[0]'hp).toNat : Int) == 10) = true := by rw [beq_iff_eq]; omega
            clear h10
            go_wp2_with fail
            go_quiet (fail)
            go_wp2_with fail
            go_ret3
            exact uq_no hno.out (Nat.le_refl _) (Go.below_drewN hbb _)
          · have e10 : (((I[0]'hp).toNat : Int) == 10) = false := by rw [beq_eq_false_iff_ne]; omega
            clear h10
            go_wp2_with fail
            go_quiet (fail)
            go_wp2_with fail
            go_ret3
            exact uq_no hno.out (Nat.le_refl _) (Go.below_drewN hbb _)
end Go.Proofs.YteccccpjhpbebaaGreatDoor
