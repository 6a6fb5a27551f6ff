/-
  THE REFERENCE: Int.
-/
import Derived.Test.YteccccpjhpbebaaGreatDoorUa
namespace Go.Proofs.YteccccpjhpbebaaGreatDoor
open Go.RowKit WireM
set_option linter.unusedVariables false
set_option linter.unusedSimpArgs false

/-- What the scan holds, without bounds: the negated number of the digits, a minus passed over. -/
def sc (l : List UInt8) : Int := l.foldl (fun z c => if c.toNat = 45 then z else z * 10 - ((c.toNat : Int) - 48)) 0
theorem sc_snoc (l : List UInt8) (c : UInt8) : sc (l ++ [c]) = if c.toNat = 45 then sc l else sc l * 10 - ((c.toNat : Int) - 48) := by
  unfold sc; rw [List.foldl_append]; rfl
theorem sc_minus (l : List UInt8) : sc (45 :: l) = sc l := rfl
theorem digit_nat (d : Nat) (h : d < 10) : (UInt8.ofNat (48 + d)).toNat = 48 + d := by rw [UInt8.toNat_ofNat']; omega
theorem sc_dd (n : Nat) : sc (Lib.decDigits n) = -(n : Int) := by
  induction n using Nat.strongRecOn with
  | _ n ih =>
    by_cases h : n < 10
    · rw [dd_small h]
      have := digit_nat n h
      unfold sc
      rw [List.foldl_cons, List.foldl_nil, this, if_neg (by omega)]
      omega
    · rw [dd_big h, sc_snoc, ih _ (by omega), digit_nat _ (by omega), if_neg (by omega)]
      omega
theorem dd_chars (n : Nat) : ∀ c ∈ Lib.decDigits n, 48 ≤ c.toNat ∧ c.toNat ≤ 57 := by
  induction n using Nat.strongRecOn with
  | _ n ih =>
    intro c hc
    by_cases h : n < 10
    · rw [dd_small h] at hc
      have := digit_nat n h
      rw [List.mem_singleton] at hc; subst hc; omega
    · rw [dd_big h] at hc
      rcases List.mem_append.1 hc with hc | hc
      · exact ih _ (by omega) c hc
      · have := digit_nat (n % 10) (by omega)
        rw [List.mem_singleton] at hc; subst hc; omega
theorem itoa_form (m : Int) : (∃ n : Nat, m = n ∧ Lib.itoa m = Lib.decDigits n) ∨ (∃ n : Nat, n ≠ 0 ∧ m = -(n : Int) ∧ Lib.itoa m = 45 :: Lib.decDigits n) := by
  rcases Int.lt_or_le m 0 with h | h
  · obtain ⟨n, rfl⟩ : ∃ n : Nat, m = -(n : Int) := ⟨m.natAbs, by omega⟩
    exact .inr ⟨n, by omega, rfl, itoa_negs n (by omega)⟩
  · obtain ⟨n, rfl⟩ : ∃ n : Nat, m = (n : Int) := ⟨m.toNat, by omega⟩
    exact .inl ⟨n, rfl, itoa_nat n⟩
/-- A byte of a decimal that is no digit is the minus at the head. -/
theorem itoa_bad (m : Int) (k : Nat) (c : UInt8) (h : (Lib.itoa m)[k]? = some c) (hd : c.toNat < 48 ∨ 57 < c.toNat) : k = 0 ∧ c.toNat = 45 := by
  rcases itoa_form m with ⟨n, _, e⟩ | ⟨n, _, _, e⟩
  · rw [e] at h
    have := dd_chars n c (List.mem_of_getElem? h)
    omega
  · rw [e] at h
    cases k with
    | zero => simp at h; subst h; exact ⟨rfl, rfl⟩
    | succ k =>
      rw [List.getElem?_cons_succ] at h
      have := dd_chars n c (List.mem_of_getElem? h)
      omega
theorem itoa_sc (m : Int) : (m < 0 → (Lib.itoa m)[0]? = some 45 ∧ sc (Lib.itoa m) = m) ∧ (0 ≤ m → (Lib.itoa m)[0]? ≠ some 45 ∧ sc (Lib.itoa m) = -m) := by
  rcases itoa_form m with ⟨n, rfl, e⟩ | ⟨n, h0, rfl, e⟩
  · refine ⟨fun h => by omega, fun _ => ⟨fun h => ?_, by rw [e, sc_dd]⟩⟩
    rw [e] at h
    have := dd_chars n 45 (List.mem_of_getElem? h)
    simp at this
  · exact ⟨fun _ => ⟨by rw [e]; rfl, by rw [e, sc_minus, sc_dd]⟩, fun h => by omega⟩
def Mod64 (z x : Int) : Prop := InR z ∧ ∃ q : Int, z = x + q * 18446744073709551616
theorem Mod64.step {z x : Int} (h : Mod64 z x) (d : Int) : Mod64 (wrap64 (wrap64 (z * 10) - d)) (x * 10 - d) := by
  obtain ⟨_, q, hq⟩ := h
  unfold Mod64 InR wrap64
  refine ⟨by omega, ?_⟩
  refine ⟨(((z * 10 + 9223372036854775808) % 18446744073709551616 - 9223372036854775808 - d + 9223372036854775808) % 18446744073709551616 - 9223372036854775808 - (x * 10 - d)) / 18446744073709551616, ?_⟩
  omega
theorem Mod64.neg {z x : Int} (h : Mod64 z x) : Mod64 (wrap64 (-z)) (-x) := by
  obtain ⟨_, q, hq⟩ := h
  unfold Mod64 InR wrap64
  refine ⟨by omega, ?_⟩
  refine ⟨((-z + 9223372036854775808) % 18446744073709551616 - 9223372036854775808 + x) / 18446744073709551616, ?_⟩
  omega
theorem Mod64.eq {z x : Int} (h : Mod64 z x) (hx : InR x) : z = x := by
  obtain ⟨⟨h1, h2⟩, q, hq⟩ := h
  obtain ⟨h3, h4⟩ := hx
  omega
theorem scan_step (s : ByteArray) (k : Nat) (h : k < s.size) (h45 : s[k].toNat ≠ 45) : sc (s.data.toList.take (k + 1)) = sc (s.data.toList.take k) * 10 - ((s[k].toNat : Int) - 48) := by
  rw [take_snoc s k h, sc_snoc, if_neg h45]
theorem scan_minus (s : ByteArray) (k : Nat) (h : k < s.size) (h45 : s[k].toNat = 45) : sc (s.data.toList.take (k + 1)) = sc (s.data.toList.take k) := by
  rw [take_snoc s k h, sc_snoc, if_pos h45]
theorem at_data (s : ByteArray) (k : Nat) (h : k < s.size) : s.data.toList[k]? = some s[k] := by
  rw [List.getElem?_eq_getElem (by simpa using h)]; simp; rfl
set_option maxHeartbeats 2000000 in
theorem rint_any (s : ByteArray) (hs : s.size ≤ 1000000000) (w : World) :
    Calls Tryz.prog 6 #[.string s] w fun e w' => e = .returned (.tuple #[.int .i64 (decOf s.data.toList).1, .bool (decOf s.data.toList).2]) ∧ Below w.heap.size w w' := by
  obtain ⟨D, hD⟩ : ∃ D, decOf s.data.toList = D := ⟨_, rfl⟩
  rw [hD]
  have es : s.data.toList.length = s.size := by simp
  have HNO := Lib.hid (show (∀ m, InR m → Lib.itoa m ≠ s.data.toList) → D = (0, false) from fun h => by rw [← hD]; exact decOf_no h)
  have HYES := Lib.hid (show ∀ z, InR z → Lib.itoa z = s.data.toList → D = (z, true) from fun z hz h => by rw [← hD]; exact decOf_yes z hz h)
  have HLEN := Lib.hid (show ∀ m, InR m → Lib.itoa m = s.data.toList → 1 ≤ s.size ∧ s.size ≤ 20 from fun m hm h => by
    have := itoa_len m hm.1 hm.2
    rw [h, es] at this; omega)
  have HES := Lib.hid es
  clear hD es
  by_cases hz : s.size = 0
  · have HE := Lib.hid (HNO.out fun m hm h => by have := HLEN.out m hm h; omega)
    have e0 : ((s.size : Int) == 0) = true := by rw [beq_iff_eq]; omega
    clear hz
    go_enter Tryz.func6, Tryz.ntmps6
    go_wp2_with fail
    go_ret2
    exact ⟨by rw [HE.out]; rfl, Below.refl _ _⟩
  · have e0 : ((s.size : Int) == 0) = false := by rw [beq_eq_false_iff_ne]; omega
    by_cases hb : (20 : Int) < s.size
    · have HE := Lib.hid (HNO.out fun m hm h => by have := HLEN.out m hm h; omega)
      clear hz
      go_enter Tryz.func6, Tryz.ntmps6
      go_wp2_with fail
      go_ret2
      exact ⟨by rw [HE.out]; rfl, Below.refl _ _⟩
    · have h0s : 0 < s.size := by omega
      have h0z : (0 : Int) < s.size := by omega
      have hz20 : (s.size : Int) ≤ 20 := by omega
      clear hz
      have HH := Lib.hid (show ∀ m, InR m → Lib.itoa m = s.data.toList → (m < 0 → (s[0]'h0s).toNat = 45 ∧ sc s.data.toList = m) ∧ (0 ≤ m → (s[0]'h0s).toNat ≠ 45 ∧ sc s.data.toList = -m) from fun m hm h => by
        have h1 := itoa_sc m
        rw [h, at_data s 0 h0s] at h1
        refine ⟨fun h' => ⟨by rw [Option.some.inj (h1.1 h').1]; rfl, (h1.1 h').2⟩, fun h' => ⟨fun h2 => (h1.2 h').1 (congrArg some (UInt8.toNat_inj.1 h2)), (h1.2 h').2⟩⟩)
      have HBAD := Lib.hid (show ∀ (k : Nat) (h : k < s.size), (s[k].toNat < 48 ∨ 57 < s[k].toNat) → ¬ (k = 0 ∧ s[k].toNat = 45) → D = (0, false) from fun k h h1 h2 => HNO.out fun m hm h3 => h2 (itoa_bad m k s[k] (by rw [h3, at_data s k h]) h1))
      obtain ⟨c0, hc0⟩ : ∃ c0, s[0]'h0s = c0 := ⟨_, rfl⟩
      rw [hc0] at HH
      go_enter Tryz.func6, Tryz.ntmps6
      go_wp2_with fail
      go_loop [5, 4] (fun i n => ∃ (k : Nat) (z : Int), k ≤ s.size ∧ i = .int .i64 k ∧ n = .int .i64 z ∧ Mod64 z (sc (s.data.toList.take k))) (fun i _ => s.size - (intOf i).toNat)
      case atStart => exact ⟨0, 0, Nat.zero_le _, rfl, rfl, ⟨by unfold InR; omega, 0, rfl⟩⟩
      case round =>
        obtain ⟨k, z, hk, rfl, rfl, hmz⟩ := hrel
        by_cases hlt : k < s.size
        · have hlz : (k : Int) < s.size := by omega
          have HST := Lib.hid (scan_step s k hlt)
          have HMI := Lib.hid (scan_minus s k hlt)
          have HBK := Lib.hid (HBAD.out k hlt)
          have hx0 : k = 0 → s[k] = c0 := fun h => by subst h; exact hc0
          obtain ⟨c, hc⟩ : ∃ c, s[k] = c := ⟨_, rfl⟩
          rw [hc] at HST HMI HBK hx0
          by_cases hm : k = 0 ∧ c.toNat = 45
          · have ek : ((k : Int) == 0) = true := by rw [beq_iff_eq]; omega
            have e45 : ((c0.toNat : Int) == 45) = true := by rw [beq_iff_eq, ← hx0 hm.1]; omega
            have hmz' : Mod64 z (sc (s.data.toList.take (k + 1))) := by rw [HMI.out hm.2]; exact hmz
            clear hm hmz hx0
            go_wp2_with fail
            go_round
            case rel => exact ⟨k + 1, z, by omega, by go_num, rfl, hmz'⟩
            case measure => simp [intOf]; omega
          · have key : ((k : Int) == 0) = false ∨ (((k : Int) == 0) = true ∧ ((c0.toNat : Int) == 45) = false) := by
              by_cases hk0 : k = 0
              · right
                refine ⟨by rw [beq_iff_eq]; omega, ?_⟩
                rw [beq_eq_false_iff_ne, ← hx0 hk0]; omega
              · left; rw [beq_eq_false_iff_ne]; omega
            have HB2 := Lib.hid (fun h => HBK.out h hm)
            clear hm hx0 HMI
            by_cases h1 : c.toNat < 48
            · have f1 : (c.toNat : Int) < 48 := by omega
              have HE := Lib.hid (HB2.out (.inl h1))
              clear h1
              rcases key with key | ⟨key, key2⟩
              all_goals
                go_wp2_with fail
                go_ret2
                exact ⟨by rw [HE.out]; rfl, Below.refl _ _⟩
            · have f1 : ¬ (c.toNat : Int) < 48 := by omega
              by_cases h2 : 57 < c.toNat
              · have f2 : (57 : Int) < c.toNat := by omega
                have HE := Lib.hid (HB2.out (.inr h2))
                clear h1 h2
                rcases key with key | ⟨key, key2⟩
                all_goals
                  go_wp2_with fail
                  go_ret2
                  exact ⟨by rw [HE.out]; rfl, Below.refl _ _⟩
              · have f2 : ¬ (57 : Int) < c.toNat := by omega
                have hmz' : Mod64 (wrap64 (wrap64 (z * 10) - ((c.toNat : Int) - 48))) (sc (s.data.toList.take (k + 1))) := by rw [HST.out (by omega)]; exact hmz.step _
                clear h1 h2 hmz
                rcases key with key | ⟨key, key2⟩
                all_goals
                  go_wp2_with fail
                  go_round
                  case rel => exact ⟨k + 1, _, by omega, by go_num, rfl, hmz'⟩
                  case measure => simp [intOf]; omega
        · obtain rfl : k = s.size := by omega
          have hlz : ¬ ((s.size : Nat) : Int) < s.size := by omega
          have hmS : Mod64 z (sc s.data.toList) := by rwa [List.take_of_length_le (by simp)] at hmz
          clear hmz
          by_cases h45 : c0.toNat = 45
          · have f : ((c0.toNat : Int) == 45) = true := by rw [beq_iff_eq]; omega
            have fn : ((c0.toNat : Int) != 45) = false := by unfold bne; rw [f]; rfl
            have HU := Lib.hid (show ∀ m, InR m → Lib.itoa m = s.data.toList → m = z from fun m hm h => by
              have h1 := HH.out m hm h
              rcases Int.lt_or_le m 0 with h2 | h2
              · have h3 := (h1.1 h2).2
                rw [h3] at hmS
                exact (hmS.eq hm).symm
              · exact absurd h45 (h1.2 h2).1)
            have hzr := hmS.1
            clear h45 hmS
            by_cases hq : Lib.itoa z = s.data.toList
            · have h1 : ((bs (Lib.itoa z)).toList == s.toList) = true := by rw [bs_eq]; simp [hq]
              have h1n : ((bs (Lib.itoa z)).toList != s.toList) = false := by unfold bne; rw [h1]; rfl
              have HE := Lib.hid (HYES.out z hzr hq)
              clear hq
              go_wp2_with fail
              go_at_call 10
              refine (rdecimal_any z hzr _).mono ?_
              rintro e w2 ⟨rfl, b2⟩
              go_wp2_with fail
              go_ret2
              exact ⟨by rw [HE.out]; rfl, b2⟩
            · have h1 : ((bs (Lib.itoa z)).toList == s.toList) = false := by rw [bs_eq]; simp [hq]
              have h1n : ((bs (Lib.itoa z)).toList != s.toList) = true := by unfold bne; rw [h1]; rfl
              have HE := Lib.hid (HNO.out fun m hm h => hq (by rw [← HU.out m hm h]; exact h))
              clear hq
              go_wp2_with fail
              go_at_call 10
              refine (rdecimal_any z hzr _).mono ?_
              rintro e w2 ⟨rfl, b2⟩
              go_wp2_with fail
              go_ret2
              exact ⟨by rw [HE.out]; rfl, b2⟩
          · have f : ((c0.toNat : Int) == 45) = false := by rw [beq_eq_false_iff_ne]; omega
            have fn : ((c0.toNat : Int) != 45) = true := by unfold bne; rw [f]; rfl
            have hmN := hmS.neg
            have HU := Lib.hid (show ∀ m, InR m → Lib.itoa m = s.data.toList → m = wrap64 (-z) from fun m hm h => by
              have h1 := HH.out m hm h
              rcases Int.lt_or_le m 0 with h2 | h2
              · exact absurd (h1.1 h2).1 h45
              · have h3 := (h1.2 h2).2
                rw [h3, Int.neg_neg] at hmN
                exact (hmN.eq hm).symm)
            have hzr := hmN.1
            clear h45 hmS hmN
            by_cases hq : Lib.itoa (wrap64 (-z)) = s.data.toList
            · have h1 : ((bs (Lib.itoa (wrap64 (-z)))).toList == s.toList) = true := by rw [bs_eq]; simp [hq]
              have h1n : ((bs (Lib.itoa (wrap64 (-z)))).toList != s.toList) = false := by unfold bne; rw [h1]; rfl
              have HE := Lib.hid (HYES.out _ hzr hq)
              clear hq
              go_wp2_with fail
              go_at_call 10
              refine (rdecimal_any (wrap64 (-z)) hzr _).mono ?_
              rintro e w2 ⟨rfl, b2⟩
              go_wp2_with fail
              go_ret2
              exact ⟨by rw [HE.out]; rfl, b2⟩
            · have h1 : ((bs (Lib.itoa (wrap64 (-z)))).toList == s.toList) = false := by rw [bs_eq]; simp [hq]
              have h1n : ((bs (Lib.itoa (wrap64 (-z)))).toList != s.toList) = true := by unfold bne; rw [h1]; rfl
              have HE := Lib.hid (HNO.out fun m hm h => hq (by rw [← HU.out m hm h]; exact h))
              clear hq
              go_wp2_with fail
              go_at_call 10
              refine (rdecimal_any (wrap64 (-z)) hzr _).mono ?_
              rintro e w2 ⟨rfl, b2⟩
              go_wp2_with fail
              go_ret2
              exact ⟨by rw [HE.out]; rfl, b2⟩
end Go.Proofs.YteccccpjhpbebaaGreatDoor
