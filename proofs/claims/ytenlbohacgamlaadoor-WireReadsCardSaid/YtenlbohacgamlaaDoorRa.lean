/-
  THE REFERENCE's READER, continued: Back.
-/
import Derived.Test.YtenlbohacgamlaaDoorRq
namespace Go.Proofs.YtenlbohacgamlaaDoor
open Go.RowKit WireM
set_option linter.unusedVariables false
set_option linter.unusedSimpArgs false

theorem wrap_range (x : Int) : -9223372036854775808 ≤ wrap64 x ∧ wrap64 x ≤ 9223372036854775807 := by
  unfold wrap64; omega
theorem enc_ne {s : ByteArray} (h : ∀ v : Int, -9223372036854775808 ≤ v → v ≤ 9223372036854775807 → Lib.itoa v ≠ s.data.toList) (n : Int) (h0 : -9223372036854775808 ≤ n) (h1 : n ≤ 9223372036854775807) :
    ((bs (encInt n)).toList == (s ++ ⟨#[59]⟩).toList) = false := by
  refine beq_eq_false_iff_ne.2 fun hh => ?_
  rw [Lib.toList_data, Lib.toList_data, bs_data, app_data] at hh
  unfold encInt at hh
  exact h n h0 h1 (List.append_inj_left' hh rfl)

set_option maxHeartbeats 2000000 in
theorem back_no (s : ByteArray) (w : World) (hs : s.size ≤ 1099511627776) (h : ∀ v : Int, -9223372036854775808 ≤ v → v ≤ 9223372036854775807 → Lib.itoa v ≠ s.data.toList) :
    Calls Tryd.prog 63 #[.string s] w fun e w' => ∃ m, e = .returned (.tuple #[.int .i64 m, .bool false]) ∧ Below w.heap.size w w' := by
  have HN := Lib.hid (enc_ne h)
  clear h
  by_cases h0 : 0 < s.size
  · by_cases h45 : (s[0].toNat : Int) = 45
    · go_enter Tryd.func63, Tryd.ntmps63
      go_wp2_with fail
      go_loop [6, 5] (fun i n => ∃ k : Nat, ∃ m : Int, k ≤ s.size ∧ i = .int .i64 k ∧ n = .int .i64 m ∧ -9223372036854775808 ≤ m ∧ m ≤ 9223372036854775807) (fun i _ => s.size - (intOf i).toNat)
      case atStart => exact ⟨1, 0, by omega, rfl, rfl, by decide, by decide⟩
      case round =>
        obtain ⟨k, m, hk, rfl, rfl, m0, m1⟩ := hrel
        by_cases hlt : k < s.size
        · by_cases ha : (s[k].toNat : Int) < 48
          · go_wp2_with fail
            go_ret2
            exact ⟨⟨0, rfl⟩, Below.refl _ _⟩
          · by_cases hb : 57 < (s[k].toNat : Int)
            · go_wp2_with fail
              go_ret2
              exact ⟨⟨0, rfl⟩, Below.refl _ _⟩
            · by_cases hc : 20 < k
              · go_wp2_with fail
                go_ret2
                exact ⟨⟨0, rfl⟩, Below.refl _ _⟩
              · go_wp2_with fail
                go_round
                case rel => exact ⟨k + 1, _, by omega, by go_num, rfl, (wrap_range _).1, (wrap_range _).2⟩
                case measure => simp [intOf]; omega
        · have HM := Lib.hid (HN.out m m0 m1)
          go_wp2_with fail
          go_at_call 14
          refine (rwInt_any m m0 m1 _).mono ?_
          rintro e1 w1 ⟨rfl, b1⟩
          have hm := HM.out
          go_wp2_with fail
          go_ret2
          exact ⟨_, rfl, b1⟩
    · have hb45 : ((s[0].toNat : Int) == 45) = false := by rw [beq_eq_false_iff_ne]; exact h45
      clear h45
      go_enter Tryd.func63, Tryd.ntmps63
      go_wp2_with fail
      go_loop [6, 5] (fun i n => ∃ k : Nat, ∃ m : Int, k ≤ s.size ∧ i = .int .i64 k ∧ n = .int .i64 m ∧ -9223372036854775808 ≤ m ∧ m ≤ 9223372036854775807) (fun i _ => s.size - (intOf i).toNat)
      case atStart => exact ⟨0, 0, by omega, rfl, rfl, by decide, by decide⟩
      case round =>
        obtain ⟨k, m, hk, rfl, rfl, m0, m1⟩ := hrel
        by_cases hlt : k < s.size
        · by_cases ha : (s[k].toNat : Int) < 48
          · go_wp2_with fail
            go_ret2
            exact ⟨⟨0, rfl⟩, Below.refl _ _⟩
          · by_cases hb : 57 < (s[k].toNat : Int)
            · go_wp2_with fail
              go_ret2
              exact ⟨⟨0, rfl⟩, Below.refl _ _⟩
            · by_cases hc : 20 < k
              · go_wp2_with fail
                go_ret2
                exact ⟨⟨0, rfl⟩, Below.refl _ _⟩
              · go_wp2_with fail
                go_round
                case rel => exact ⟨k + 1, _, by omega, by go_num, rfl, (wrap_range _).1, (wrap_range _).2⟩
                case measure => simp [intOf]; omega
        · have HM := Lib.hid (HN.out (wrap64 (-m)) (wrap_range (-m)).1 (wrap_range (-m)).2)
          go_wp2_with fail
          go_at_call 14
          refine (rwInt_any (wrap64 (-m)) (wrap_range (-m)).1 (wrap_range (-m)).2 _).mono ?_
          rintro e1 w1 ⟨rfl, b1⟩
          have hm := HM.out
          go_wp2_with fail
          go_ret2
          exact ⟨_, rfl, b1⟩
  · go_enter Tryd.func63, Tryd.ntmps63
    go_wp2_with fail
    go_loop [6, 5] (fun i n => ∃ k : Nat, ∃ m : Int, k ≤ s.size ∧ i = .int .i64 k ∧ n = .int .i64 m ∧ -9223372036854775808 ≤ m ∧ m ≤ 9223372036854775807) (fun i _ => s.size - (intOf i).toNat)
    case atStart => exact ⟨0, 0, by omega, rfl, rfl, by decide, by decide⟩
    case round =>
      obtain ⟨k, m, hk, rfl, rfl, m0, m1⟩ := hrel
      have hlt : ¬ k < s.size := by omega
      have HM := Lib.hid (HN.out (wrap64 (-m)) (wrap_range (-m)).1 (wrap_range (-m)).2)
      go_wp2_with fail
      go_at_call 14
      refine (rwInt_any (wrap64 (-m)) (wrap_range (-m)).1 (wrap_range (-m)).2 _).mono ?_
      rintro e1 w1 ⟨rfl, b1⟩
      have hm := HM.out
      go_wp2_with fail
      go_ret2
      exact ⟨_, rfl, b1⟩

theorem dig_step {ds : List UInt8} (hd : ∀ c ∈ ds, 48 ≤ c.toNat ∧ c.toNat ≤ 57) (hu : dval ds ≤ 9223372036854775808) (j : Nat) (hj : j < ds.length) :
    48 ≤ ds[j].toNat ∧ ds[j].toNat ≤ 57 ∧ dval (ds.take (j + 1)) = dval (ds.take j) * 10 + (ds[j].toNat - 48) ∧ dval (ds.take (j + 1)) ≤ 9223372036854775808 := by
  have h1 := hd _ (List.getElem_mem hj)
  have h2 := dval_mono ds (j + 1)
  exact ⟨h1.1, h1.2, dval_succ ds j hj, by omega⟩
theorem dig_wrap (a c : Nat) (h0 : 48 ≤ c) (h1 : c ≤ 57) (h : a * 10 + (c - 48) ≤ 9223372036854775808) :
    wrap64 (wrap64 (10 * -(a : Int)) - ((c : Int) - 48)) = -((a * 10 + (c - 48) : Nat) : Int) := by
  unfold wrap64; omega
theorem at_data {s : ByteArray} {j : Nat} {c : UInt8} (hj : j < s.size) (h : s.data.toList[j]? = some c) : s[j] = c := by
  have h1 := drop_at s j hj
  have h2 : s.data.toList[j]? = (s.data.toList.drop j)[0]? := by simp
  rw [h2, h1] at h
  exact Option.some.inj h

set_option maxHeartbeats 2000000 in
theorem back_pos (s : ByteArray) (u : Nat) (w : World) (hu : u ≤ 9223372036854775807) (hL : s.data.toList = Lib.decDigits u) :
    Calls Tryd.prog 63 #[.string s] w fun e w' => e = .returned (.tuple #[.int .i64 u, .bool true]) ∧ Below w.heap.size w w' := by
  obtain ⟨ds, hds⟩ : ∃ ds, ds = Lib.decDigits u := ⟨_, rfl⟩
  have hdd : dval ds = u := by rw [hds]; exact dval_dd u
  have hdg : ∀ c ∈ ds, 48 ≤ c.toNat ∧ c.toNat ≤ 57 := by rw [hds]; exact dd_digits u
  have hn : ds.length ≤ 20 := by
    have := dd_len u (by omega)
    rw [hds]; have h2 : (bs (Lib.decDigits u)).size = (Lib.decDigits u).length := bs_size _
    omega
  have hz : s.size = ds.length := by rw [hds, ← hL]; simp
  have hp : 0 < ds.length := by
    obtain ⟨c, r, hd, hc, _⟩ := dd_head u
    rw [hds, hd]; simp
  have HS := Lib.hid (show ∀ j (hj : j < ds.length), ∃ hlt : j < s.size, s[j] = ds[j] from fun j hj => ⟨by omega, at_data (by omega) (by rw [hL, ← hds]; exact List.getElem?_eq_getElem hj)⟩)
  have HE := Lib.hid (show ((bs (encInt u)).toList == (s ++ ⟨#[59]⟩).toList) = true by
    rw [beq_iff_eq, Lib.toList_data, Lib.toList_data, bs_data, app_data, hL]
    unfold encInt
    rw [itoa_nat])
  obtain ⟨hp0, h0⟩ := HS.out 0 hp
  have g0 := dig_step hdg (by omega) 0 hp
  have hb45 : ((s[0].toNat : Int) == 45) = false := by rw [beq_eq_false_iff_ne, h0]; omega
  clear h0 g0
  have H := Lib.hid (⟨hdd, hdg⟩ : dval ds = u ∧ ∀ c ∈ ds, 48 ≤ c.toNat ∧ c.toNat ≤ 57)
  clear hL hds hdd hdg
  go_enter Tryd.func63, Tryd.ntmps63
  go_wp2_with fail
  go_loop [6, 5] (fun i n => ∃ k : Nat, k ≤ ds.length ∧ i = .int .i64 k ∧ n = .int .i64 (-(dval (ds.take k) : Int))) (fun i _ => s.size - (intOf i).toNat)
  case atStart => exact ⟨0, by omega, rfl, rfl⟩
  case round =>
    obtain ⟨k, hk, rfl, rfl⟩ := hrel
    by_cases hlt : k < ds.length
    · obtain ⟨hlt2, hat⟩ := HS.out k hlt
      have g := dig_step H.out.2 (by have := H.out.1; omega) k hlt
      have ha : ¬ (s[k].toNat : Int) < 48 := by rw [hat]; omega
      have hb : ¬ 57 < (s[k].toNat : Int) := by rw [hat]; omega
      have hc : ¬ 20 < k := by omega
      have hat2 : s[k].toNat = ds[k].toNat := by rw [hat]
      have G := Lib.hid g
      clear hat g
      go_wp2_with fail
      go_round
      case rel =>
        refine ⟨k + 1, by omega, by go_num, ?_⟩
        obtain ⟨g1, g2, g3, g4⟩ := G.out
        rw [g3, dig_wrap _ _ g1 g2 (by omega)]
      case measure => simp [intOf]; omega
    · have e : dval (ds.take k) = u := by rw [List.take_of_length_le (by omega)]; exact H.out.1
      rw [e]
      go_wp2_with fail
      go_at_call 14
      refine (rwInt_any u (by omega) (by omega) _).mono ?_
      rintro e1 w1 ⟨rfl, b1⟩
      have hm := HE.out
      go_wp2_with fail
      go_ret2
      exact ⟨rfl, b1⟩

set_option maxHeartbeats 2000000 in
theorem back_neg (s : ByteArray) (u : Nat) (w : World) (hu0 : u ≠ 0) (hu : u ≤ 9223372036854775808) (hL : s.data.toList = 45 :: Lib.decDigits u) :
    Calls Tryd.prog 63 #[.string s] w fun e w' => e = .returned (.tuple #[.int .i64 (-(u : Int)), .bool true]) ∧ Below w.heap.size w w' := by
  obtain ⟨ds, hds⟩ : ∃ ds, ds = Lib.decDigits u := ⟨_, rfl⟩
  have hdd : dval ds = u := by rw [hds]; exact dval_dd u
  have hdg : ∀ c ∈ ds, 48 ≤ c.toNat ∧ c.toNat ≤ 57 := by rw [hds]; exact dd_digits u
  have hn : ds.length ≤ 19 := by
    rw [hds]; exact dd_len u (by omega)
  have hz : s.size = ds.length + 1 := by
    have : s.size = s.data.toList.length := by simp
    rw [hds, this, hL]; rfl
  have HS := Lib.hid (show ∀ j (hj : j < ds.length), ∃ hlt : j + 1 < s.size, s[j + 1] = ds[j] from fun j hj => ⟨by omega, at_data (by omega) (by rw [hL, ← hds, List.getElem?_cons_succ]; exact List.getElem?_eq_getElem hj)⟩)
  have HE := Lib.hid (show ((bs (encInt (-(u : Int)))).toList == (s ++ ⟨#[59]⟩).toList) = true by
    rw [beq_iff_eq, Lib.toList_data, Lib.toList_data, bs_data, app_data, hL]
    unfold encInt
    rw [itoa_negs u hu0])
  have hp0 : 0 < s.size := by omega
  have h0 : s[0] = 45 := at_data hp0 (by rw [hL]; rfl)
  have h45 : (s[0].toNat : Int) = 45 := by rw [h0]; rfl
  clear h0
  have H := Lib.hid (⟨hdd, hdg⟩ : dval ds = u ∧ ∀ c ∈ ds, 48 ≤ c.toNat ∧ c.toNat ≤ 57)
  clear hL hds hdd hdg
  go_enter Tryd.func63, Tryd.ntmps63
  go_wp2_with fail
  go_loop [6, 5] (fun i n => ∃ k : Nat, k ≤ ds.length ∧ i = .int .i64 (k + 1 : Nat) ∧ n = .int .i64 (-(dval (ds.take k) : Int))) (fun i _ => s.size - (intOf i).toNat)
  case atStart => exact ⟨0, by omega, rfl, rfl⟩
  case round =>
    obtain ⟨k, hk, rfl, rfl⟩ := hrel
    by_cases hlt : k < ds.length
    · obtain ⟨hlt2, hat⟩ := HS.out k hlt
      have g := dig_step H.out.2 (by have := H.out.1; omega) k hlt
      have ha : ¬ (s[k + 1].toNat : Int) < 48 := by rw [hat]; omega
      have hb : ¬ 57 < (s[k + 1].toNat : Int) := by rw [hat]; omega
      have hc : ¬ 20 < k + 1 := by omega
      have hat2 : s[k + 1].toNat = ds[k].toNat := by rw [hat]
      have G := Lib.hid g
      clear hat g
      go_wp2_with fail
      go_round
      case rel =>
        refine ⟨k + 1, by omega, by go_num, ?_⟩
        obtain ⟨g1, g2, g3, g4⟩ := G.out
        rw [g3, dig_wrap _ _ g1 g2 (by omega)]
      case measure => simp [intOf]; omega
    · have e : dval (ds.take k) = u := by rw [List.take_of_length_le (by omega)]; exact H.out.1
      rw [e]
      go_wp2_with fail
      go_at_call 14
      refine (rwInt_any (-(u : Int)) (by omega) (by omega) _).mono ?_
      rintro e1 w1 ⟨rfl, b1⟩
      have hm := HE.out
      go_wp2_with fail
      go_ret2
      exact ⟨rfl, b1⟩

theorem back_yes (s : ByteArray) (v : Int) (w : World) (v0 : -9223372036854775808 ≤ v) (v1 : v ≤ 9223372036854775807) (hL : s.data.toList = Lib.itoa v) :
    Calls Tryd.prog 63 #[.string s] w fun e w' => e = .returned (.tuple #[.int .i64 v, .bool true]) ∧ Below w.heap.size w w' := by
  by_cases hv : v < 0
  · obtain ⟨u, rfl⟩ : ∃ u : Nat, v = -(u : Int) := ⟨v.natAbs, by omega⟩
    rw [itoa_negs u (by omega)] at hL
    exact back_neg s u w (by omega) (by omega) hL
  · obtain ⟨u, rfl⟩ : ∃ u : Nat, v = (u : Int) := ⟨v.toNat, by omega⟩
    rw [itoa_nat] at hL
    exact back_pos s u w (by omega) hL
end Go.Proofs.YtenlbohacgamlaaDoor
