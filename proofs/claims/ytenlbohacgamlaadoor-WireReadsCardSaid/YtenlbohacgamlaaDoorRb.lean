/-
  THE REFERENCE's READER, continued: ahead, number, Int, Num.
-/
import Derived.Test.YtenlbohacgamlaaDoorRa
namespace Go.Proofs.YtenlbohacgamlaaDoor
open Go.RowKit WireM
set_option linter.unusedVariables false
set_option linter.unusedSimpArgs false

theorem at_list {s : ByteArray} {k : Nat} (h : k < s.size) : s[k] = s.data.toList[k]'(by simpa using h) := rfl
theorem size_list (s : ByteArray) : s.size = s.data.toList.length := by simp
theorem extract_take (s : ByteArray) (k : Nat) : (s.extract 0 k).data.toList = s.data.toList.take k := by
  rw [Lib.extract_data]; simp

set_option maxHeartbeats 2000000 in
theorem ahead_yes (b : Nat) (s : ByteArray) (f : Bool) (e : UInt8) (z : Int) (w : World) (h : Rq w b s f) (hs : s.size ≤ 1099511627776) (hz : (e.toNat : Int) = z) (he : e.toNat < 48 ∨ 57 < e.toNat) (h45 : e ≠ 45)
    (v : Int) (t : List UInt8) (hd : rdIntE e s.data.toList = some (v, t)) :
    Calls Tryd.prog 52 #[.pointer (some ⟨b, 0, none⟩), .int .u8 z] w fun en w' => en = .returned (.int .i64 v) ∧ RqOut b w w' (bs t) f := by
  have c0 := h.c0
  have f0 := h.f0
  obtain ⟨hL, v0, v1⟩ := rdIntE_canon hd
  obtain ⟨m, hm⟩ : ∃ m, m = (Lib.itoa v).length := ⟨_, rfl⟩
  have hm20 : m ≤ 20 := by rw [hm]; exact (itoa_len v v0 v1).1
  have hsz : s.size = m + 1 + t.length := by rw [size_list, hL, hm]; simp; omega
  have hms : m < s.size := by omega
  have Hne := Lib.hid (show ∀ j (hj : j < m), ∃ hlt : j < s.size, ((s[j].toNat : Int) != z) = true from fun j hj => by
    refine ⟨by omega, ?_⟩
    rw [bne_iff_ne]
    intro hc
    have h1 : s[j]'(by omega) = e := UInt8.toNat_inj.1 (Int.ofNat.inj (hc.trans hz.symm))
    rw [at_list] at h1
    have h2 : s.data.toList[j]? = (Lib.itoa v)[j]? := by rw [hL, List.getElem?_append_left (by omega)]
    have h3 : (Lib.itoa v)[j]? = some e := by rw [← h2, List.getElem?_eq_getElem (by rw [← size_list]; omega), h1]
    exact itoa_mem he h45 v (List.mem_of_getElem? h3))
  have hat : ((s[m].toNat : Int) != z) = false := by
    rw [bne_eq_false_iff_eq]
    have h2 : s.data.toList[m]? = some e := by rw [hL, hm, List.getElem?_append_right (by omega)]; simp
    have h3 : s[m] = e := by
      rw [at_list]
      rw [List.getElem?_eq_getElem (by rw [← size_list]; exact hms)] at h2
      exact Option.some.inj h2
    rw [h3]; exact hz
  have Htake := Lib.hid (show (s.extract 0 m).data.toList = Lib.itoa v by rw [extract_take, hL, hm, List.take_left])
  have Hrest := Lib.hid (show s.extract (m + 1) s.size = bs t by
    rw [extract_end, hL, hm, List.drop_append, List.drop_eq_nil_of_le (by omega), show (Lib.itoa v).length + 1 - (Lib.itoa v).length = 1 by omega]; rfl)
  clear hL hd hm hz hsz
  go_enter Tryd.func52, Tryd.ntmps52
  go_wp2_with fail
  go_loop [5] (fun i => ∃ k : Nat, k ≤ m ∧ i = .int .i64 k) (fun i => m - (intOf i).toNat)
  case atStart => exact ⟨0, Nat.zero_le _, rfl⟩
  case round =>
    obtain ⟨k, hk, rfl⟩ := hrel
    by_cases hkm : k < m
    · obtain ⟨hlt, hb⟩ := Hne.out k hkm
      have h21 : k < 21 := by omega
      go_wp2_with fail
      go_round
      case rel => exact ⟨k + 1, by omega, by go_num⟩
      case measure => simp [intOf]; omega
    · obtain rfl : k = m := by omega
      go_wp2_with fail
      go_at_call 63
      refine (back_yes (s.extract 0 k) v _ v0 v1 Htake.out).mono ?_
      rintro e1 w1 ⟨rfl, b1⟩
      have h1 := h.below' b1
      have d0 := h1.c0
      have g0 := h1.f0
      go_wp2_with fail
      go_ret
      exact ⟨rfl, by rw [← Hrest.out]; exact h1.set0 _, grownBy_trans (grownBy_to (grownBy_of_below b1)) (grownBy_set _ _ _ _)⟩

set_option maxHeartbeats 2000000 in
theorem ahead_none (b : Nat) (s : ByteArray) (f : Bool) (e : UInt8) (z : Int) (w : World) (h : Rq w b s f) (hs : s.size ≤ 1099511627776) (hz : (e.toNat : Int) = z) (he : e.toNat < 48 ∨ 57 < e.toNat)
    (hd : rdIntE e s.data.toList = none) :
    Calls Tryd.prog 52 #[.pointer (some ⟨b, 0, none⟩), .int .u8 z] w fun en w' => en = .returned (.int .i64 0) ∧ RqOut b w w' (bs []) true := by
  have c0 := h.c0
  have f0 := h.f0
  have Hno := Lib.hid (show ∀ k (hlt : k < s.size), (s[k].toNat : Int) = z → ∀ v : Int, -9223372036854775808 ≤ v → v ≤ 9223372036854775807 → Lib.itoa v ≠ (s.extract 0 k).data.toList from fun k hlt hc v v0 v1 hv => by
    rw [extract_take] at hv
    have h1 : s[k] = e := UInt8.toNat_inj.1 (Int.ofNat.inj (hc.trans hz.symm))
    have h2 := drop_at s k hlt
    have h3 : s.data.toList = Lib.itoa v ++ e :: s.data.toList.drop (k + 1) := by
      rw [hv, ← h1, ← h2, List.take_append_drop]
    rw [h3, rdIntE_read e he v _ v0 v1] at hd
    cases hd)
  clear hd hz
  go_enter Tryd.func52, Tryd.ntmps52
  go_wp2_with fail
  go_loop [5] (fun i => ∃ k : Nat, k ≤ s.size ∧ k ≤ 21 ∧ i = .int .i64 k) (fun i => 22 - (intOf i).toNat)
  case atStart => exact ⟨0, Nat.zero_le _, Nat.zero_le _, rfl⟩
  case round =>
    obtain ⟨k, hk, hk21, rfl⟩ := hrel
    by_cases hlt : k < s.size
    · by_cases hc : (s[k].toNat : Int) = z
      · have hb : ((s[k].toNat : Int) != z) = false := by rw [bne_eq_false_iff_eq]; exact hc
        have HB := Lib.hid (Hno.out k hlt hc)
        clear hc
        have hxs : (s.extract 0 k).size ≤ 1099511627776 := by
          have h1 : (s.extract 0 k).size = (s.extract 0 k).data.toList.length := by simp
          rw [h1, extract_take, List.length_take, ← size_list]; omega
        by_cases h21 : k < 21
        all_goals
          go_wp2_with fail
          go_at_call 63
          refine (back_no (s.extract 0 k) _ hxs HB.out).mono ?_
          rintro e1 w1 ⟨m, rfl, b1⟩
          have h1 := h.below' b1
          go_wp2_with fail
          go_at_call 53
          refine (qfail_any b s f w1 h1).mono ?_
          rintro e2 w2 ⟨rfl, ho⟩
          go_wp2_with fail
          go_ret
          exact ⟨rfl, ho.1, grownBy_trans (grownBy_to (grownBy_of_below b1)) ho.2⟩
      · have hb : ((s[k].toNat : Int) != z) = true := by rw [bne_iff_ne]; exact hc
        clear hc
        by_cases h21 : k < 21
        · go_wp2_with fail
          go_round
          case rel => exact ⟨k + 1, by omega, by omega, by go_num⟩
          case measure => simp [intOf]; omega
        · go_wp2_with fail
          go_at_call 53
          refine (qfail_any b s f w h).mono ?_
          rintro e2 w2 ⟨rfl, ho⟩
          go_wp2_with fail
          go_ret
          exact ⟨rfl, ho⟩
    · go_wp2_with fail
      go_at_call 53
      refine (qfail_any b s f w h).mono ?_
      rintro e2 w2 ⟨rfl, ho⟩
      go_wp2_with fail
      go_ret
      exact ⟨rfl, ho⟩

theorem number_some (b : Nat) (s : ByteArray) (f : Bool) (e : UInt8) (z : Int) (w : World) (h : Rq w b s f) (hs : s.size ≤ 1099511627776) (hz : (e.toNat : Int) = z) (he : e.toNat < 48 ∨ 57 < e.toNat) (h45 : e ≠ 45)
    (n : Nat) (t : List UInt8) (hd : dgMax e s.data.toList = some (n, t)) :
    Calls Tryd.prog 49 #[.pointer (some ⟨b, 0, none⟩), .int .u8 z] w fun en w' => en = .returned (.int .i64 n) ∧ RqOut b w w' (bs t) f := by
  have hI : rdIntE e s.data.toList = some ((n : Int), t) := by
    rw [scan_canon hd, ← itoa_nat]
    exact rdIntE_read e he n t (by omega) (by have := dgMax_le hd; omega)
  have HI := Lib.hid hI
  clear hd hI
  go_enter Tryd.func49, Tryd.ntmps49
  go_wp2_with fail
  go_at_call 52
  refine (ahead_yes b s f e z w h hs hz he h45 _ _ HI.out).mono ?_
  rintro e1 w1 ⟨rfl, ho⟩
  have hn : ¬ ((n : Int) < 0) := by omega
  go_wp2_with fail
  go_ret
  exact ⟨rfl, ho⟩
theorem number_none (b : Nat) (s : ByteArray) (f : Bool) (e : UInt8) (z : Int) (w : World) (h : Rq w b s f) (hs : s.size ≤ 1099511627776) (hz : (e.toNat : Int) = z) (he : e.toNat < 48 ∨ 57 < e.toNat) (h45 : e ≠ 45)
    (hd : dgMax e s.data.toList = none) :
    Calls Tryd.prog 49 #[.pointer (some ⟨b, 0, none⟩), .int .u8 z] w fun en w' => en = .returned (.int .i64 0) ∧ RqOut b w w' (bs []) true := by
  have hof := dgMax_of (e := e) (L := s.data.toList)
  rw [hd] at hof
  cases hI : rdIntE e s.data.toList with
  | none =>
    have HI := Lib.hid hI
    clear hd hI hof
    go_enter Tryd.func49, Tryd.ntmps49
    go_wp2_with fail
    go_at_call 52
    refine (ahead_none b s f e z w h hs hz he HI.out).mono ?_
    rintro e1 w1 ⟨rfl, ho⟩
    go_wp2_with fail
    go_ret
    exact ⟨rfl, ho⟩
  | some p =>
    obtain ⟨v, t⟩ := p
    rw [hI] at hof
    have hv : v < 0 := by
      rcases Int.lt_or_le v 0 with h1 | h1
      · exact h1
      · simp only at hof
        rw [if_neg (by omega)] at hof
        cases hof
    have HI := Lib.hid hI
    clear hd hI hof
    go_enter Tryd.func49, Tryd.ntmps49
    go_wp2_with fail
    go_at_call 52
    refine (ahead_yes b s f e z w h hs hz he h45 _ _ HI.out).mono ?_
    rintro e1 w1 ⟨rfl, ho⟩
    go_wp2_with fail
    go_at_call 53
    refine (qfail_any b _ _ w1 ho.1).mono ?_
    rintro e2 w2 ⟨rfl, ho2⟩
    go_wp2_with fail
    go_ret
    exact ⟨rfl, ho2.1, grownBy_trans ho.2 ho2.2⟩

theorem qInt_any (b : Nat) (s : ByteArray) (f : Bool) (w : World) (h : Rq w b s f) (hs : s.size ≤ 1099511627776) :
    Calls Tryd.prog 27 #[.pointer (some ⟨b, 0, none⟩)] w (RqPost b w f (Value.int .i64) (.int .i64 0) (rdInt s.data.toList)) := by
  cases hI : rdInt s.data.toList with
  | none =>
    have HI := Lib.hid ((rdIntE_59 s.data.toList).trans hI)
    clear hI
    go_enter Tryd.func27, Tryd.ntmps27
    go_wp2_with fail
    go_at_call 52
    refine (ahead_none b s f 59 59 w h hs rfl (by decide) HI.out).mono ?_
    rintro e1 w1 ⟨rfl, ho⟩
    go_wp2_with fail
    go_ret
    exact rqPost_none rfl rfl ho
  | some p =>
    obtain ⟨v, t⟩ := p
    have HI := Lib.hid ((rdIntE_59 s.data.toList).trans hI)
    clear hI
    go_enter Tryd.func27, Tryd.ntmps27
    go_wp2_with fail
    go_at_call 52
    refine (ahead_yes b s f 59 59 w h hs rfl (by decide) (by decide) v t HI.out).mono ?_
    rintro e1 w1 ⟨rfl, ho⟩
    go_wp2_with fail
    go_ret
    exact rqPost_some rfl rfl rfl ho
theorem qNum_any (b : Nat) (s : ByteArray) (f : Bool) (w : World) (h : Rq w b s f) (hs : s.size ≤ 1099511627776) :
    Calls Tryd.prog 25 #[.pointer (some ⟨b, 0, none⟩)] w (RqPost b w f (Value.int .i64) (.int .i64 0) (rdNum s.data.toList)) := by
  rcases hd : dgMax 59 s.data.toList with _ | ⟨n, t⟩
  · have HR := Lib.hid (show rdNum s.data.toList = none by simp [rdNum, hd])
    have HD := Lib.hid hd
    clear hd
    go_enter Tryd.func25, Tryd.ntmps25
    go_wp2_with fail
    go_at_call 49
    refine (number_none b s f 59 59 w h hs rfl (by decide) (by decide) HD.out).mono ?_
    rintro e1 w1 ⟨rfl, ho⟩
    go_wp2_with fail
    go_ret
    exact rqPost_none HR.out rfl ho
  · have HR := Lib.hid (show rdNum s.data.toList = some ((n : Int), t) by simp [rdNum, hd])
    have HD := Lib.hid hd
    clear hd
    go_enter Tryd.func25, Tryd.ntmps25
    go_wp2_with fail
    go_at_call 49
    refine (number_some b s f 59 59 w h hs rfl (by decide) (by decide) n t HD.out).mono ?_
    rintro e1 w1 ⟨rfl, ho⟩
    go_wp2_with fail
    go_ret
    exact rqPost_some HR.out rfl rfl ho
end Go.Proofs.YtenlbohacgamlaaDoor
