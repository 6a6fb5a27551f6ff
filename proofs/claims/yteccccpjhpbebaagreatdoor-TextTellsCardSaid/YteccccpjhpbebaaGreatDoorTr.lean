/-
  strconv.Unquote and package text's Unquote.
-/
import Derived.Test.YteccccpjhpbebaaGreatDoorTi
import Derived.Test.YteccccpjhpbebaaGreatDoorTk
import Derived.Test.YteccccpjhpbebaaGreatDoorTkb
import Derived.Test.YteccccpjhpbebaaGreatDoorTj
namespace Go.Proofs.YteccccpjhpbebaaGreatDoor
open Go.RowKit WireM
set_option linter.unusedVariables false
set_option linter.unusedSimpArgs false

theorem dec_bound (x : ByteArray) (hx : x.size ≤ 100000000) : ∃ r n : Nat, Lib.decodeGo x = (r, n) ∧ n ≤ 100000000 := by
  by_cases hz0 : x.size = 0
  · exact ⟨65533, 0, by unfold Lib.decodeGo; rw [if_pos hz0], by omega⟩
  · have e : Lib.decodeGo x = Utf8.decode x 0 := by unfold Lib.decodeGo; rw [if_neg hz0]
    refine ⟨(Utf8.decode x 0).1, (Utf8.decode x 0).2, e, ?_⟩
    rw [← Lib.decodeL_drop, List.drop_zero]
    have hl : x.data.toList.length = x.size := by simp
    have hle := Lib.decodeL_le x.data.toList (List.ne_nil_of_length_pos (by omega))
    omega
set_option maxHeartbeats 2000000 in
/-- ████ strconv.unquote, whatever the string. -/
theorem unquote_low (s : ByteArray) (w : World) (ht : Glob w) (hz : s.size ≤ 100000000) :
    Calls Tryz.prog 45 #[.string s, .bool true] w (UqPost s w) := by
  by_cases h2 : 2 ≤ s.size
  case neg => exact uq_short s w ht (by omega)
  have hp0 : 0 < s.size := by omega
  obtain ⟨q, hq⟩ : ∃ q, s[0] = q := ⟨_, rfl⟩
  have hge := ix_ge (s.data.toList.drop 1) q
  by_cases hi : ix (s.data.toList.drop 1) q = -1
  · exact uq_open s q w ht h2 hz hq hi
  obtain ⟨i, hi⟩ : ∃ i : Nat, ix (s.data.toList.drop 1) q = i := ⟨(ix (s.data.toList.drop 1) q).toNat, by omega⟩
  have hil := (ix_some hi).1
  rw [List.length_drop] at hil
  have es : s.data.toList.length = s.size := by simp
  rw [es] at hil
  by_cases h96 : q.toNat = 96
  · cases hr : hasB (s.extract 0 (i + 2)).data.toList 13 with
    | true => exact uq_rawcr s q i w ht h2 hz hq hi h96 hr
    | false => exact uq_raw s q i w ht h2 hz hq hi h96 hr
  by_cases h34 : q.toNat = 34
  · cases h1 : hasB (s.extract 0 (i + 2)).data.toList 92 with
    | true => exact uq_34a s q i w ht h2 hz hq hi h34 h1
    | false =>
      cases h3 : hasB (s.extract 0 (i + 2)).data.toList 10 with
      | true => exact uq_34b s q i w ht h2 hz hq hi h34 h1 h3
      | false =>
        cases hv : Lib.validD (s.extract 1 (i + 1)).data.toList with
        | true => exact uq_34f s q i w ht h2 hz hq hi h34 h1 h3 hv
        | false => exact uq_34c s q i w ht h2 hz hq hi h34 h1 h3 hv
  by_cases h39 : q.toNat = 39
  · cases h1 : hasB (s.extract 0 (i + 2)).data.toList 92 with
    | true => exact uq_39a s q i w ht h2 hz hq hi h39 h1
    | false =>
      cases h3 : hasB (s.extract 0 (i + 2)).data.toList 10 with
      | true => exact uq_39b s q i w ht h2 hz hq hi h39 h1 h3
      | false =>
        have hd := dec_bound (s.extract 1 (i + 1)) (by rw [ByteArray.size_extract]; omega)
        obtain ⟨r, n, hd, hn⟩ := hd
        by_cases k1 : n = i
        · by_cases k2 : r = 65533
          · by_cases k3 : n = 1
            · exact uq_39c2 s q i w ht h2 hz hq hi h39 h1 h3 r n hd hn k1 k2 k3
            · exact uq_39f2 s q i w ht h2 hz hq hi h39 h1 h3 r n hd hn k1 k2 k3
          · exact uq_39f1 s q i w ht h2 hz hq hi h39 h1 h3 r n hd hn k1 k2
        · exact uq_39c1 s q i w ht h2 hz hq hi h39 h1 h3 r n hd hn k1
  · exact uq_default s q i w ht h2 hz hq hi h96 h34 h39
/-- What strconv.Unquote returns. -/
def UnPost (s : ByteArray) (w : World) (e : Ending) (w' : World) : Prop :=
  ∃ out ev, e = .returned (.tuple #[.string out, ev]) ∧ ErrV ev ∧ out.size ≤ 4 * s.size ∧ (∀ t, quote t = s.data.toList → out.data.toList = t ∧ ev = .nilIface) ∧ Below w.heap.size w w'
set_option maxHeartbeats 1000000 in
theorem unquote_lib (s : ByteArray) (w : World) (ht : Glob w) (hz : s.size ≤ 100000000) :
    Calls Tryz.prog 29 #[.string s] w (UnPost s w) := by
  obtain ⟨tp, p, herr⟩ := ht.err
  go_enter Tryz.func29, Tryz.ntmps29
  go_wp2_with fail
  go_at_call 45
  refine (unquote_low s _ ht hz).mono ?_
  rintro e w1 ⟨out, rem, ev, rfl, hev, ho, hr, hq, b1⟩
  have herr1 := herr_at ht b1 herr
  have HQ := Lib.hid hq
  have HE := Lib.hid hev
  clear hq hev
  by_cases h0 : rem.size = 0
  · have n0 : ¬ (0 : Int) < rem.size := by omega
    clear h0
    go_wp2_with fail
    go_ret2
    exact ⟨_, _, rfl, HE.out, ho, fun t e => ⟨(HQ.out t e).1, (HQ.out t e).2.2⟩, b1⟩
  · have n0 : (0 : Int) < rem.size := by omega
    have HZ := Lib.hid h0
    clear h0
    go_wp2_with fail
    go_quiet (fail)
    go_wp2_with fail
    go_ret2
    exact ⟨_, _, rfl, .inr ⟨_, _, rfl⟩, Nat.zero_le _, fun t e => absurd (HQ.out t e).2.1 HZ.out, Go.below_drewN b1 _⟩
/-- What text.Unquote returns. -/
def TuPost (s : ByteArray) (w : World) (e : Ending) (w' : World) : Prop :=
  ∃ (t : ByteArray) (b : Bool), e = .returned (.tuple #[.string t, .bool b]) ∧ UnqIs s.data.toList t.data.toList b ∧ t.size ≤ 4 * s.size ∧ Below w.heap.size w w'
set_option maxHeartbeats 1000000 in
theorem unquote_any (s : ByteArray) (w : World) (ht : Glob w) (hz : s.size ≤ 100000000) :
    Calls Tryz.prog 7 #[.string s] w (TuPost s w) := by
  go_enter Tryz.func7, Tryz.ntmps7
  go_wp2_with fail
  go_at_call 29
  refine (unquote_lib s _ ht hz).mono ?_
  rintro e w1 ⟨out, ev, rfl, hev, ho, hq, b1⟩
  have HQ := Lib.hid hq
  clear hq
  rcases hev with rfl | ⟨tp, p, rfl⟩
  · by_cases hs : quote out.data.toList = s.data.toList
    · have f : ((bs (quote out.data.toList)).toList == s.toList) = true := by rw [bs_eq]; simp [hs]
      have HS := Lib.hid hs
      clear hs
      go_wp2_with fail
      go_at_call 11
      refine (quote_any out (by omega) _).mono ?_
      rintro e w2 ⟨rfl, b2⟩
      go_wp2_with fail
      go_ret2
      exact ⟨out, true, rfl, .inl ⟨rfl, HS.out⟩, ho, below_step b1 b2⟩
    · have f : ((bs (quote out.data.toList)).toList == s.toList) = false := by rw [bs_eq]; simp [hs]
      have HS := Lib.hid (show ∀ t, quote t ≠ s.data.toList from fun t e => hs (by rw [(HQ.out t e).1]; exact e))
      clear hs
      go_wp2_with fail
      go_at_call 11
      refine (quote_any out (by omega) _).mono ?_
      rintro e w2 ⟨rfl, b2⟩
      go_wp2_with fail
      go_ret2
      exact ⟨⟨#[]⟩, false, rfl, .inr ⟨rfl, rfl, HS.out⟩, Nat.zero_le _, below_step b1 b2⟩
  · have HS := Lib.hid (show ∀ t, quote t ≠ s.data.toList from fun t e => by have := (HQ.out t e).2; cases this)
    go_wp2_with fail
    go_ret2
    exact ⟨⟨#[]⟩, false, rfl, .inr ⟨rfl, rfl, HS.out⟩, Nat.zero_le _, b1⟩
end Go.Proofs.YteccccpjhpbebaaGreatDoor
