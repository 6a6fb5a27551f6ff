/-
  PACKAGE text: Plain and Magic.
-/
import Derived.Test.YteccccpjhpbebaaGreatDoorTs
namespace Go.Proofs.YteccccpjhpbebaaGreatDoor
open Go.RowKit WireM
set_option linter.unusedVariables false
set_option linter.unusedSimpArgs false

theorem row_cell {w wr w2 : World} {L : List (List UInt8)} {a : Option Addr} {n cap k : Nat} (h : RowAt w L (.slice a n cap) wr) (hk : StrKept wr w2) (hlt : k < L.length) :
    n = L.length ∧ ∃ b o, a = some ⟨b, o, none⟩ ∧ w2.cell? ⟨b, o + k, none⟩ = some (.string (bs (L.getD k []))) := by
  have hr := hk.row h.1
  obtain ⟨a', cap', e, hc⟩ := own_cells hr (cellsS_len L).symm
  injection e with e1 e2 e3
  subst e1
  refine ⟨e2, ?_⟩
  rcases hc with hc | ⟨b, o, hb, _, hc⟩
  · have := congrArg List.length hc
    rw [cellsS_len, List.length_nil] at this; omega
  · refine ⟨b, o, hb, ?_⟩
    rw [hc k (by rw [cellsS_len]; exact hlt)]
    simp [cellsS, List.getD, hlt]
theorem row_form {w wr : World} {L : List (List UInt8)} {v : Value} (h : RowAt w L v wr) : ∃ a cap, v = .slice a L.length cap := by
  obtain ⟨a, cap, e, _⟩ := own_cells h.1 (cellsS_len L).symm
  exact ⟨a, cap, e⟩
theorem any_take (L : List (List UInt8)) (k : Nat) (h : k < L.length) : (L.take (k + 1)).any magicT = ((L.take k).any magicT || magicT (L.getD k [])) := by
  rw [List.take_succ_eq_append_getElem h, List.any_append, List.any_cons, List.any_nil, Bool.or_false]; congr 1; simp [List.getD, h]
set_option maxHeartbeats 1000000 in
theorem magic_any (s : ByteArray) (hs : s.size ≤ 1000000000) (w : World) :
    Calls Tryz.prog 22 #[.string s] w fun e w' => e = .returned (.bool (magicOf s.data.toList)) ∧ Below w.heap.size w w' := by
  obtain ⟨L, hL⟩ : ∃ L, parts s.data.toList = L := ⟨_, rfl⟩
  have HM := Lib.hid (show magicOf s.data.toList = L.any magicT by unfold magicOf; rw [hL])
  have hll : L.length ≤ 1000000000 := by
    have := parts_len _ s.data.toList (Nat.le_refl _)
    rw [hL] at this
    have e : s.data.toList.length = s.size := by simp
    omega
  have HT : ∀ t ∈ L, t.length ≤ 1000000000 := fun t ht => by
    have := (parts_pos _ s.data.toList (Nat.le_refl _) t (by rw [hL]; exact ht)).2
    have e : s.data.toList.length = s.size := by simp
    omega
  have HT := Lib.hid HT
  go_enter Tryz.func22, Tryz.ntmps22
  go_wp2_with fail
  go_at_call 37
  refine (split_any s hs _).mono ?_
  rintro e w1 ⟨v, rfl, hrow⟩
  rw [hL] at hrow
  clear hL
  obtain ⟨a, cap, rfl⟩ := row_form hrow
  have b1 := hrow.2
  have hm : (L.length : Int) ≤ 9223372036854775807 := by omega
  go_wp2_with fail
  go_loop [8] (fun i => ∃ k : Nat, k ≤ L.length ∧ i = .int .i64 k ∧ (L.take k).any magicT = false) (fun i => L.length - (intOf i).toNat)
  case atStart => exact ⟨0, Nat.zero_le _, rfl, rfl⟩
  case round =>
    obtain ⟨k, hk, rfl, hno⟩ := hrel
    have HN := Lib.hid hno
    clear hno
    by_cases hlt : k < L.length
    · obtain ⟨_, b, o, rfl, hcell⟩ := row_cell hrow (StrKept.refl _) hlt
      have HS := Lib.hid (any_take L k hlt)
      have HAll := Lib.hid (show magicT (L.getD k []) = true → L.any magicT = true from fun h => List.any_eq_true.2 ⟨L.getD k [], by simp [List.getD, hlt], h⟩)
      have hz : (bs (L.getD k [])).size ≤ 9223372036854775807 := by
        have := HT.out (L.getD k []) (by simp [List.getD, hlt])
        rw [bs_size]; omega
      generalize L.getD k [] = t at *
      have g1 : ((bs t).toList == [42]) = decide (t = [42]) := isStar_eq _ _
      have g2 : ((bs t).toList == [63]) = decide (t = [63]) := isStar_eq _ _
      by_cases h1 : t = [42]
      · have f1 : ((bs t).toList == [42]) = true := by rw [g1]; simp [h1]
        have HR := Lib.hid (show magicOf s.data.toList = true by rw [HM.out]; exact HAll.out (by unfold magicT; simp [h1]))
        clear g1 g2 h1
        go_wp2_with fail
        go_ret
        exact ⟨by rw [HR.out]; rfl, b1⟩
      · have f1 : ((bs t).toList == [42]) = false := by rw [g1]; simp [h1]
        by_cases h2 : t = [63]
        · have f2 : ((bs t).toList == [63]) = true := by rw [g2]; simp [h2]
          have HR := Lib.hid (show magicOf s.data.toList = true by rw [HM.out]; exact HAll.out (by unfold magicT; simp [h2]))
          clear g1 g2 h1 h2
          go_wp2_with fail
          go_ret
          exact ⟨by rw [HR.out]; rfl, b1⟩
        · have f2 : ((bs t).toList == [63]) = false := by rw [g2]; simp [h2]
          by_cases h3 : 2 < t.length
          · have f3 : decide (2 < (bs t).size) = true := by rw [bs_size]; simp [h3]
            have HR := Lib.hid (show magicOf s.data.toList = true by rw [HM.out]; exact HAll.out (by unfold magicT; simp [h3]))
            clear g1 g2 h1 h2 h3
            go_wp2_with fail
            go_at_call 41
            refine (isClass_any _ _ hz).mono ?_
            rintro e w2 ⟨rfl, rfl⟩
            go_wp2_with fail
            go_ret
            exact ⟨by rw [HR.out]; rfl, b1⟩
          · have f3 : decide (2 < (bs t).size) = false := by rw [bs_size]; simp [h3]
            have HR := Lib.hid (show (L.take (k + 1)).any magicT = false by rw [HS.out, HN.out]; unfold magicT; simp [h1, h2, h3])
            clear g1 g2 h1 h2 h3
            go_wp2_with fail
            go_at_call 41
            refine (isClass_any _ _ hz).mono ?_
            rintro e w2 ⟨rfl, rfl⟩
            go_wp2_with fail
            go_round
            case rel => exact ⟨k + 1, by omega, by go_num, HR.out⟩
            case measure => simp [intOf]; omega
    · obtain rfl : k = L.length := by omega
      have HR := Lib.hid (show magicOf s.data.toList = false by rw [HM.out]; have := HN.out; rwa [List.take_length] at this)
      go_wp2_with fail
      go_ret
      exact ⟨by rw [HR.out]; rfl, b1⟩

def plainTo (L : List (List UInt8)) (k : Nat) : List UInt8 := (L.take k).flatMap unprot
theorem plainTo_succ (L : List (List UInt8)) (k : Nat) (h : k < L.length) : plainTo L (k + 1) = plainTo L k ++ unprot (L.getD k []) := by
  unfold plainTo
  rw [List.take_succ_eq_append_getElem h, List.flatMap_append]
  simp [List.getD, h]
theorem plainTo_mono (L : List (List UInt8)) (k : Nat) : (plainTo L k).length ≤ (L.flatMap unprot).length := by
  unfold plainTo
  conv => rhs; rw [← List.take_append_drop k L, List.flatMap_append, List.length_append]
  omega
set_option maxHeartbeats 1000000 in
theorem plain_any (s : ByteArray) (hs : s.size ≤ 1000000000) (w : World) :
    Calls Tryz.prog 24 #[.string s] w fun e w' => e = .returned (.string (bs (plainOf s.data.toList))) ∧ Below w.heap.size w w' := by
  obtain ⟨L, hL⟩ : ∃ L, parts s.data.toList = L := ⟨_, rfl⟩
  have es : s.data.toList.length = s.size := by simp
  have HM := Lib.hid (show plainTo L L.length = plainOf s.data.toList by unfold plainOf plainTo; rw [hL, List.take_length])
  have hll : L.length ≤ 1000000000 := by
    have := parts_len _ s.data.toList (Nat.le_refl _)
    rw [hL] at this
    omega
  have HT := Lib.hid (show ∀ t ∈ L, t.length ≤ 1000000000 from fun t ht => by
    have := (parts_pos _ s.data.toList (Nat.le_refl _) t (by rw [hL]; exact ht)).2
    omega)
  have HPL := Lib.hid (show ∀ k, (plainTo L k).length ≤ 1000000000 from fun k => by
    have h1 := plainTo_mono L k
    have h2 := plainOf_len _ s.data.toList (Nat.le_refl _)
    unfold plainOf at h2
    rw [hL] at h2
    omega)
  have hst := wl_start w
  clear es
  go_enter Tryz.func24, Tryz.ntmps24
  go_wp2_with fail
  go_at_call 37
  refine (split_any s hs _).mono ?_
  rintro e w1 ⟨v, rfl, hrow⟩
  rw [hL] at hrow
  clear hL
  obtain ⟨a, cap, rfl⟩ := row_form hrow
  have hw1 : WlAt w [] w1 := by
    obtain ⟨x1, x2, x3⟩ := hst
    have hb := hrow.2
    exact ⟨isBuilder_below x1 hb, x2.trans (hb.mono (by simp)), by have := hb.size; omega⟩
  have hm : (L.length : Int) ≤ 9223372036854775807 := by omega
  clear hst
  go_wp2_with fail
  go_loopw [9] (fun i wr => ∃ k : Nat, k ≤ L.length ∧ i = .int .i64 k ∧ WlAt w (plainTo L k) wr ∧ StrKept w1 wr) (fun i _ => L.length - (intOf i).toNat)
  case atStart => exact ⟨0, Nat.zero_le _, rfl, hw1, StrKept.refl _⟩
  case round =>
    obtain ⟨k, hk, rfl, hwk, hkept⟩ := hrel
    obtain ⟨hb4, B4, hs4⟩ := hwk
    by_cases hlt : k < L.length
    · obtain ⟨_, b, o, rfl, hcell⟩ := row_cell hrow hkept hlt
      have HS := Lib.hid (plainTo_succ L k hlt)
      have hz : (bs (L.getD k [])).size ≤ 1000000000 := HT.out (L.getD k []) (by simp [List.getD, hlt])
      have hl2 : (Lib.byteCells (plainTo L k)).length ≤ 1000000000 := by rw [byteCells_len]; exact HPL.out k
      generalize L.getD k [] = t at *
      by_cases h2 : t.length = 2
      · have f2 : decide ((bs t).size = 2) = true := by rw [bs_size]; simp [h2]
        have HU := Lib.hid (show unprot t = ((bs t).extract 1 (bs t).size).data.toList by
          unfold unprot; rw [if_pos h2, tail_bs, bs_data, bs_data])
        have g1 : (1 : Int) ≤ (bs t).size := by rw [bs_size]; omega
        have hz2 : ((bs t).extract 1 (bs t).size).size ≤ 1000000000 := by rw [ByteArray.size_extract]; omega
        clear h2
        go_wp2_with fail
        go_at_call 42
        refine (isProtected_any _ _ (by omega)).mono ?_
        rintro e w2 ⟨rfl, rfl⟩
        go_wp2_with fail
        go_at_call 33
        refine (writeString_kept w.heap.size w.heap.size _ _ _ hb4 (by omega) (by omega)).mono ?_
        rintro e w5 ⟨rfl, h5, b5, k5⟩
        have hw5 : WlAt w (plainTo L (k + 1)) w5 := by
          rw [HS.out, HU.out]
          exact wl_string ⟨hb4, B4, hs4⟩ h5 b5
        have hk5 := hkept.trans k5
        clear h5 b5 hb4 k5
        go_wp2_with fail
        go_roundw
        case rel => exact ⟨k + 1, by omega, by go_num, hw5, hk5⟩
        case measure => simp [intOf]; omega
      · have f2 : decide ((bs t).size = 2) = false := by rw [bs_size]; simp [h2]
        have HU := Lib.hid (show unprot t = (bs t).data.toList by unfold unprot; rw [if_neg h2, bs_data])
        clear h2
        go_wp2_with fail
        go_at_call 42
        refine (isProtected_any _ _ (by omega)).mono ?_
        rintro e w2 ⟨rfl, rfl⟩
        go_wp2_with fail
        go_at_call 33
        refine (writeString_kept w.heap.size w.heap.size _ _ _ hb4 (by omega) (by omega)).mono ?_
        rintro e w5 ⟨rfl, h5, b5, k5⟩
        have hw5 : WlAt w (plainTo L (k + 1)) w5 := by
          rw [HS.out, HU.out]
          exact wl_string ⟨hb4, B4, hs4⟩ h5 b5
        have hk5 := hkept.trans k5
        clear h5 b5 hb4 k5
        go_wp2_with fail
        go_roundw
        case rel => exact ⟨k + 1, by omega, by go_num, hw5, hk5⟩
        case measure => simp [intOf]; omega
    · obtain rfl : k = L.length := by omega
      rw [HM.out] at hb4
      go_wp2_with fail
      go_at_call 35
      refine (Tryz.Builder_String_any w.heap.size w.heap.size _ wr hb4 (by omega)).mono ?_
      rintro e w6 ⟨rfl, hb8⟩
      go_wp2_with fail
      go_ret
      exact ⟨rfl, B4.trans hb8⟩
end Go.Proofs.YteccccpjhpbebaaGreatDoor
