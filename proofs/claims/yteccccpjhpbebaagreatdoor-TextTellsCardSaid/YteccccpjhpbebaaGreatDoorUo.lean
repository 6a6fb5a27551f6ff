/-
  THE REFERENCE: Magic, Plain.
-/
import Derived.Test.YteccccpjhpbebaaGreatDoorUq
import Derived.Test.YteccccpjhpbebaaGreatDoorTm
namespace Go.Proofs.YteccccpjhpbebaaGreatDoor
open Go.RowKit WireM
set_option linter.unusedVariables false
set_option linter.unusedSimpArgs false

theorem prow_form {w wr : World} {L : List (List UInt8)} {v : Value} (h : PRowAt w L v wr) : ∃ a cap, v = .slice a L.length cap := by
  obtain ⟨a, cap, e⟩ : ∃ a cap, v = .slice a L.length cap := by
    rcases h.1.2 with ⟨rfl, h0⟩ | ⟨g, cap, cur, rfl, _⟩
    · exact ⟨none, 0, by rw [h0]⟩
    · exact ⟨_, cap, rfl⟩
  exact ⟨a, cap, e⟩
theorem prow_cell {w wr w2 : World} {L : List (List UInt8)} {a : Option Addr} {n cap k : Nat} (h : PRowAt w L (.slice a n cap) wr) (hk : Below wr.heap.size wr w2) (hlt : k < L.length) :
    ∃ b, a = some ⟨b, 0, none⟩ ∧ b < wr.heap.size ∧ w.heap.size ≤ b ∧ ∀ i u, (partCells (L.getD k []))[i]? = some u → w2.cell? ⟨b, k * 5 + i, none⟩ = some u := by
  rcases h.1.2 with ⟨h1, h0⟩ | ⟨g, cap', cur, h1, hb, hg, _⟩
  · omega
  · injection h1 with h1 h2 h3
    subst h1
    have hl := (h.1.lt g rfl).2
    refine ⟨g, rfl, hl, hb, fun i u hu => ?_⟩
    have hi : i < 5 := (List.getElem?_eq_some_iff.1 hu).1
    have h2 := h.1.cells (g := g) rfl (k * 5 + i) u (by rw [rowCells_at L k i hlt hi]; exact hu)
    have hadd : (⟨g, 0, none⟩ : Addr).add (k * 5 + i) = ⟨g, k * 5 + i, none⟩ := by unfold Addr.add; split <;> simp_all
    rw [hadd] at h2
    exact (hk.cell (p := ⟨g, k * 5 + i, none⟩) hl).trans h2
set_option maxHeartbeats 1000000 in
theorem rmagic_any (s : ByteArray) (hs : s.size ≤ 1000000000) (w : World) :
    Calls Tryz.prog 23 #[.string s] w fun e w' => e = .returned (.bool (magicOf s.data.toList)) ∧ Below w.heap.size w w' := by
  obtain ⟨L, hL⟩ : ∃ L, parts s.data.toList = L := ⟨_, rfl⟩
  have HM := Lib.hid (show magicOf s.data.toList = L.any magicT by unfold magicOf; rw [hL])
  have hll : L.length ≤ 1000000000 := by
    have := parts_len _ s.data.toList (Nat.le_refl _)
    rw [hL] at this
    have e : s.data.toList.length = s.size := by simp
    omega
  go_enter Tryz.func23, Tryz.ntmps23
  go_wp2_with fail
  go_at_call 39
  refine (rparts_any s hs _).mono ?_
  rintro e w1 ⟨v, rfl, hrow⟩
  rw [hL] at hrow
  clear hL
  obtain ⟨a, cap, rfl⟩ := prow_form hrow
  have b1 := hrow.2
  have hm : (L.length : Int) ≤ 1000000000 := by omega
  go_wp2_with fail
  go_loop [4] (fun i => ∃ k : Nat, k ≤ L.length ∧ i = .int .i64 k ∧ (L.take k).any magicT = false) (fun i => L.length - (intOf i).toNat)
  case atStart => exact ⟨0, Nat.zero_le _, rfl, rfl⟩
  case round =>
    obtain ⟨k, hk, rfl, hno⟩ := hrel
    have HN := Lib.hid hno
    clear hno
    by_cases hlt : k < L.length
    · have hlz : (k : Int) < L.length := by omega
      obtain ⟨b, rfl, -, -, hcells⟩ := prow_cell hrow (Below.refl _ _) hlt
      have hcell : w1.cell? ⟨b, k * 5, none⟩ = some (.int .i64 (kindOf (L.getD k []))) := hcells 0 _ rfl
      clear hcells
      have HS := Lib.hid (any_take L k hlt)
      have HAll := Lib.hid (show magicT (L.getD k []) = true → L.any magicT = true from fun h => List.any_eq_true.2 ⟨L.getD k [], by simp [List.getD, hlt], h⟩)
      have HK := Lib.hid (magic_kind (L.getD k []))
      generalize magicT (L.getD k []) = mg at *
      have hkl := kind_le (L.getD k [])
      generalize kindOf (L.getD k []) = kd at *
      by_cases h0 : kd = 0
      · have f : ((kd : Int) == 0) = true := by rw [beq_iff_eq]; omega
        have fn : ((kd : Int) != 0) = false := by unfold bne; rw [f]; rfl
        have HR := Lib.hid (show (L.take (k + 1)).any magicT = false by rw [HS.out, HN.out, HK.out]; simp [h0])
        clear h0
        go_wp2_with fail
        go_round
        case rel => exact ⟨k + 1, by omega, by go_num, HR.out⟩
        case measure => simp [intOf]; omega
      · have f : ((kd : Int) == 0) = false := by rw [beq_eq_false_iff_ne]; omega
        have fn : ((kd : Int) != 0) = true := by unfold bne; rw [f]; rfl
        have HR := Lib.hid (show magicOf s.data.toList = true by rw [HM.out]; exact HAll.out (by rw [HK.out]; simp [h0]))
        clear h0
        go_wp2_with fail
        go_ret
        exact ⟨by rw [HR.out]; rfl, b1⟩
    · obtain rfl : k = L.length := by omega
      have hlz : ¬ ((L.length : Nat) : Int) < L.length := by omega
      have HR := Lib.hid (show magicOf s.data.toList = false by rw [HM.out]; have := HN.out; rwa [List.take_length] at this)
      go_wp2_with fail
      go_ret
      exact ⟨by rw [HR.out]; rfl, b1⟩
set_option maxHeartbeats 1000000 in
theorem rplain_any (s : ByteArray) (hs : s.size ≤ 1000000000) (w : World) :
    Calls Tryz.prog 25 #[.string s] w fun e w' => e = .returned (.string (bs (plainOf s.data.toList))) ∧ Below w.heap.size w w' := by
  obtain ⟨L, hL⟩ : ∃ L, parts s.data.toList = L := ⟨_, rfl⟩
  have es : s.data.toList.length = s.size := by simp
  have HM := Lib.hid (show plainTo L L.length = plainOf s.data.toList by unfold plainOf plainTo; rw [hL, List.take_length])
  have hll : L.length ≤ 1000000000 := by
    have := parts_len _ s.data.toList (Nat.le_refl _)
    rw [hL] at this
    omega
  have HT := Lib.hid (show ∀ t ∈ L, t.length ≤ 1000000000 from fun t ht => by
    have := (parts_pos _ s.data.toList (Nat.le_refl _) t (by rw [hL]; exact ht)).2
    omega)
  have HPL := Lib.hid (show ∀ k, (plainTo L k).length ≤ 1000000000 from fun k => by
    have h1 := plainTo_mono L k
    have h2 := plainOf_len _ s.data.toList (Nat.le_refl _)
    unfold plainOf at h2
    rw [hL] at h2
    omega)
  clear es
  go_enter Tryz.func25, Tryz.ntmps25
  go_wp2_with fail
  go_at_call 39
  refine (rparts_any s hs _).mono ?_
  rintro e w1 ⟨v, rfl, hrow⟩
  rw [hL] at hrow
  clear hL
  obtain ⟨a, cap, rfl⟩ := prow_form hrow
  have b1 := hrow.2
  have hm : (L.length : Int) ≤ 1000000000 := by omega
  go_wp2_with fail
  go_loop [5, 4, 6] (fun i out t => ∃ (k : Nat) (U : ByteArray), k ≤ L.length ∧ i = .int .i64 k ∧ out = .string U ∧ U.data.toList = plainTo L k) (fun i _ _ => L.length - (intOf i).toNat)
  case atStart => exact ⟨0, ⟨#[]⟩, Nat.zero_le _, rfl, rfl, rfl⟩
  case round =>
    obtain ⟨k, U, hk, rfl, rfl, hU⟩ := hrel
    have HU := Lib.hid hU
    have hul : U.size ≤ 1000000000 := by
      have := HPL.out k
      rw [← hU] at this; simpa using this
    clear hU
    by_cases hlt : k < L.length
    · have hlz : (k : Int) < L.length := by omega
      obtain ⟨b, rfl, -, -, hcells⟩ := prow_cell hrow (Below.refl _ _) hlt
      have hcell : w1.cell? ⟨b, k * 5, none⟩ = some (.int .i64 (kindOf (L.getD k []))) := hcells 0 _ rfl
      have hcell4 := hcells 4 _ rfl
      clear hcells
      have HS := Lib.hid (plainTo_succ L k hlt)
      have hz : (bs (L.getD k [])).size ≤ 1000000000 := HT.out (L.getD k []) (by simp [List.getD, hlt])
      have HK := Lib.hid (show (L.getD k []).length = 2 → kindOf (L.getD k []) = 0 from fun h => by
        unfold kindOf
        rw [if_neg (by omega), if_neg, if_neg]
        · intro e; rw [e] at h; simp at h
        · intro e; rw [e] at h; simp at h)
      have hkl := kind_le (L.getD k [])
      generalize kindOf (L.getD k []) = kd at *
      generalize L.getD k [] = t at *
      have HB := Lib.hid (bs_size t)
      by_cases h2 : t.length = 2
      · have hk0 := HK.out h2
        have f : ((kd : Int) == 0) = true := by rw [beq_iff_eq]; omega
        have f2 : (((bs t).size : Int) == 2) = true := by rw [beq_iff_eq, HB.out]; omega
        have g1 : (1 : Int) ≤ (bs t).size := by rw [HB.out]; omega
        have HR := Lib.hid (show (U ++ (bs t).extract 1 (bs t).size).data.toList = plainTo L (k + 1) by
          rw [HS.out, show (U ++ (bs t).extract 1 (bs t).size).data.toList = U.data.toList ++ ((bs t).extract 1 (bs t).size).data.toList by simp, HU.out]
          congr 1
          unfold unprot; rw [if_pos h2, tail_bs, bs_data, bs_data])
        have hz2 : ((bs t).extract 1 (bs t).size).size ≤ 1000000000 := by rw [ByteArray.size_extract]; omega
        clear h2 hk0
        go_wp2_with fail
        go_round
        case rel => exact ⟨k + 1, _, by omega, by go_num, rfl, HR.out⟩
        case measure => simp [intOf]; omega
      · have f2 : (((bs t).size : Int) == 2) = false := by rw [beq_eq_false_iff_ne, HB.out]; omega
        have HR := Lib.hid (show (U ++ bs t).data.toList = plainTo L (k + 1) by
          rw [HS.out, show (U ++ bs t).data.toList = U.data.toList ++ (bs t).data.toList by simp, HU.out, bs_data]
          congr 1
          unfold unprot; rw [if_neg h2])
        clear h2
        by_cases h0 : kd = 0
        · have f : ((kd : Int) == 0) = true := by rw [beq_iff_eq]; omega
          clear h0
          go_wp2_with fail
          go_round
          case rel => exact ⟨k + 1, _, by omega, by go_num, rfl, HR.out⟩
          case measure => simp [intOf]; omega
        · have f : ((kd : Int) == 0) = false := by rw [beq_eq_false_iff_ne]; omega
          clear h0
          go_wp2_with fail
          go_round
          case rel => exact ⟨k + 1, _, by omega, by go_num, rfl, HR.out⟩
          case measure => simp [intOf]; omega
    · obtain rfl : k = L.length := by omega
      have hlz : ¬ ((L.length : Nat) : Int) < L.length := by omega
      have HR := Lib.hid (show U = bs (plainOf s.data.toList) by refine ext ?_; rw [bs_data, HU.out, HM.out])
      go_wp2_with fail
      go_ret
      exact ⟨by rw [HR.out]; rfl, b1⟩
end Go.Proofs.YteccccpjhpbebaaGreatDoor
