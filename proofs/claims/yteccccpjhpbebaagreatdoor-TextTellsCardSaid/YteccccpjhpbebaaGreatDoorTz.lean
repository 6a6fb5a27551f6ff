/-
  PACKAGE text: what a class matches (setHas, classHas, matches), and how long a class is (classSize).
-/
import Derived.Test.YteccccpjhpbebaaGreatDoorTx
import Derived.Deep.QuietTactic
import Derived.BigQuiet
import Derived.Outline
import Derived.StillTactics
namespace Go.Proofs.YteccccpjhpbebaaGreatDoor
open Go.RowKit WireM
set_option linter.unusedVariables false
set_option linter.unusedSimpArgs false

def strLen : Value → Nat
  | .string t => t.size
  | _ => 0
theorem list_of (t : ByteArray) (h : 0 < t.size) : t.data.toList = t[0] :: t.data.toList.drop 1 := by
  have := drop_at t 0 h
  simpa using this
theorem list_of3 (t : ByteArray) (h : 2 < t.size) : t.data.toList = t[0] :: t[1] :: t[2] :: t.data.toList.drop 3 := by
  have e0 := drop_at t 0 (by omega)
  have e1 := drop_at t 1 (by omega)
  have e2 := drop_at t 2 h
  rw [← e2, ← e1, ← e0]; rfl
/-- One round of the search in a set. -/
theorem inSet_round1 (t : ByteArray) (c : UInt8) (h : 0 < t.size) (hn : ∀ h : 2 < t.size, t[1].toNat ≠ 45) : inSet t.data.toList c = (t[0].toNat == c.toNat || inSet (t.data.toList.drop 1) c) := by
  conv => lhs; rw [list_of t h]
  refine inSet_one _ _ _ ?_
  rintro ⟨h1, h2⟩
  have h3 : 2 < t.size := by
    rw [← list_of t h] at h1; simpa using h1
  have e1 := drop_at t 1 (by omega)
  rw [e1] at h2
  simp at h2
  exact hn h3 h2
theorem inSet_round3 (t : ByteArray) (c : UInt8) (h : 2 < t.size) (hn : t[1].toNat = 45) : inSet t.data.toList c = ((decide (t[0].toNat ≤ c.toNat) && decide (c.toNat ≤ t[2].toNat)) || inSet (t.data.toList.drop 3) c) := by
  conv => lhs; rw [list_of3 t h]
  exact inSet_range _ _ _ _ _ hn
theorem tail_bs (t : ByteArray) (k : Nat) : t.extract k t.size = bs (t.data.toList.drop k) := extract_end t k

set_option maxHeartbeats 2000000 in
set_option maxRecDepth 100000 in
theorem setHas_any (t : ByteArray) (c : UInt8) (hs : t.size ≤ 9223372036854775807) (w : World) :
    Calls Tryz.prog 72 #[.string t, .int .u8 c.toNat] w fun e w' => e = .returned (.bool (inSet t.data.toList c)) ∧ ∃ n, w' = w.drewN n := by
  obtain ⟨R, hR⟩ : ∃ R, inSet t.data.toList c = R := ⟨_, rfl⟩
  rw [hR]
  have HR := Lib.hid hR
  clear hR
  have hc : c.toNat < 256 := c.toNat_lt
  go_enter Tryz.func72, Tryz.ntmps72
  go_wp2_with fail
  go_loopw [0] (fun v wr => ∃ s : ByteArray, v = .string s ∧ s.size ≤ 9223372036854775807 ∧ inSet s.data.toList c = R ∧ ∃ n, wr = w.drewN n) (fun v _ => strLen v)
  case atStart => exact ⟨t, rfl, hs, HR.out, 0, rfl⟩
  case round =>
    obtain ⟨s, rfl, hs2, hR2, n, rfl⟩ := hrel
    have HR2 := Lib.hid hR2
    clear hR2
    by_cases h0 : s.size = 0
    · have he : s.toList = [] := by rw [Lib.toList_data]; exact List.eq_nil_of_length_eq_zero (by simpa using h0)
      have he2 : (!s.toList.isEmpty) = false := by rw [he]; rfl
      have H0 := Lib.hid (show R = false by
        rw [← HR2.out, ← Lib.toList_data, he]; rfl)
      clear h0
      go_wp2_with fail
      go_ret
      exact ⟨by rw [H0.out]; rfl, n, rfl⟩
    · have hp : 0 < s.size := by omega
      have he : s.toList.isEmpty = false := by
        rw [Lib.toList_data, list_of s hp]; rfl
      have he2 : (!s.toList.isEmpty) = true := by rw [he]; rfl
      have hp1 : (0 : Int) < s.size := by omega
      by_cases h3 : ∃ h : 2 < s.size, s[1].toNat = 45
      · obtain ⟨h3, h45⟩ := h3
        have HI := Lib.hid (inSet_round3 s c h3 h45)
        have g1 : (1 : Int) < s.size := by omega
        have g2 : (2 : Int) < s.size := by omega
        have g3 : (3 : Int) ≤ s.size := by omega
        have e45 : ((s[1].toNat : Int) == 45) = true := by rw [beq_iff_eq]; omega
        have hx0 : s[0].toNat < 256 := s[0].toNat_lt
        have hx2 : s[2].toNat < 256 := s[2].toNat_lt
        clear h45
        by_cases q1 : s[0].toNat ≤ c.toNat
        · have p1 : (s[0].toNat : Int) ≤ c.toNat := by omega
          by_cases q2 : c.toNat ≤ s[2].toNat
          · have p2 : (c.toNat : Int) ≤ s[2].toNat := by omega
            have HT := Lib.hid (show R = true by rw [← HR2.out, HI.out]; simp [q1, q2])
            go_wp2_with fail
            go_quiet (fail)
            go_wp2_with fail
            go_ret
            exact ⟨by rw [HT.out]; rfl, _, rfl⟩
          · have p2 : ¬ (c.toNat : Int) ≤ s[2].toNat := by omega
            have HT := Lib.hid (show inSet (s.data.toList.drop 3) c = R by rw [← HR2.out, HI.out]; simp [q2])
            go_wp2_with fail
            go_quiet (fail)
            go_wp2_with fail
            go_roundw
            case rel => exact ⟨_, rfl, by rw [tail_bs, bs_size]; simp; omega, by rw [tail_bs, bs_data]; exact HT.out, _, rfl⟩
            case measure => simp [strLen, ByteArray.size_extract]; omega
        · have p1 : ¬ (s[0].toNat : Int) ≤ c.toNat := by omega
          have HT := Lib.hid (show inSet (s.data.toList.drop 3) c = R by rw [← HR2.out, HI.out]; simp [q1])
          go_wp2_with fail
          go_quiet (fail)
          go_wp2_with fail
          go_roundw
          case rel => exact ⟨_, rfl, by rw [tail_bs, bs_size]; simp; omega, by rw [tail_bs, bs_data]; exact HT.out, _, rfl⟩
          case measure => simp [strLen, ByteArray.size_extract]; omega
      · have hn : ∀ h : 2 < s.size, s[1].toNat ≠ 45 := fun h e => h3 ⟨h, e⟩
        have HI := Lib.hid (inSet_round1 s c hp hn)
        have hx0 : s[0].toNat < 256 := s[0].toNat_lt
        have g1 : (1 : Int) ≤ s.size := by omega
        clear h3
        by_cases h2 : 2 < s.size
        · have e45 : ((s[1].toNat : Int) == 45) = false := by
            have := hn h2
            rw [beq_eq_false_iff_ne]; omega
          have g2 : (2 : Int) < s.size := by omega
          have g4 : (1 : Int) < s.size := by omega
          clear hn
          by_cases q1 : s[0].toNat = c.toNat
          · have p1 : (s[0].toNat : Int) ≤ c.toNat := by omega
            have p2 : (c.toNat : Int) ≤ s[0].toNat := by omega
            have HQ := Lib.hid q1
            clear q1
            have HT := Lib.hid (show R = true by rw [← HR2.out, HI.out]; simp [HQ.out])
            go_wp2_with fail
            go_quiet (fail)
            go_wp2_with fail
            go_ret
            exact ⟨by rw [HT.out]; rfl, _, rfl⟩
          · by_cases p1 : (s[0].toNat : Int) ≤ c.toNat
            · have p2 : ¬ (c.toNat : Int) ≤ s[0].toNat := by omega
              have HT := Lib.hid (show inSet (s.data.toList.drop 1) c = R by rw [← HR2.out, HI.out]; simp [q1])
              go_wp2_with fail
              go_quiet (fail)
              go_wp2_with fail
              go_roundw
              case rel => exact ⟨_, rfl, by rw [tail_bs, bs_size]; simp; omega, by rw [tail_bs, bs_data]; exact HT.out, _, rfl⟩
              case measure => simp [strLen, ByteArray.size_extract]; omega
            · skip
              have HT := Lib.hid (show inSet (s.data.toList.drop 1) c = R by rw [← HR2.out, HI.out]; simp [q1])
              go_wp2_with fail
              go_quiet (fail)
              go_wp2_with fail
              go_roundw
              case rel => exact ⟨_, rfl, by rw [tail_bs, bs_size]; simp; omega, by rw [tail_bs, bs_data]; exact HT.out, _, rfl⟩
              case measure => simp [strLen, ByteArray.size_extract]; omega
        · have g2 : ¬ (2 : Int) < s.size := by omega
          clear hn
          by_cases q1 : s[0].toNat = c.toNat
          · have p1 : (s[0].toNat : Int) ≤ c.toNat := by omega
            have p2 : (c.toNat : Int) ≤ s[0].toNat := by omega
            have HQ := Lib.hid q1
            clear q1
            have HT := Lib.hid (show R = true by rw [← HR2.out, HI.out]; simp [HQ.out])
            go_wp2_with fail
            go_quiet (fail)
            go_wp2_with fail
            go_ret
            exact ⟨by rw [HT.out]; rfl, _, rfl⟩
          · by_cases p1 : (s[0].toNat : Int) ≤ c.toNat
            · have p2 : ¬ (c.toNat : Int) ≤ s[0].toNat := by omega
              have HT := Lib.hid (show inSet (s.data.toList.drop 1) c = R by rw [← HR2.out, HI.out]; simp [q1])
              go_wp2_with fail
              go_quiet (fail)
              go_wp2_with fail
              go_roundw
              case rel => exact ⟨_, rfl, by rw [tail_bs, bs_size]; simp; omega, by rw [tail_bs, bs_data]; exact HT.out, _, rfl⟩
              case measure => simp [strLen, ByteArray.size_extract]; omega
            · skip
              have HT := Lib.hid (show inSet (s.data.toList.drop 1) c = R by rw [← HR2.out, HI.out]; simp [q1])
              go_wp2_with fail
              go_quiet (fail)
              go_wp2_with fail
              go_roundw
              case rel => exact ⟨_, rfl, by rw [tail_bs, bs_size]; simp; omega, by rw [tail_bs, bs_data]; exact HT.out, _, rfl⟩
              case measure => simp [strLen, ByteArray.size_extract]; omega

/-! classHas, matches, classSize -/
theorem set_bytes (t : ByteArray) (h : 2 < t.size) : (t.extract 1 (t.size - 1)).data.toList = setOf t.data.toList := by
  rw [Lib.extract_data]
  unfold setOf
  have e : t.data.toList.length = t.size := by simp
  rw [e, List.drop_take]
theorem set_len (t : ByteArray) (h : 2 < t.size) : (setOf t.data.toList).length = t.size - 2 := by
  unfold setOf
  simp; omega
theorem drew_step {w : World} {n : Nat} : ∀ {w2 w3 : World}, w2 = w.drewN n → (∃ m, w3 = w2.drewN m) → ∃ m, w3 = w.drewN m := by
  rintro w2 w3 rfl ⟨m, rfl⟩
  exact ⟨n + m, by simp⟩
set_option maxHeartbeats 1000000 in
theorem classHas_any (t : ByteArray) (c : UInt8) (h : 2 < t.size) (hs : t.size ≤ 9223372036854775807) (w : World) :
    Calls Tryz.prog 51 #[.string t, .int .u8 c.toNat] w fun e w' => e = .returned (.bool (clsHas t.data.toList c)) ∧ ∃ n, w' = w.drewN n := by
  obtain ⟨S, hS⟩ : ∃ S, t.extract 1 (t.size - 1) = S := ⟨_, rfl⟩
  have hSd : S.data.toList = setOf t.data.toList := by rw [← hS]; exact set_bytes t h
  have hSl : S.size = t.size - 2 := by
    have e : S.size = S.data.toList.length := by simp
    rw [e, hSd]; exact set_len t h
  have h1 : (1 : Int) ≤ (t.size : Int) - 1 := by omega
  have h2 : (t.size : Int) - 1 ≤ t.size := by omega
  have h3 : ((t.size : Int) - 1).toNat = t.size - 1 := by omega
  by_cases hn : clsNot t.data.toList = true
  · have HN := Lib.hid hn
    have hn' := hn
    unfold clsNot at hn'
    rw [← hSd] at hn'
    simp only [Bool.and_eq_true, decide_eq_true_eq] at hn'
    obtain ⟨n1, n2⟩ := hn'
    have n1' : 1 < S.size := by simpa using n1
    have hp0 : 0 < S.size := Nat.lt_of_succ_lt n1'
    have e0 := drop_at S 0 hp0
    rw [List.drop_zero] at e0
    rw [e0] at n2
    simp at n2
    have f1 : (1 : Int) < S.size := by omega
    have f2 : (((S[0]'hp0).toNat : Int) == 33) = true := by rw [beq_iff_eq]; omega
    have f3 : (0 : Int) < S.size := by omega
    have HR := Lib.hid (show clsHas t.data.toList c = !(inSet (S.extract 1 S.size).data.toList c) by
      unfold clsHas; rw [if_pos HN.out, tail_bs, bs_data, hSd])
    have hz : (S.extract 1 S.size).size ≤ 9223372036854775807 := by rw [ByteArray.size_extract]; omega
    have h3' := h3
    clear hn n2 n1 e0 hSd hSl
    go_enter Tryz.func51, Tryz.ntmps51
    go_wp2_with fail
    go_at_call 72
    refine (setHas_any (S.extract 1 S.size) c hz _).mono ?_
    rintro e w1 ⟨rfl, n, rfl⟩
    generalize inSet (S.extract 1 S.size).data.toList c = b at *
    go_wp2_with fail
    go_ret
    exact ⟨by rw [HR.out]; cases b <;> rfl, n, rfl⟩
  · have HR := Lib.hid (show clsHas t.data.toList c = inSet S.data.toList c by
      unfold clsHas; rw [if_neg hn, hSd])
    have hz : S.size ≤ 9223372036854775807 := by omega
    by_cases n1 : 1 < S.size
    · have f1 : (1 : Int) < S.size := by omega
      have hp0 : 0 < S.size := Nat.lt_of_succ_lt n1
      have f2 : (((S[0]'hp0).toNat : Int) == 33) = false := by
        rw [beq_eq_false_iff_ne]
        intro e
        apply hn
        unfold clsNot
        rw [← hSd]
        have e0 := drop_at S 0 hp0
        rw [List.drop_zero] at e0
        simp only [Bool.and_eq_true, decide_eq_true_eq]
        refine ⟨by simpa using n1, ?_⟩
        rw [e0]; simp; omega
      have f3 : (0 : Int) < S.size := by omega
      clear hn hSd hSl
      go_enter Tryz.func51, Tryz.ntmps51
      go_wp2_with fail
      go_at_call 72
      refine (setHas_any S c hz _).mono ?_
      rintro e w1 ⟨rfl, n, rfl⟩
      generalize inSet S.data.toList c = b at *
      go_wp2_with fail
      go_ret
      exact ⟨by rw [HR.out]; cases b <;> rfl, n, rfl⟩
    · have f1 : ¬ (1 : Int) < S.size := by omega
      clear hn hSd hSl
      go_enter Tryz.func51, Tryz.ntmps51
      go_wp2_with fail
      go_at_call 72
      refine (setHas_any S c hz _).mono ?_
      rintro e w1 ⟨rfl, n, rfl⟩
      generalize inSet S.data.toList c = b at *
      go_wp2_with fail
      go_ret
      exact ⟨by rw [HR.out]; cases b <;> rfl, n, rfl⟩
theorem isStar_eq (t : ByteArray) (l : List UInt8) : (t.toList == l) = decide (t.data.toList = l) := by
  rw [Lib.toList_data, Bool.eq_iff_iff]; simp
set_option maxHeartbeats 1000000 in
theorem matches_any (t : ByteArray) (c : UInt8) (h : 1 ≤ t.size) (hs : t.size ≤ 9223372036854775807) (w : World) :
    Calls Tryz.prog 38 #[.string t, .int .u8 c.toNat] w fun e w' => e = .returned (.bool (fit t.data.toList c)) ∧ ∃ n, w' = w.drewN n := by
  have hl : t.data.toList.length = t.size := by simp
  by_cases h3 : 2 < t.size
  · have HF := Lib.hid (show fit t.data.toList c = clsHas t.data.toList c by unfold fit; rw [if_pos (by omega)])
    have d3 : decide (2 < t.size) = true := by simp [h3]
    clear hl
    go_enter Tryz.func38, Tryz.ntmps38
    go_wp2_with fail
    go_at_call 41
    refine (isClass_any t _ hs).mono ?_
    rintro e w1 ⟨rfl, rfl⟩
    go_wp2_with fail
    go_at_call 51
    refine (classHas_any t c h3 hs _).mono ?_
    rintro e w1 ⟨rfl, n, rfl⟩
    go_wp2_with fail
    go_ret
    exact ⟨by rw [HF.out]; rfl, n, rfl⟩
  · have d3 : decide (2 < t.size) = false := by simp [h3]
    by_cases h2 : t.size = 2
    · have hp1 : 1 < t.size := by rw [h2]; decide
      have HF := Lib.hid (show fit t.data.toList c = (((t[1]'hp1).toNat : Int) == c.toNat) by
        unfold fit; rw [if_neg (by omega), if_pos (by omega)]
        have e0 := drop_at t 0 (by omega)
        have e1 := drop_at t 1 (by omega)
        rw [List.drop_zero] at e0
        rw [e0, e1, Bool.eq_iff_iff]
        simp [List.getD]
        constructor
        · rintro rfl; rfl
        · intro e; exact UInt8.toNat_inj.1 (by omega))
      have d2 : decide (t.size = 2) = true := by simp [h2]
      have g1 : (1 : Int) < t.size := by omega
      clear hl h2
      go_enter Tryz.func38, Tryz.ntmps38
      go_wp2_with fail
      go_at_call 41
      refine (isClass_any t _ hs).mono ?_
      rintro e w1 ⟨rfl, rfl⟩
      go_wp2_with fail
      go_at_call 42
      refine (isProtected_any t _ hs).mono ?_
      rintro e w1 ⟨rfl, rfl⟩
      go_wp2_with fail
      go_ret
      exact ⟨by rw [HF.out]; rfl, 0, rfl⟩
    · have d2 : decide (t.size = 2) = false := by simp [h2]
      have g0 : (0 : Int) < t.size := by omega
      have hp0 : 0 < t.size := h
      have HF := Lib.hid (show fit t.data.toList c = ((t.toList == [63]) || (((t[0]'hp0).toNat : Int) == c.toNat)) by
        unfold fit; rw [if_neg (by omega), if_neg (by omega), isStar_eq]
        congr 1
        have e0 := drop_at t 0 hp0
        rw [List.drop_zero] at e0
        rw [e0, Bool.eq_iff_iff]
        simp [List.getD]
        constructor
        · rintro rfl; rfl
        · intro e; exact UInt8.toNat_inj.1 (by omega))
      clear hl h2
      by_cases hq : (t.toList == [63]) = true
      · go_enter Tryz.func38, Tryz.ntmps38
        go_wp2_with fail
        go_at_call 41
        refine (isClass_any t _ hs).mono ?_
        rintro e w1 ⟨rfl, rfl⟩
        go_wp2_with fail
        go_at_call 42
        refine (isProtected_any t _ hs).mono ?_
        rintro e w1 ⟨rfl, rfl⟩
        go_wp2_with fail
        go_ret
        exact ⟨by rw [HF.out, hq]; rfl, 0, rfl⟩
      · have hq' : (t.toList == [63]) = false := by simpa using hq
        clear hq
        go_enter Tryz.func38, Tryz.ntmps38
        go_wp2_with fail
        go_at_call 41
        refine (isClass_any t _ hs).mono ?_
        rintro e w1 ⟨rfl, rfl⟩
        go_wp2_with fail
        go_at_call 42
        refine (isProtected_any t _ hs).mono ?_
        rintro e w1 ⟨rfl, rfl⟩
        go_wp2_with fail
        go_ret
        exact ⟨by rw [HF.out, hq']; rfl, 0, rfl⟩
theorem indexByte_any (s : ByteArray) (w : World) : Calls Tryz.prog 71 #[.string s, .int .u8 93] w fun e w' => e = .returned (.int .i64 (i93 s.data.toList)) ∧ w = w' := by
  refine (Tryz.strings_IndexByte s 93 w).mono ?_
  rintro e w' ⟨rfl, rfl⟩
  exact ⟨rfl, rfl⟩
set_option maxHeartbeats 1000000 in
theorem classSize_any (t : ByteArray) (h : 0 ≤ i93 (t.data.toList.drop 2)) (hs : t.size ≤ 9223372036854775807) (w : World) :
    Calls Tryz.prog 50 #[.string t] w fun e w' => e = .returned (.int .i64 (clsLen t.data.toList)) ∧ w = w' := by
  have hl : t.data.toList.length = t.size := by simp
  have hlt := i93_lt (t.data.toList.drop 2)
  have hlt3 := i93_lt (t.data.toList.drop 3)
  rw [List.length_drop, hl] at hlt hlt3
  have hz : 3 ≤ t.size := by omega
  have g1 : (1 : Int) < t.size := by omega
  have g2 : (2 : Int) ≤ t.size := by omega
  have g3 : (3 : Int) ≤ t.size := by omega
  have hp1 : 1 < t.size := by omega
  have hh : (t.data.toList.drop 1).head? = some (t[1]'hp1) := by rw [drop_at t 1 hp1]; rfl
  by_cases h33 : (t[1]'hp1).toNat = 33
  · have f1 : (((t[1]'hp1).toNat : Int) == 33) = true := by rw [beq_iff_eq]; omega
    by_cases h0 : 0 ≤ i93 (t.data.toList.drop 3)
    · have HC := Lib.hid (show (clsLen t.data.toList : Int) = 3 + i93 (t.data.toList.drop 3) + 1 by
        unfold clsLen
        rw [if_pos ⟨by rw [hh]; exact congrArg some (UInt8.toNat_inj.1 h33), h0⟩]; omega)
      clear h33 hh hl
      go_enter Tryz.func50, Tryz.ntmps50
      go_wp2_with fail
      go_at_call 71
      refine (indexByte_any _ _).mono ?_
      rintro e w1 ⟨rfl, rfl⟩
      rw [tail_bs, bs_data]
      generalize i93 (t.data.toList.drop 3) = x at *
      go_wp2_with fail
      go_ret
      exact ⟨by rw [HC.out]; rfl, rfl⟩
    · have HC := Lib.hid (show (clsLen t.data.toList : Int) = 2 + i93 (t.data.toList.drop 2) + 1 by
        unfold clsLen
        rw [if_neg (fun x => h0 x.2)]; omega)
      clear h33 hh hl
      go_enter Tryz.func50, Tryz.ntmps50
      go_wp2_with fail
      go_at_call 71
      refine (indexByte_any _ _).mono ?_
      rintro e w1 ⟨rfl, rfl⟩
      rw [tail_bs, bs_data]
      generalize i93 (t.data.toList.drop 3) = x at *
      go_wp2_with fail
      go_at_call 71
      refine (indexByte_any _ _).mono ?_
      rintro e w1 ⟨rfl, rfl⟩
      rw [tail_bs, bs_data]
      generalize i93 (t.data.toList.drop 2) = y at *
      go_wp2_with fail
      go_ret
      exact ⟨by rw [HC.out]; rfl, rfl⟩
  · have f1 : (((t[1]'hp1).toNat : Int) == 33) = false := by rw [beq_eq_false_iff_ne]; omega
    have HC := Lib.hid (show (clsLen t.data.toList : Int) = 2 + i93 (t.data.toList.drop 2) + 1 by
      unfold clsLen
      rw [if_neg (fun x => h33 (by rw [hh] at x; exact congrArg UInt8.toNat (Option.some.inj x.1)))]; omega)
    clear h33 hh hl
    go_enter Tryz.func50, Tryz.ntmps50
    go_wp2_with fail
    go_at_call 71
    refine (indexByte_any _ _).mono ?_
    rintro e w1 ⟨rfl, rfl⟩
    rw [tail_bs, bs_data]
    generalize i93 (t.data.toList.drop 2) = y at *
    go_wp2_with fail
    go_ret
    exact ⟨by rw [HC.out]; rfl, rfl⟩
end Go.Proofs.YteccccpjhpbebaaGreatDoor
