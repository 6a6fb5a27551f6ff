/-
  strconv.UnquoteChar: hexadecimal and octal digits behind a backslash.
-/
import Derived.Test.YteccccpjhpbebaaGreatDoorTw
import Derived.Laws.BitsLemmas
namespace Go.Proofs.YteccccpjhpbebaaGreatDoor
open Go.RowKit WireM
set_option linter.unusedVariables false
set_option linter.unusedSimpArgs false

/-- What the loop over hexadecimal digits holds. -/
def HxInv (S : ByteArray) (k : Nat) (v : Int) : Prop :=
  -2147483648 ≤ v ∧ v ≤ 2147483647 ∧ ∀ a b X, a < 16 → b < 16 → S.data.toList = hexd a :: hexd b :: X → (k = 0 → v = 0) ∧ (k = 1 → v = a) ∧ (k = 2 → v = 16 * a + b)
theorem hx_start (S : ByteArray) : HxInv S 0 0 := ⟨by omega, by omega, fun a b X _ _ _ => ⟨fun _ => rfl, fun h => by omega, fun h => by omega⟩⟩
theorem or4 (v x : Int) (h0 : 0 ≤ v) (h1 : v < 16) (h2 : 0 ≤ x) (h3 : x ≤ 15) : bits .or .i32 (RowKit.wrap32 (v * 16)) x = v * 16 + x := by
  rw [← IntWalk.i32_left, IntWalk.i32_in _ (by omega)]
  exact bits_join .i32 31 (by decide) wraps_i32 4 (v * 16) x (by omega) (by omega) (by omega) h2 (by omega) (by omega)
theorem hx_step {S : ByteArray} {k : Nat} {v x : Int} (hk : k < S.size) (h : HxInv S k v) (hx : HexOut (S[k]'hk) x true) : HxInv S (k + 1) (bits .or .i32 (RowKit.wrap32 (v * 16)) x) := by
  obtain ⟨x0, x15, hxx⟩ := hx
  have hw := bits_within .or .i32 (RowKit.wrap32 (v * 16)) x
  refine ⟨hw.1, hw.2, fun a b X ha hb e => ?_⟩
  obtain ⟨q0, q1, q2⟩ := h.2.2 a b X ha hb e
  have es := drop_at S k hk
  rw [e] at es
  refine ⟨fun h => by omega, fun h => ?_, fun h => ?_⟩
  · obtain rfl : k = 0 := by omega
    rw [List.drop_zero] at es
    injection es with e1 e2
    have := (hxx a ha e1.symm).1
    rw [or4 v x (by rw [q0 rfl]; omega) (by rw [q0 rfl]; omega) x0 x15, q0 rfl, this]; omega
  · obtain rfl : k = 1 := by omega
    have es' : hexd b :: X = S[1] :: X := es
    injection es' with e1 e2
    have := (hxx b hb e1.symm).1
    rw [or4 v x (by rw [q1 rfl]; omega) (by rw [q1 rfl]; omega) x0 x15, q1 rfl, this]; omega
/-- Where a digit is none, the byte was not quoted so. -/
theorem hx_bad {S : ByteArray} {k : Nat} {x : Int} (hk : k < S.size) (h2 : k < 2) (hx : HexOut (S[k]'hk) x false) : ∀ a b X, a < 16 → b < 16 → S.data.toList ≠ hexd a :: hexd b :: X := by
  intro a b X ha hb e
  have es := drop_at S k hk
  rw [e] at es
  match k, h2 with
  | 0, _ =>
    rw [List.drop_zero] at es
    injection es with e1 e2
    exact absurd (hx.2.2 a ha e1.symm).2 (by decide)
  | 1, _ =>
    have es' : hexd b :: X = S[1] :: X := es
    injection es' with e1 e2
    exact absurd (hx.2.2 b hb e1.symm).2 (by decide)
theorem uc_hexno {s : ByteArray} {q : UInt8} (h1 : 1 < s.size) (h92 : (s[0]'(by omega)).toNat = 92) (h120 : s[1].toNat = 120) (h : ∀ a b X, a < 16 → b < 16 → s.data.toList.drop 2 ≠ hexd a :: hexd b :: X) : UcNo s q :=
  fun _ c X e => by
    have hc := c.toNat_lt
    rcases uc_second h1 h92 e with ⟨a, b, _⟩ | ⟨a, _⟩ | ⟨_, a⟩
    · rw [a] at h120; omega
    · omega
    · exact h _ _ X (by omega) (by omega) a
set_option maxHeartbeats 2000000 in
set_option maxRecDepth 100000 in
theorem uc_120 (s : ByteArray) (q : UInt8) (w : World) (ht : Glob w) (h1 : 1 < s.size) (hz : s.size ≤ 1000000000) (hq : q.toNat = 34 ∨ q.toNat = 39) (h92 : (s[0]'(by omega)).toNat = 92) (hk : s[1].toNat = 120) :
    Calls Tryz.prog 63 #[.string s, .int .u8 q.toNat] w (UcPost s q w) := by
  obtain ⟨tp, p, herr⟩ := ht.err
  have hp : 0 < s.size := by omega
  have f0 : ((s.size : Int) == 0) = false := by rw [beq_eq_false_iff_ne]; omega
  have g0 : (0 : Int) < s.size := by omega
  have g1 : (1 : Int) < s.size := by omega
  have g2 : (2 : Int) ≤ s.size := by omega
  have n1 : ¬ (s.size : Int) ≤ 1 := by omega
  have fq : (((s[0]'hp).toNat : Int) == q.toNat) = false := by rw [beq_eq_false_iff_ne]; omega
  have f2 : ¬ (128 : Int) ≤ (s[0]'hp).toNat := by omega
  have f3 : (((s[0]'hp).toNat : Int) == 92) = true := by rw [beq_iff_eq]; omega
  have hx1 : s[1].toNat < 256 := s[1].toNat_lt
  have e97 : ((s[1].toNat : Int) == 97) = false := by rw [beq_eq_false_iff_ne]; omega
  have e98 : ((s[1].toNat : Int) == 98) = false := by rw [beq_eq_false_iff_ne]; omega
  have e102 : ((s[1].toNat : Int) == 102) = false := by rw [beq_eq_false_iff_ne]; omega
  have e110 : ((s[1].toNat : Int) == 110) = false := by rw [beq_eq_false_iff_ne]; omega
  have e114 : ((s[1].toNat : Int) == 114) = false := by rw [beq_eq_false_iff_ne]; omega
  have e116 : ((s[1].toNat : Int) == 116) = false := by rw [beq_eq_false_iff_ne]; omega
  have e118 : ((s[1].toNat : Int) == 118) = false := by rw [beq_eq_false_iff_ne]; omega
  have e120 : ((s[1].toNat : Int) == 120) = true := by rw [beq_iff_eq]; omega
  obtain ⟨S, hS⟩ : ∃ S, s.extract 2 s.size = S := ⟨_, rfl⟩
  have hSd : s.data.toList.drop 2 = S.data.toList := by rw [← hS, tail_bs0, bs_data]
  have hSz : S.size + 2 = s.size := by rw [← hS, ByteArray.size_extract]; omega
  have hSl : S.data.toList.length = S.size := by simp
  by_cases hshort : S.size < 2
  · have HN := Lib.hid (show UcNo s q from uc_hexno h1 h92 hk (fun a b X ha hb e => by rw [hSd] at e; have := congrArg List.length e; rw [hSl] at this; simp at this; omega))
    have hsh : (S.size : Int) < 2 := by omega
    clear hk h92 hq hSd hSl hSz
    go_enter Tryz.func63, Tryz.ntmps63
    go_wp2_with fail
    refine bodyPost_ret (results_tmp4 rfl _ _ _) rfl ?_
    exact uc_no HN.out (Below.refl _ _)
  · have HB := Lib.hid (show ∀ (k : Nat) (hkk : k < S.size) (h2 : k < 2) (x : Int), HexOut (S[k]'hkk) x false → UcNo s q from fun k hkk h2 x hx => uc_hexno h1 h92 hk (fun a b X ha hb e => hx_bad hkk h2 hx a b X ha hb (by rw [← hSd]; exact e)))
    have HO := Lib.hid (show ∀ v, HxInv S 2 v → UcOk s q v false (S.extract 2 S.size) from fun v hv => ⟨by rw [ByteArray.size_extract]; omega, hv.1, hv.2.1, fun _ c X e => by
    have hc := c.toNat_lt
    rcases uc_second h1 h92 e with ⟨a, b, _⟩ | ⟨a, _⟩ | ⟨_, a⟩
    · rw [a] at hk; omega
    · omega
    · have h2 := (hv.2.2 (c.toNat / 16) (c.toNat % 16) X (by omega) (by omega) (by rw [← hSd]; exact a)).2.2 rfl
      refine ⟨by omega, rfl, ?_⟩
      rw [tail_bs0, bs_data, ← hSd, a]; rfl⟩)
    have HNO := Lib.hid (show UcNo s q ∨ True from .inr trivial)
    have hsh : ¬ (S.size : Int) < 2 := by omega
    have hsh2 : (2 : Int) ≤ S.size := by omega
    have HV := Lib.hid (show 120 = 120 ∨ UcNo s q from .inl rfl)
    clear hk h92 hq hSd hSl hSz
    go_enter Tryz.func63, Tryz.ntmps63
    go_wp2_with fail
    go_loop [14, 13, 7] (fun jv vv ev => ∃ (k : Nat) (v : Int), k ≤ 2 ∧ jv = .int .i64 k ∧ vv = .int .i32 v ∧ ev = .nilIface ∧ HxInv S k v) (fun jv _ _ => 2 - (intOf jv).toNat)
    case atStart => exact ⟨0, 0, by omega, rfl, rfl, rfl, hx_start S⟩
    case round =>
      obtain ⟨k, v, hk, rfl, rfl, rfl, hinv⟩ := hrel
      have hv1 := hinv.1
      have hv2 := hinv.2.1
      by_cases hlt : k < 2
      · have hkS : k < S.size := by omega
        have hkz : (k : Int) < S.size := by omega
        have hlz : (k : Int) < 2 := by omega
        have hST := Lib.hid (fun x (hx : HexOut (S[k]'hkS) x true) => hx_step hkS hinv hx)
        have hBD := Lib.hid (fun x (hx : HexOut (S[k]'hkS) x false) => HB.out k hkS hlt x hx)
        have hun := unhex_any (S[k]'hkS) w
        clear hinv
        go_wp2_with fail
        go_at_call 79
        refine hun.mono ?_
        rintro e w2 ⟨x, ok, rfl, hx, rfl⟩
        have hx0 := hx.1
        have hx1' := hx.2.1
        cases ok with
        | true =>
          have hn := Lib.hid (hST.out x hx)
          clear hx hun
          go_wp2_with fail
          go_round
          case rel => exact ⟨k + 1, _, by omega, by go_num, rfl, rfl, hn.out⟩
          case measure => simp [intOf]; omega
        | false =>
          have hno := Lib.hid (hBD.out x hx)
          clear hx hun
          go_wp2_with fail
          refine bodyPost_ret (results_tmp4 rfl _ _ _) rfl ?_
          exact uc_no hno.out (Below.refl _ _)
      · obtain rfl : k = 2 := by omega
        have hno := Lib.hid (HO.out v hinv)
        clear hinv
        go_wp2_with fail
        refine bodyPost_ret (results_tmp4 rfl _ _ _) rfl ?_
        exact uc_ok hno.out (Below.refl _ _)
set_option maxHeartbeats 2000000 in
set_option maxRecDepth 100000 in
theorem uc_117 (s : ByteArray) (q : UInt8) (w : World) (ht : Glob w) (h1 : 1 < s.size) (hz : s.size ≤ 1000000000) (hq : q.toNat = 34 ∨ q.toNat = 39) (h92 : (s[0]'(by omega)).toNat = 92) (hk : s[1].toNat = 117) :
    Calls Tryz.prog 63 #[.string s, .int .u8 q.toNat] w (UcPost s q w) := by
  obtain ⟨tp, p, herr⟩ := ht.err
  have hp : 0 < s.size := by omega
  have f0 : ((s.size : Int) == 0) = false := by rw [beq_eq_false_iff_ne]; omega
  have g0 : (0 : Int) < s.size := by omega
  have g1 : (1 : Int) < s.size := by omega
  have g2 : (2 : Int) ≤ s.size := by omega
  have n1 : ¬ (s.size : Int) ≤ 1 := by omega
  have fq : (((s[0]'hp).toNat : Int) == q.toNat) = false := by rw [beq_eq_false_iff_ne]; omega
  have f2 : ¬ (128 : Int) ≤ (s[0]'hp).toNat := by omega
  have f3 : (((s[0]'hp).toNat : Int) == 92) = true := by rw [beq_iff_eq]; omega
  have hx1 : s[1].toNat < 256 := s[1].toNat_lt
  have e97 : ((s[1].toNat : Int) == 97) = false := by rw [beq_eq_false_iff_ne]; omega
  have e98 : ((s[1].toNat : Int) == 98) = false := by rw [beq_eq_false_iff_ne]; omega
  have e102 : ((s[1].toNat : Int) == 102) = false := by rw [beq_eq_false_iff_ne]; omega
  have e110 : ((s[1].toNat : Int) == 110) = false := by rw [beq_eq_false_iff_ne]; omega
  have e114 : ((s[1].toNat : Int) == 114) = false := by rw [beq_eq_false_iff_ne]; omega
  have e116 : ((s[1].toNat : Int) == 116) = false := by rw [beq_eq_false_iff_ne]; omega
  have e118 : ((s[1].toNat : Int) == 118) = false := by rw [beq_eq_false_iff_ne]; omega
  have e120 : ((s[1].toNat : Int) == 120) = false := by rw [beq_eq_false_iff_ne]; omega
  have e117 : ((s[1].toNat : Int) == 117) = true := by rw [beq_iff_eq]; omega
  obtain ⟨S, hS⟩ : ∃ S, s.extract 2 s.size = S := ⟨_, rfl⟩
  have hSd : s.data.toList.drop 2 = S.data.toList := by rw [← hS, tail_bs0, bs_data]
  have hSz : S.size + 2 = s.size := by rw [← hS, ByteArray.size_extract]; omega
  have hSl : S.data.toList.length = S.size := by simp
  by_cases hshort : S.size < 4
  · have HN := Lib.hid (show UcNo s q from uc_vacno h1 h92 (by omega))
    have hsh : (S.size : Int) < 4 := by omega
    clear hk h92 hq hSd hSl hSz
    go_enter Tryz.func63, Tryz.ntmps63
    go_wp2_with fail
    refine bodyPost_ret (results_tmp4 rfl _ _ _) rfl ?_
    exact uc_no HN.out (Below.refl _ _)
  · have HB := Lib.hid (show ∀ (k : Nat) (hkk : k < S.size) (h2 : k < 4) (x : Int), HexOut (S[k]'hkk) x false → UcNo s q from fun k hkk h2 x hx => uc_vacno h1 h92 (by omega))
    have HO := Lib.hid (show ∀ v, HxInv S 4 v → UcOk s q v true (S.extract 4 S.size) from fun v hv => uc_vac h1 h92 (by omega) (by rw [ByteArray.size_extract]; omega) ⟨hv.1, hv.2.1⟩)
    have HNO := Lib.hid (show UcNo s q ∨ True from .inr trivial)
    have hsh : ¬ (S.size : Int) < 4 := by omega
    have hsh2 : (4 : Int) ≤ S.size := by omega
    have HV := Lib.hid (show 117 = 120 ∨ UcNo s q from .inr (uc_vacno h1 h92 (by omega)))
    clear hk h92 hq hSd hSl hSz
    go_enter Tryz.func63, Tryz.ntmps63
    go_wp2_with fail
    go_loop [14, 13, 7] (fun jv vv ev => ∃ (k : Nat) (v : Int), k ≤ 4 ∧ jv = .int .i64 k ∧ vv = .int .i32 v ∧ ev = .nilIface ∧ HxInv S k v) (fun jv _ _ => 4 - (intOf jv).toNat)
    case atStart => exact ⟨0, 0, by omega, rfl, rfl, rfl, hx_start S⟩
    case round =>
      obtain ⟨k, v, hk, rfl, rfl, rfl, hinv⟩ := hrel
      have hv1 := hinv.1
      have hv2 := hinv.2.1
      by_cases hlt : k < 4
      · have hkS : k < S.size := by omega
        have hkz : (k : Int) < S.size := by omega
        have hlz : (k : Int) < 4 := by omega
        have hST := Lib.hid (fun x (hx : HexOut (S[k]'hkS) x true) => hx_step hkS hinv hx)
        have hBD := Lib.hid (fun x (hx : HexOut (S[k]'hkS) x false) => HB.out k hkS hlt x hx)
        have hun := unhex_any (S[k]'hkS) w
        clear hinv
        go_wp2_with fail
        go_at_call 79
        refine hun.mono ?_
        rintro e w2 ⟨x, ok, rfl, hx, rfl⟩
        have hx0 := hx.1
        have hx1' := hx.2.1
        cases ok with
        | true =>
          have hn := Lib.hid (hST.out x hx)
          clear hx hun
          go_wp2_with fail
          go_round
          case rel => exact ⟨k + 1, _, by omega, by go_num, rfl, rfl, hn.out⟩
          case measure => simp [intOf]; omega
        | false =>
          have hno := Lib.hid (hBD.out x hx)
          clear hx hun
          go_wp2_with fail
          refine bodyPost_ret (results_tmp4 rfl _ _ _) rfl ?_
          exact uc_no hno.out (Below.refl _ _)
      · obtain rfl : k = 4 := by omega
        have hno := Lib.hid (HO.out v hinv)
        clear hinv
        have hvr := Tryz.utf8_ValidRune v w
        generalize Lib.validRune v = vr at *
        go_wp2_with fail
        go_at_call 80
        refine hvr.mono ?_
        rintro e w2 ⟨rfl, rfl⟩
        cases vr with
        | true =>
          go_wp2_with fail
          refine bodyPost_ret (results_tmp4 rfl _ _ _) rfl ?_
          exact uc_ok hno.out (Below.refl _ _)
        | false =>
          have hnn : UcNo s q := by rcases HV.out with h | h; exact absurd h (by decide); exact h
          have HNN := Lib.hid hnn
          clear hnn
          go_wp2_with fail
          refine bodyPost_ret (results_tmp4 rfl _ _ _) rfl ?_
          exact uc_no HNN.out (Below.refl _ _)
set_option maxHeartbeats 2000000 in
set_option maxRecDepth 100000 in
theorem uc_85 (s : ByteArray) (q : UInt8) (w : World) (ht : Glob w) (h1 : 1 < s.size) (hz : s.size ≤ 1000000000) (hq : q.toNat = 34 ∨ q.toNat = 39) (h92 : (s[0]'(by omega)).toNat = 92) (hk : s[1].toNat = 85) :
    Calls Tryz.prog 63 #[.string s, .int .u8 q.toNat] w (UcPost s q w) := by
  obtain ⟨tp, p, herr⟩ := ht.err
  have hp : 0 < s.size := by omega
  have f0 : ((s.size : Int) == 0) = false := by rw [beq_eq_false_iff_ne]; omega
  have g0 : (0 : Int) < s.size := by omega
  have g1 : (1 : Int) < s.size := by omega
  have g2 : (2 : Int) ≤ s.size := by omega
  have n1 : ¬ (s.size : Int) ≤ 1 := by omega
  have fq : (((s[0]'hp).toNat : Int) == q.toNat) = false := by rw [beq_eq_false_iff_ne]; omega
  have f2 : ¬ (128 : Int) ≤ (s[0]'hp).toNat := by omega
  have f3 : (((s[0]'hp).toNat : Int) == 92) = true := by rw [beq_iff_eq]; omega
  have hx1 : s[1].toNat < 256 := s[1].toNat_lt
  have e97 : ((s[1].toNat : Int) == 97) = false := by rw [beq_eq_false_iff_ne]; omega
  have e98 : ((s[1].toNat : Int) == 98) = false := by rw [beq_eq_false_iff_ne]; omega
  have e102 : ((s[1].toNat : Int) == 102) = false := by rw [beq_eq_false_iff_ne]; omega
  have e110 : ((s[1].toNat : Int) == 110) = false := by rw [beq_eq_false_iff_ne]; omega
  have e114 : ((s[1].toNat : Int) == 114) = false := by rw [beq_eq_false_iff_ne]; omega
  have e116 : ((s[1].toNat : Int) == 116) = false := by rw [beq_eq_false_iff_ne]; omega
  have e118 : ((s[1].toNat : Int) == 118) = false := by rw [beq_eq_false_iff_ne]; omega
  have e120 : ((s[1].toNat : Int) == 120) = false := by rw [beq_eq_false_iff_ne]; omega
  have e117 : ((s[1].toNat : Int) == 117) = false := by rw [beq_eq_false_iff_ne]; omega
  have e85 : ((s[1].toNat : Int) == 85) = true := by rw [beq_iff_eq]; omega
  obtain ⟨S, hS⟩ : ∃ S, s.extract 2 s.size = S := ⟨_, rfl⟩
  have hSd : s.data.toList.drop 2 = S.data.toList := by rw [← hS, tail_bs0, bs_data]
  have hSz : S.size + 2 = s.size := by rw [← hS, ByteArray.size_extract]; omega
  have hSl : S.data.toList.length = S.size := by simp
  by_cases hshort : S.size < 8
  · have HN := Lib.hid (show UcNo s q from uc_vacno h1 h92 (by omega))
    have hsh : (S.size : Int) < 8 := by omega
    clear hk h92 hq hSd hSl hSz
    go_enter Tryz.func63, Tryz.ntmps63
    go_wp2_with fail
    refine bodyPost_ret (results_tmp4 rfl _ _ _) rfl ?_
    exact uc_no HN.out (Below.refl _ _)
  · have HB := Lib.hid (show ∀ (k : Nat) (hkk : k < S.size) (h2 : k < 8) (x : Int), HexOut (S[k]'hkk) x false → UcNo s q from fun k hkk h2 x hx => uc_vacno h1 h92 (by omega))
    have HO := Lib.hid (show ∀ v, HxInv S 8 v → UcOk s q v true (S.extract 8 S.size) from fun v hv => uc_vac h1 h92 (by omega) (by rw [ByteArray.size_extract]; omega) ⟨hv.1, hv.2.1⟩)
    have HNO := Lib.hid (show UcNo s q ∨ True from .inr trivial)
    have hsh : ¬ (S.size : Int) < 8 := by omega
    have hsh2 : (8 : Int) ≤ S.size := by omega
    have HV := Lib.hid (show 85 = 120 ∨ UcNo s q from .inr (uc_vacno h1 h92 (by omega)))
    clear hk h92 hq hSd hSl hSz
    go_enter Tryz.func63, Tryz.ntmps63
    go_wp2_with fail
    go_loop [14, 13, 7] (fun jv vv ev => ∃ (k : Nat) (v : Int), k ≤ 8 ∧ jv = .int .i64 k ∧ vv = .int .i32 v ∧ ev = .nilIface ∧ HxInv S k v) (fun jv _ _ => 8 - (intOf jv).toNat)
    case atStart => exact ⟨0, 0, by omega, rfl, rfl, rfl, hx_start S⟩
    case round =>
      obtain ⟨k, v, hk, rfl, rfl, rfl, hinv⟩ := hrel
      have hv1 := hinv.1
      have hv2 := hinv.2.1
      by_cases hlt : k < 8
      · have hkS : k < S.size := by omega
        have hkz : (k : Int) < S.size := by omega
        have hlz : (k : Int) < 8 := by omega
        have hST := Lib.hid (fun x (hx : HexOut (S[k]'hkS) x true) => hx_step hkS hinv hx)
        have hBD := Lib.hid (fun x (hx : HexOut (S[k]'hkS) x false) => HB.out k hkS hlt x hx)
        have hun := unhex_any (S[k]'hkS) w
        clear hinv
        go_wp2_with fail
        go_at_call 79
        refine hun.mono ?_
        rintro e w2 ⟨x, ok, rfl, hx, rfl⟩
        have hx0 := hx.1
        have hx1' := hx.2.1
        cases ok with
        | true =>
          have hn := Lib.hid (hST.out x hx)
          clear hx hun
          go_wp2_with fail
          go_round
          case rel => exact ⟨k + 1, _, by omega, by go_num, rfl, rfl, hn.out⟩
          case measure => simp [intOf]; omega
        | false =>
          have hno := Lib.hid (hBD.out x hx)
          clear hx hun
          go_wp2_with fail
          refine bodyPost_ret (results_tmp4 rfl _ _ _) rfl ?_
          exact uc_no hno.out (Below.refl _ _)
      · obtain rfl : k = 8 := by omega
        have hno := Lib.hid (HO.out v hinv)
        clear hinv
        have hvr := Tryz.utf8_ValidRune v w
        generalize Lib.validRune v = vr at *
        go_wp2_with fail
        go_at_call 80
        refine hvr.mono ?_
        rintro e w2 ⟨rfl, rfl⟩
        cases vr with
        | true =>
          go_wp2_with fail
          refine bodyPost_ret (results_tmp4 rfl _ _ _) rfl ?_
          exact uc_ok hno.out (Below.refl _ _)
        | false =>
          have hnn : UcNo s q := by rcases HV.out with h | h; exact absurd h (by decide); exact h
          have HNN := Lib.hid hnn
          clear hnn
          go_wp2_with fail
          refine bodyPost_ret (results_tmp4 rfl _ _ _) rfl ?_
          exact uc_no HNN.out (Below.refl _ _)
end Go.Proofs.YteccccpjhpbebaaGreatDoor
