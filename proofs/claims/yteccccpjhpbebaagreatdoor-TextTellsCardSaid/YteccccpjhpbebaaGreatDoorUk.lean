/-
  THE REFERENCE: Unquote.
-/
import Derived.Test.YteccccpjhpbebaaGreatDoorUm
namespace Go.Proofs.YteccccpjhpbebaaGreatDoor
open Go.RowKit WireM
set_option linter.unusedVariables false
set_option linter.unusedSimpArgs false

/-- What is left of the bytes between the quotes. -/
def restU (s : ByteArray) (k : Nat) : List UInt8 := (s.data.toList.take (s.size - 1)).drop k
theorem restU_len (s : ByteArray) (k : Nat) : (restU s k).length = s.size - 1 - k := by
  unfold restU; rw [List.length_drop, List.length_take]; simp
theorem restU_cons (s : ByteArray) (k : Nat) (h : k + 1 < s.size) : restU s k = s[k] :: restU s (k + 1) := by
  unfold restU
  rw [List.drop_eq_getElem_cons (by rw [List.length_take]; simp; omega)]
  congr 1
  rw [List.getElem_take]; simp; rfl
theorem restU_end (s : ByteArray) (k : Nat) (h : s.size ≤ k + 1) : restU s k = [] := List.eq_nil_of_length_eq_zero (by rw [restU_len]; omega)
theorem st_plain (s : ByteArray) (k : Nat) (h : k + 1 < s.size) (h1 : s[k].toNat ≠ 92) : rdq (restU s k) = s[k] :: rdq (restU s (k + 1)) := by
  rw [restU_cons s k h, rdq_plain _ _ h1]
theorem st_last (s : ByteArray) (k : Nat) (h : k + 1 < s.size) (h1 : s[k].toNat = 92) (h2 : s.size ≤ k + 2) : rdq (restU s k) = s[k] :: rdq (restU s (k + 1)) := by
  have e : s[k] = 92 := UInt8.toNat_inj.1 h1
  rw [restU_cons s k h, restU_end s (k + 1) (by omega), e, rdq_end, rdq]
theorem st_lf (s : ByteArray) (k : Nat) (h : k + 2 < s.size) (h1 : s[k].toNat = 92) (h2 : s[k + 1].toNat = 110) : rdq (restU s k) = 10 :: rdq (restU s (k + 2)) := by
  have e : s[k] = 92 := UInt8.toNat_inj.1 h1
  rw [restU_cons s k (by omega), restU_cons s (k + 1) (by omega), e, rdq_lf _ _ h2]
theorem st_hex (s : ByteArray) (k : Nat) (h : k + 4 < s.size) (h1 : s[k].toNat = 92) (h2 : s[k + 1].toNat = 120) : rdq (restU s k) = UInt8.ofNat (hexv s[k + 1 + 1] * 16 + hexv s[k + 1 + 1 + 1]) :: rdq (restU s (k + 4)) := by
  have e : s[k] = 92 := UInt8.toNat_inj.1 h1
  rw [restU_cons s k (by omega), restU_cons s (k + 1) (by omega), e, rdq_hex _ _ h2 (by rw [restU_len]; omega), restU_cons s (k + 1 + 1) (by omega), restU_cons s (k + 1 + 1 + 1) (by omega)]
  rfl
theorem st_esc (s : ByteArray) (k : Nat) (h : k + 2 < s.size) (h1 : s[k].toNat = 92) (h2 : s[k + 1].toNat ≠ 110) (h3 : ¬ (s[k + 1].toNat = 120 ∧ k + 4 < s.size)) : rdq (restU s k) = s[k + 1] :: rdq (restU s (k + 2)) := by
  have e : s[k] = 92 := UInt8.toNat_inj.1 h1
  rw [restU_cons s k (by omega), restU_cons s (k + 1) (by omega), e, rdq_esc _ _ h2 (by rw [restU_len]; rintro ⟨a, b⟩; exact h3 ⟨a, by omega⟩)]
theorem inner_quote (s : ByteArray) (t : List UInt8) (h : quote t = s.data.toList) : rdq (restU s 1) = t := by
  have hl : s.size = (qs t).length + 2 := by
    have := congrArg List.length h
    simp only [quote, List.length_cons, List.length_append, List.length_nil] at this
    have e : s.data.toList.length = s.size := by simp
    omega
  have e : restU s 1 = qs t := by
    unfold restU
    rw [← h, hl]
    show ((34 :: (qs t ++ [34])).take ((qs t).length + 1)).drop 1 = qs t
    rw [List.take_succ_cons]
    show (qs t ++ [34]).take (qs t).length = qs t
    exact List.take_left
  rw [e, rdq_qs]
theorem hexv_lt (c : UInt8) : hexv c < 16 := by
  unfold hexv
  split
  · omega
  · split
    · omega
    · omega
theorem BufAt.step {w wr w2 : World} {L : List UInt8} {v : Value} (h : BufAt w L v wr) (hb : Below wr.heap.size wr w2) : BufAt w L v w2 :=
  ⟨h.1.kept (grownBy_of_below hb) (by cases hv : v.ownBlock <;> simp), below_step h.2 hb⟩
/-- What the loop holds. -/
def UqAt (s : ByteArray) (w : World) (k : Nat) (v : Value) (wr : World) : Prop :=
  ∃ acc, BufAt w acc v wr ∧ acc.length ≤ k ∧ rdq (restU s 1) = acc ++ rdq (restU s k)
theorem uq_step {s : ByteArray} {w w3 : World} {k n : Nat} {acc : List UInt8} {c : UInt8} {v : Value} (hr : rdq (restU s 1) = acc ++ rdq (restU s k)) (h : rdq (restU s k) = c :: rdq (restU s (k + n))) (hb : BufAt w (acc ++ [c]) v w3) (hn : 1 ≤ n) (hl : acc.length ≤ k) : UqAt s w (k + n) v w3 :=
  ⟨_, hb, by rw [List.length_append, List.length_singleton]; omega, by rw [hr, h, List.append_assoc]; rfl⟩
/-- What the reference's Unquote returns. -/
def RuPost (s : ByteArray) (w : World) (e : Ending) (w' : World) : Prop :=
  ∃ (t : ByteArray) (b : Bool), e = .returned (.tuple #[.string t, .bool b]) ∧ UnqIs s.data.toList t.data.toList b ∧ Below w.heap.size w w'
set_option maxHeartbeats 4000000 in
set_option maxRecDepth 100000 in
theorem runquote_any (s : ByteArray) (hs : s.size ≤ 100000000) (w : World) :
    Calls Tryz.prog 8 #[.string s] w (RuPost s w) := by
  have hst : UqAt s w 1 (.slice none 0 0) w := ⟨[], ⟨World.ownsRow_nil _ _ _ _, Below.refl _ _⟩, by simp, rfl⟩
  have hsz : (s.size : Int) ≤ 100000000 := by omega
  go_enter Tryz.func8, Tryz.ntmps8
  go_wp2_with fail
  go_loopw [5, 4, 6] (fun i v c wr => ∃ k : Nat, 1 ≤ k ∧ k ≤ 100000001 ∧ i = .int .i64 k ∧ UqAt s w k v wr) (fun i _ _ _ => s.size - (intOf i).toNat)
  case atStart => exact ⟨1, Nat.le_refl _, by omega, rfl, hst⟩
  case round =>
    obtain ⟨k, hk1, hk2, rfl, acc, hb, hacc, hr⟩ := hrel
    clear hst
    have HR := Lib.hid hr
    clear hr
    by_cases hlt : k + 1 < s.size
    · have hlz : (k : Int) < (s.size : Int) - 1 := by omega
      have hk0 : (k : Int) < s.size := by omega
      have hk0n : k < s.size := by omega
      by_cases h92 : s[k].toNat = 92
      · have f1 : ((s[k].toNat : Int) == 92) = true := by rw [beq_iff_eq]; omega
        by_cases hl2 : k + 2 < s.size
        · have g1 : (k : Int) + 1 < (s.size : Int) - 1 := by omega
          have g1' : (k : Int) + 1 < s.size := by omega
          have g1n : k + 1 < s.size := by omega
          by_cases h110 : s[k + 1].toNat = 110
          · have f2 : ((s[k + 1].toNat : Int) == 110) = true := by rw [beq_iff_eq]; omega
            have HS := Lib.hid (st_lf s k hl2 h92 h110)
            clear h92 h110 hl2 hlt
            go_wp2_with (at_builtin; refine append_buf rfl _ _ rfl [10] hb #[.int .u8 10] 1 rfl rfl rfl rfl (by omega) ?_; intro v' w3 hb3)
            have hfd := uq_step HR.out HS.out hb3 (by omega) hacc
            clear hb hb3
            go_wp2_with fail
            go_roundw
            case rel => exact ⟨k + 2, by omega, by omega, by go_num, hfd⟩
            case measure => simp [intOf]; omega
          · have f2 : ((s[k + 1].toNat : Int) == 110) = false := by rw [beq_eq_false_iff_ne]; omega
            by_cases hx : s[k + 1].toNat = 120 ∧ k + 4 < s.size
            · obtain ⟨h120, hl4⟩ := hx
              have f3 : ((s[k + 1].toNat : Int) == 120) = true := by rw [beq_iff_eq]; omega
              have HS := Lib.hid (st_hex s k hl4 h92 h120)
              have g3 : (k : Int) + 1 + 1 + 1 < (s.size : Int) - 1 := by omega
              have g2 : (k : Int) + 1 + 1 < s.size := by omega
              have g3' : (k : Int) + 1 + 1 + 1 < s.size := by omega
              have g2n : k + 1 + 1 < s.size := by omega
              have g3n : k + 1 + 1 + 1 < s.size := by omega
              have ha := hexv_lt s[k + 1 + 1]
              have hbb := hexv_lt s[k + 1 + 1 + 1]
              have hdg : ∀ (c : UInt8) (W : World), Calls Tryz.prog 30 #[.int .u8 c.toNat] W fun e w' => e = .returned (.int .u8 (hexv c)) ∧ ∃ n, w' = W.drewN n := fun c W => (rdigit_any c W).mono fun e w' h => ⟨h.1, 0, h.2.symm⟩
              generalize hc1 : s[k + 1 + 1] = c1 at *
              generalize hc2 : s[k + 1 + 1 + 1] = c2 at *
              have HC := Lib.hid (show (UInt8.ofNat (hexv c1 * 16 + hexv c2)).toNat = hexv c1 * 16 + hexv c2 by rw [UInt8.toNat_ofNat']; omega)
              generalize UInt8.ofNat (hexv c1 * 16 + hexv c2) = cc at *
              have HDG := Lib.hid hdg
              clear h92 h110 h120 hdg
              go_wp2_with fail
              have n0 : (0 : Int) ≤ (k : Int) + 1 + 1 := by omega
              have n1 : (0 : Int) ≤ (k : Int) + 1 + 1 + 1 := by omega
              have wr0 : IntKind.i64.wrap ((k : Int) + 1 + 1 + 1) = (k : Int) + 1 + 1 + 1 := IntWalk.i64_in _ (by omega)
              have wr1 : IntKind.u8.wrap ((hexv c1 : Int) * 16) = (hexv c1 : Int) * 16 := by rw [IntWalk.u8_in _ (by omega)]
              have wr2 : IntKind.u8.wrap ((hexv c1 : Int) * 16 + hexv c2) = (hexv c1 : Int) * 16 + hexv c2 := by rw [IntWalk.u8_in _ (by omega)]
              have t0 : ((k : Int) + 1 + 1).toNat = k + 1 + 1 := by omega
              have t1 : ((k : Int) + 1 + 1 + 1).toNat = k + 1 + 1 + 1 := by omega
              go_quiet ((go_at_call 30; exact Calls.quiet_of (HDG.out _ _)))
              clear n0 n1 wr0 wr1 wr2 t0 t1
              have HN := Lib.hid (show (#[Value.int .u8 ((hexv c1 : Int) * 16 + hexv c2)] : Array Value).toList = Lib.byteCells [cc] by
                show [Value.int .u8 ((hexv c1 : Int) * 16 + hexv c2)] = [Value.int .u8 (cc.toNat : Int)]
                rw [HC.out, Int.natCast_add, Int.natCast_mul]; rfl)
              go_wp2_with (at_builtin; refine append_buf rfl _ _ rfl [cc] (hb.step (Go.below_drewN (Below.refl _ _) _)) #[.int .u8 ((hexv c1 : Int) * 16 + hexv c2)] 1 rfl rfl rfl HN.out (by omega) ?_; intro v' w3 hb3)
              have hfd := uq_step HR.out HS.out hb3 (by omega) hacc
              clear hb hb3
              go_wp2_with fail
              go_roundw
              case rel => exact ⟨k + 4, by omega, by omega, by go_num, hfd⟩
              case measure => simp [intOf]; omega
            · have HS := Lib.hid (st_esc s k hl2 h92 h110 hx)
              generalize hd : s[k + 1] = d at *
              have key : ((d.toNat : Int) == 120) = false ∨ (((d.toNat : Int) == 120) = true ∧ ¬ (k : Int) + 3 < (s.size : Int) - 1) := by
                by_cases e : d.toNat = 120
                · right
                  refine ⟨by rw [beq_iff_eq]; omega, ?_⟩
                  intro h; exact hx ⟨e, by omega⟩
                · left; rw [beq_eq_false_iff_ne]; omega
              have HD := Lib.hid hd
              clear h92 h110 hx
              rcases key with f3 | ⟨f3, f4⟩
              all_goals
                go_wp2_with (at_builtin; refine append_buf rfl _ _ rfl [d] hb #[.int .u8 d.toNat] 1 rfl rfl rfl rfl (by omega) ?_; intro v' w3 hb3)
                have hfd := uq_step HR.out HS.out hb3 (by omega) hacc
                clear hb hb3
                go_wp2_with fail
                go_roundw
                case rel => exact ⟨k + 2, by omega, by omega, by go_num, hfd⟩
                case measure => simp [intOf]; omega
        · have g1 : ¬ (k : Int) + 1 < (s.size : Int) - 1 := by omega
          have HS := Lib.hid (st_last s k hlt h92 (by omega))
          generalize hc : s[k] = c at *
          have HC := Lib.hid hc
          clear h92 hl2
          go_wp2_with (at_builtin; refine append_buf rfl _ _ rfl [c] hb #[.int .u8 c.toNat] 1 rfl rfl rfl rfl (by omega) ?_; intro v' w3 hb3)
          have hfd := uq_step HR.out HS.out hb3 (by omega) hacc
          clear hb hb3
          go_wp2_with fail
          go_roundw
          case rel => exact ⟨k + 1, by omega, by omega, by go_num, hfd⟩
          case measure => simp [intOf]; omega
      · have f1 : ((s[k].toNat : Int) == 92) = false := by rw [beq_eq_false_iff_ne]; omega
        have HS := Lib.hid (st_plain s k hlt h92)
        generalize hc : s[k] = c at *
        have HC := Lib.hid hc
        clear h92
        go_wp2_with (at_builtin; refine append_buf rfl _ _ rfl [c] hb #[.int .u8 c.toNat] 1 rfl rfl rfl rfl (by omega) ?_; intro v' w3 hb3)
        have hfd := uq_step HR.out HS.out hb3 (by omega) hacc
        clear hb hb3
        go_wp2_with fail
        go_roundw
        case rel => exact ⟨k + 1, by omega, by omega, by go_num, hfd⟩
        case measure => simp [intOf]; omega
    · have hlz : ¬ (k : Int) < (s.size : Int) - 1 := by omega
      have HA := Lib.hid (show rdq (restU s 1) = acc by rw [HR.out, restU_end s k (by omega), rdq, List.append_nil])
      have hcv := buf_string hb
      have hal : (bs acc).size ≤ 1000000000 := by rw [bs_size]; omega
      by_cases hq : quote acc = s.data.toList
      · have h1 : ((bs (quote acc)).toList == s.toList) = true := by rw [bs_eq]; simp [hq]
        have h1n : ((bs (quote acc)).toList != s.toList) = false := by unfold bne; rw [h1]; rfl
        have HQ := Lib.hid hq
        clear hq
        go_wp2_with fail
        go_at_call 12
        refine (rquote_any (bs acc) hal _).mono ?_
        rintro e w2 ⟨rfl, b2⟩
        rw [bs_data]
        have hb2 := hb.step b2
        have hcv2 := buf_string hb2
        go_wp2_with fail
        go_ret2
        exact ⟨bs acc, true, rfl, .inl ⟨rfl, HQ.out⟩, hb2.2⟩
      · have h1 : ((bs (quote acc)).toList == s.toList) = false := by rw [bs_eq]; simp [hq]
        have h1n : ((bs (quote acc)).toList != s.toList) = true := by unfold bne; rw [h1]; rfl
        have HQ := Lib.hid (show ∀ t, quote t ≠ s.data.toList from fun t h => hq (by rw [← HA.out, inner_quote s t h]; exact h))
        clear hq
        go_wp2_with fail
        go_at_call 12
        refine (rquote_any (bs acc) hal _).mono ?_
        rintro e w2 ⟨rfl, b2⟩
        rw [bs_data]
        have hb2 := hb.step b2
        go_wp2_with fail
        go_ret2
        exact ⟨⟨#[]⟩, false, rfl, .inr ⟨rfl, rfl, HQ.out⟩, hb2.2⟩
end Go.Proofs.YteccccpjhpbebaaGreatDoor
