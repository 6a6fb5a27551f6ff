/-
  THE REFERENCE OF LAYER 3: Write, Sync, Truncate, Arm.
-/
import Derived.Test.YtdejajpmebgidaaDoorHl
namespace Go.Proofs.YtdejajpmebgidaaDoor
open Go.RowKit Go.Maps WireM DiskM
set_option linter.unusedVariables false
set_option linter.unusedSimpArgs false
set_option maxRecDepth 100000

theorem chk_iff (f a : Int) (n : Nat) : chk f a n = 0 ↔ (isF f ∧ 0 ≤ a ∧ a + n ≤ 16777216) := by
  unfold chk
  constructor
  · intro h
    split at h
    · cases h
    · rename_i h1
      split at h
      · cases h
      · exact ⟨Classical.byContradiction fun h2 => h1 (.inl h2), by omega, by omega⟩
  · rintro ⟨h1, h2, h3⟩
    rw [if_neg (by rintro (h | h); exact h h1; omega), if_neg (by omega)]
theorem tick_same {s : St} (h : s.down = true ∨ s.armed = 0) (hd : ¬ s.down = true) : s.tick = s := by
  have h := h.resolve_left hd
  obtain ⟨a1, a2, a3, a4, a5, a6, a7⟩ := s
  simp only at h; subst h; rfl
theorem crash_is_down {s : St} (k : List Int) : (s.crash k).down = true := by
  unfold St.crash
  split
  · assumption
  · rfl
theorem inv_comes {s : St} (h : Inv s) (f a : Int) (t : List UInt8) : Inv (comesS s f a t) := by
  unfold comesS
  split
  · exact h
  split
  · split
    · rename_i hc
      exact inv_crash (inv_tick (inv_rput h hc.1 hc.2.1 hc.2.2)) _
    · exact inv_crash (inv_tick h) _
  · exact inv_tick h
theorem write_eq (s : St) (f a : Int) (t : List UInt8) : s.write f a t =
    if mayE (comesS s f a t) f ≠ 0 then (comesS s f a t, mayE (comesS s f a t) f) else if a < 0 then (comesS s f a t, 1) else if ¬ (0 ≤ a ∧ a + t.length ≤ 16777216) then (comesS s f a t, 6) else (rput (comesS s f a t) f a t, 0) := by
  have hput : (if chk f a t.length = 0 ∧ t ≠ [] then s.add f a.toNat t else s) = if isF f ∧ 0 ≤ a ∧ a + (t.length : Int) ≤ 16777216 then rput s f a t else s := by
    unfold rput
    by_cases hc : isF f ∧ 0 ≤ a ∧ a + (t.length : Int) ≤ 16777216
    · rw [if_pos hc]
      by_cases ht : t = []
      · rw [if_pos ht, if_neg (fun h => h.2 ht)]
      · rw [if_neg ht, if_pos ⟨(chk_iff _ _ _).2 hc, ht⟩]
    · rw [if_neg hc, if_neg (fun h => hc ((chk_iff _ _ _).1 h.1))]
  unfold St.write
  by_cases hd : s.down = true
  · have e : comesS s f a t = s := by unfold comesS; rw [if_pos hd]
    have e2 : mayE s f = 9 := by unfold mayE; rw [if_pos hd]
    rw [e, e2, if_pos hd, if_pos (by decide)]
  rw [if_neg hd, hput]
  have hc1 : s.armed = 1 → comesS s f a t = (if isF f ∧ 0 ≤ a ∧ a + (t.length : Int) ≤ 16777216 then rput s f a t else s).tick.crash s.keep := fun h1 => by unfold comesS; rw [if_neg hd, if_pos h1]
  have hc2 : ¬ s.armed = 1 → comesS s f a t = s.tick := fun h1 => by unfold comesS; rw [if_neg hd, if_neg h1]
  obtain ⟨P, hP⟩ : ∃ P, P = (if isF f ∧ 0 ≤ a ∧ a + (t.length : Int) ≤ 16777216 then rput s f a t else s) := ⟨_, rfl⟩
  have p1 : isF f ∧ 0 ≤ a ∧ a + (t.length : Int) ≤ 16777216 → P = rput s f a t := fun h => by rw [hP, if_pos h]
  have p2 : ¬ (isF f ∧ 0 ≤ a ∧ a + (t.length : Int) ≤ 16777216) → P = s := fun h => by rw [hP, if_neg h]
  have ha : P.armed = s.armed := by
    rw [hP]; split
    · exact rput_armed _ _ _ _
    · rfl
  have hk : P.keep = s.keep := by
    rw [hP]; split
    · exact rput_keep _ _ _ _
    · rfl
  rw [← hP] at hc1 ⊢
  clear hP hput
  unfold St.strike
  rw [ha, hk]
  by_cases h1 : s.armed = 1
  · rw [if_pos h1, hc1 h1]
    have e2 : mayE (P.tick.crash s.keep) f = 9 := by unfold mayE; rw [if_pos (crash_is_down _)]
    rw [e2, if_pos (by decide)]
  · rw [if_neg h1, hc2 h1]
    have e2 : mayE s.tick f = if isF f then 0 else 1 := by unfold mayE; rw [if_neg (show ¬ s.tick.down = true from hd)]
    by_cases hf : isF f
    · rw [if_pos hf] at e2
      rw [e2, if_neg (fun h => h rfl)]
      by_cases h0 : a < 0
      · rw [if_pos h0, p2 (by omega)]
        unfold chk; rw [if_pos (.inr h0)]
      · rw [if_neg h0]
        by_cases hc : 0 ≤ a ∧ a + (t.length : Int) ≤ 16777216
        · rw [if_neg (fun h => h hc), p1 ⟨hf, hc⟩, (chk_iff _ _ _).2 ⟨hf, hc⟩, rput_tick]
        · rw [if_pos hc, p2 (fun h => hc h.2)]
          unfold chk
          rw [if_neg (by rintro (h | h); exact h hf; exact h0 h), if_pos (by omega)]
    · rw [if_neg hf] at e2
      rw [e2, if_pos (by decide), p2 (fun h => hf h.1)]
      unfold chk; rw [if_pos (.inl hf)]
theorem begin_eq (s : St) (f : Int) : s.begin f = (comesS s 0 0 [], mayE (comesS s 0 0 []) f) := by
  unfold St.begin
  by_cases hd : s.down = true
  · have e : comesS s 0 0 [] = s := by unfold comesS; rw [if_pos hd]
    rw [e, if_pos hd]
    unfold mayE; rw [if_pos hd]
  rw [if_neg hd]
  unfold St.strike
  by_cases h1 : s.armed = 1
  · have e : comesS s 0 0 [] = s.tick.crash s.keep := by unfold comesS rput; rw [if_neg hd, if_pos h1]; simp
    rw [if_pos h1, e]
    unfold mayE; rw [if_pos (crash_is_down _)]
  · have e : comesS s 0 0 [] = s.tick := by unfold comesS; rw [if_neg hd, if_neg h1]
    rw [if_neg h1, e]
    unfold mayE; rw [if_neg (show ¬ s.tick.down = true from hd)]
set_option maxHeartbeats 8000000 in
theorem rwrite_any {w : World} {r : Nat} {s : St} {q : RP} (h : RIs w r s q) (f a : Int) (t : ByteArray) (ha : InI a) (ht : t.size ≤ 1099511627776) :
    Calls Tryd.prog 29 #[.pointer (some ⟨r, 0, none⟩), .int .i64 f, .int .i64 a, .string t] w fun e w' => e = .returned (.int .i64 (s.write f a t.data.toList).2) ∧ R0Turn w r q (s.write f a t.data.toList).1 w' := by
  have CM := Lib.hid (comes_any h.toR0 h.inv f a t ha ht)
  have hI := inv_comes h.inv f a t.data.toList
  rw [write_eq]
  have tl : t.data.toList.length = t.size := rfl
  rw [tl]
  generalize comesS s f a t.data.toList = s1 at *
  have HI := Lib.hid hI
  have FT := Lib.hid (fun W => fits_any a t W ha ht)
  clear h hI
  by_cases hm : mayE s1 f = 0
  · have hf : isF f := by
      unfold mayE at hm
      split at hm
      · cases hm
      · split at hm
        · assumption
        · cases hm
    rw [if_neg (fun h => h hm)]
    by_cases h0 : a < 0
    · rw [if_pos h0]
      go_enter Tryd.func29, Tryd.ntmps29
      go_wp2_with (first
        | (go_at_call 47; refine CM.out.mono ?_; rintro e w1 ⟨rfl, t1⟩; have T1 := Lib.hid t1; obtain ⟨q1, h1, k1⟩ := t1; have MY := Lib.hid (may_any h1 f); rw [hm] at MY; clear h1 k1 CM)
        | (go_at_call 41; refine MY.out.mono ?_; rintro e w2 ⟨rfl, rfl⟩; clear MY))
      go_ret
      exact ⟨rfl, T1.out⟩
    rw [if_neg h0]
    by_cases hft : 0 ≤ a ∧ a + (t.size : Int) ≤ 16777216
    · rw [if_neg (fun h => h hft)]
      rw [decide_eq_true hft] at FT
      have AD := Lib.hid (fun W q1 (h1 : R0 W r s1 q1) => radd1_any h1 HI.out f hf a t hft.1 hft.2)
      have HM := Lib.hid hm
      clear hft hf hm
      go_enter Tryd.func29, Tryd.ntmps29
      go_wp2_with (first
        | (go_at_call 47; refine CM.out.mono ?_; rintro e w1 ⟨rfl, t1⟩; obtain ⟨q1, h1, k1⟩ := t1; have K1 := Lib.hid k1; have A1 := Lib.hid (AD.out w1 q1 h1); have MY := Lib.hid (may_any h1 f); rw [HM.out] at MY; clear h1 k1 CM AD)
        | (go_at_call 41; refine MY.out.mono ?_; rintro e w2 ⟨rfl, rfl⟩; clear MY)
        | (go_at_call 48; refine (FT.out _).mono ?_; rintro e w3 ⟨rfl, rfl⟩; clear FT)
        | (go_at_call 49; refine A1.out.mono ?_; rintro e w4 ⟨rfl, t4⟩; have T4 := Lib.hid (R0Turn.step K1.out t4); clear t4 A1))
      go_ret
      exact ⟨rfl, T4.out⟩
    · rw [if_pos hft]
      rw [decide_eq_false hft] at FT
      have HM := Lib.hid hm
      clear hft hf hm
      go_enter Tryd.func29, Tryd.ntmps29
      go_wp2_with (first
        | (go_at_call 47; refine CM.out.mono ?_; rintro e w1 ⟨rfl, t1⟩; have T1 := Lib.hid t1; obtain ⟨q1, h1, k1⟩ := t1; have MY := Lib.hid (may_any h1 f); rw [HM.out] at MY; clear h1 k1 CM)
        | (go_at_call 41; refine MY.out.mono ?_; rintro e w2 ⟨rfl, rfl⟩; clear MY)
        | (go_at_call 48; refine (FT.out _).mono ?_; rintro e w3 ⟨rfl, rfl⟩; clear FT))
      go_ret
      exact ⟨rfl, T1.out⟩
  · rw [if_pos hm]
    have MY0 := Lib.hid (fun W q1 (h1 : R0 W r s1 q1) => may_any h1 f)
    have hz : (mayE s1 f != 0) = true := by simpa using hm
    generalize mayE s1 f = z at *
    clear hm
    go_enter Tryd.func29, Tryd.ntmps29
    go_wp2_with (first
      | (go_at_call 47; refine CM.out.mono ?_; rintro e w1 ⟨rfl, t1⟩; have T1 := Lib.hid t1; obtain ⟨q1, h1, k1⟩ := t1; have MY := Lib.hid (MY0.out w1 q1 h1); clear h1 k1 CM MY0)
      | (go_at_call 41; refine MY.out.mono ?_; rintro e w2 ⟨rfl, rfl⟩; clear MY))
    go_ret
    exact ⟨rfl, T1.out⟩
set_option maxHeartbeats 8000000 in
theorem rsync_any {w : World} {r : Nat} {s : St} {q : RP} (h : RIs w r s q) (f : Int) :
    Calls Tryd.prog 35 #[.pointer (some ⟨r, 0, none⟩), .int .i64 f] w fun e w' => e = .returned (.int .i64 (s.sync f).2) ∧ R0Turn w r q (s.sync f).1 w' := by
  have CM := Lib.hid (comes_any h.toR0 h.inv 0 0 ⟨#[]⟩ (by unfold InI; omega) (by show (0 : Nat) ≤ _; omega))
  have hI := inv_comes h.inv 0 0 []
  have e0 : (⟨#[]⟩ : ByteArray).data.toList = [] := rfl
  rw [e0] at CM
  unfold St.sync
  rw [begin_eq]
  simp only
  generalize comesS s 0 0 [] = s1 at *
  have HI := Lib.hid hI
  have hlb := hI.lostb
  clear h hI e0
  by_cases hm : mayE s1 f = 0
  · have hf : isF f := by
      unfold mayE at hm
      split at hm
      · cases hm
      · split at hm
        · assumption
        · cases hm
    rw [if_neg (fun h => h hm)]
    have HM := Lib.hid hm
    by_cases hl : 0 < s1.lost
    · rw [if_pos hl]
      obtain ⟨n, hn⟩ : ∃ n, s1.lost = n + 1 := ⟨s1.lost - 1, by omega⟩
      have NX := Lib.hid (show ∀ W q1, R0 W r s1 q1 → W.cell? ⟨r, 2, none⟩ = some (.int .i64 ((n : Int) + 1)) ∧ W.frozen? ⟨r, 2, none⟩ = false ∧ Hid (R0Turn W r q1 { s1 with lost := s1.lost - 1 } (W.setCell ⟨r, 2, none⟩ (.int .i64 (n : Int)))) from fun W q1 h1 => by
        refine ⟨by rw [h1.c2, hn]; rfl, h1.fz 2, Lib.hid (R0Turn.field h1 { s1 with lost := s1.lost - 1 } 2 (.int .i64 (n : Int)) ?_ rfl rfl rfl h1.kp)⟩
        simp [rcells, hn])
      have g1 : (0 : Int) < (n : Int) + 1 := by omega
      have w1 : wrap64 (n : Int) = (n : Int) := by unfold wrap64; omega
      clear hl hn hf hm hlb
      go_enter Tryd.func35, Tryd.ntmps35
      go_wp2_with (first
        | (go_at_call 47; refine CM.out.mono ?_; rintro e w1 ⟨rfl, t1⟩; obtain ⟨q1, h1, k1⟩ := t1; have K1 := Lib.hid k1; have MY := Lib.hid (may_any h1 f); rw [HM.out] at MY; obtain ⟨c2, f2, T2⟩ := NX.out w1 q1 h1; clear h1 k1 CM NX)
        | (go_at_call 41; refine MY.out.mono ?_; rintro e w2 ⟨rfl, rfl⟩; clear MY))
      go_ret
      exact ⟨rfl, R0Turn.step K1.out T2.out⟩
    · rw [if_neg hl]
      have hl0 : s1.lost = 0 := by omega
      have NX := Lib.hid (show ∀ W q1, R0 W r s1 q1 → W.cell? ⟨r, 2, none⟩ = some (.int .i64 0) ∧ Hid (Calls Tryd.prog 42 #[.pointer (some ⟨r, 0, none⟩), .int .i64 f] W fun e w' => e = .returned (.agg #[.int .i64 f, .string (bs (s1.now f)), .string (bs (s1.last f))]) ∧ Below W.heap.size W w') ∧ Hid (∀ w2, Below W.heap.size W w2 → Calls Tryd.prog 52 #[.pointer (some ⟨r, 0, none⟩), .int .i64 f, .string (bs (s1.now f))] w2 fun e w' => e = .returned (.tuple #[]) ∧ R0Turn W r q1 (s1.synced f) w') from fun W q1 h1 => by
        refine ⟨by rw [h1.c2, hl0]; rfl, Lib.hid (get_any h1 f), Lib.hid (fun w2 hb => ?_)⟩
        refine (settle_any (h1.below hb) f (s1.now f) hf (pend_bound HI.out)).mono ?_
        rintro e w' ⟨rfl, t3⟩
        refine ⟨rfl, R0Turn.step (RStep.below hb) ?_⟩
        rw [upd_self] at t3
        exact t3)
      generalize bs (s1.now f) = N at *
      generalize bs (s1.last f) = M at *
      have fo := field_one (.int .i64 f) (.string N) (.string M)
      clear hl hl0 hf hm hlb
      go_enter Tryd.func35, Tryd.ntmps35
      go_wp2_with (first
        | (go_at_call 47; refine CM.out.mono ?_; rintro e w1 ⟨rfl, t1⟩; obtain ⟨q1, h1, k1⟩ := t1; have K1 := Lib.hid k1; have MY := Lib.hid (may_any h1 f); rw [HM.out] at MY; obtain ⟨c2, GG, SS⟩ := NX.out w1 q1 h1; clear h1 k1 CM NX)
        | (go_at_call 41; refine MY.out.mono ?_; rintro e w2 ⟨rfl, rfl⟩; clear MY)
        | (go_at_call 42; refine GG.out.mono ?_; rintro e w3 ⟨rfl, b3⟩; have S3 := Lib.hid (SS.out w3 b3); clear b3 GG SS)
        | (go_at_call 52; refine S3.out.mono ?_; rintro e w4 ⟨rfl, t4⟩; have T4 := Lib.hid (R0Turn.step K1.out t4); clear t4 S3))
      go_ret
      exact ⟨rfl, T4.out⟩
  · rw [if_pos hm]
    have MY0 := Lib.hid (fun W q1 (h1 : R0 W r s1 q1) => may_any h1 f)
    have hz : (mayE s1 f != 0) = true := by simpa using hm
    generalize mayE s1 f = z at *
    clear hm hlb
    go_enter Tryd.func35, Tryd.ntmps35
    go_wp2_with (first
      | (go_at_call 47; refine CM.out.mono ?_; rintro e w1 ⟨rfl, t1⟩; have T1 := Lib.hid t1; obtain ⟨q1, h1, k1⟩ := t1; have MY := Lib.hid (MY0.out w1 q1 h1); clear h1 k1 CM MY0)
      | (go_at_call 41; refine MY.out.mono ?_; rintro e w2 ⟨rfl, rfl⟩; clear MY))
    go_ret
    exact ⟨rfl, T1.out⟩
end Go.Proofs.YtdejajpmebgidaaDoor
