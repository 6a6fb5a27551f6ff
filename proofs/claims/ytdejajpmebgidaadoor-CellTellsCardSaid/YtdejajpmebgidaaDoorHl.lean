/-
  THE REFERENCE OF LAYER 3: comes, Write, Sync, Truncate, Arm.
-/
import Derived.Test.YtdejajpmebgidaaDoorHk
namespace Go.Proofs.YtdejajpmebgidaaDoor
open Go.RowKit Go.Maps WireM DiskM
set_option linter.unusedVariables false
set_option linter.unusedSimpArgs false
set_option maxRecDepth 100000

def rput (s : St) (f a : Int) (t : List UInt8) : St := if t = [] then s else s.add f a.toNat t
theorem rput_tick (s : St) (f a : Int) (t : List UInt8) : rput s.tick f a t = (rput s f a t).tick := by unfold rput; split <;> rfl
theorem rput_keep (s : St) (f a : Int) (t : List UInt8) : (rput s f a t).keep = s.keep := by unfold rput; split <;> rfl
theorem rput_armed (s : St) (f a : Int) (t : List UInt8) : (rput s f a t).armed = s.armed := by unfold rput; split <;> rfl
theorem rput_down (s : St) (f a : Int) (t : List UInt8) : (rput s f a t).down = s.down := by unfold rput; split <;> rfl
theorem inv_rput {s : St} (h : Inv s) {f a : Int} {t : List UInt8} (hf : isF f) (h0 : 0 ≤ a) (h1 : a + t.length ≤ 16777216) : Inv (rput s f a t) := by
  unfold rput
  split
  · exact h
  · rename_i ht; exact inv_add h hf ht (by omega)
theorem radd1_any {w : World} {r : Nat} {s : St} {q : RP} (h : R0 w r s q) (hI : Inv s) (f : Int) (hf : isF f) (a : Int) (t : ByteArray) (h0 : 0 ≤ a) (hcap : a + t.size ≤ 16777216) :
    Calls Tryd.prog 49 #[.pointer (some ⟨r, 0, none⟩), .int .i64 f, .int .i64 a, .string t] w fun e w' => e = .returned (.tuple #[]) ∧ R0Turn w r q (rput s f a t.data.toList) w' := by
  by_cases ht : t.data.toList = []
  · have e := bytes_nil t ht
    subst e
    have FIN := Lib.hid (show R0Turn w r q (rput s f a (⟨#[]⟩ : ByteArray).data.toList) w by unfold rput; rw [if_pos rfl]; exact R0Turn.refl h)
    clear h
    go_enter Tryd.func49, Tryd.ntmps49
    go_wp2
    first | go_end0 | (simp only [Exit.inBlock, Exit.then]; refine bodyPost_ret (results_none rfl _ _ _) rfl ?_) | refine bodyPost_ret (results_none rfl _ _ _) rfl ?_
    exact ⟨rfl, FIN.out⟩
  · obtain ⟨x, rfl⟩ : ∃ x : Nat, a = x := ⟨a.toNat, by omega⟩
    have := radd_any h f hf x t ht (by omega) (hI.cap f) (pend_bound hI)
    unfold rput
    rw [if_neg ht, Int.toNat_natCast]
    exact this
theorem keep_src {w : World} {r : Nat} {s : St} {q : RP} (h : R0 w r s q) : SrcAt w q.vK q.K.length (intCells q.K) ∧ (q.K ≠ [] → ∀ b, q.vK.ownBlock = some b → b < w.heap.size ∧ ¬ RW r q b) := by
  refine ⟨srcAt_row h.rowK, fun _ b hb => ⟨h.lt (.inr (.inr (.inr hb))), ?_⟩⟩
  have t1 := h.tK hb
  rintro (e | e)
  · rw [e, h.tr] at t1; simp at t1
  · have t2 := h.tQ e
    rw [t1] at t2; simp at t2
/-- What a counted call does before anything else. -/
def comesS (s : St) (f a : Int) (t : List UInt8) : St :=
  if s.down = true then s else if s.armed = 1 then (if isF f ∧ 0 ≤ a ∧ a + t.length ≤ 16777216 then rput s f a t else s).tick.crash s.keep else s.tick
set_option maxHeartbeats 8000000 in
theorem comes_any {w : World} {r : Nat} {s : St} {q : RP} (h : R0 w r s q) (hI : Inv s) (f a : Int) (t : ByteArray) (ha : InI a) (ht : t.size ≤ 1099511627776) :
    Calls Tryd.prog 47 #[.pointer (some ⟨r, 0, none⟩), .int .i64 f, .int .i64 a, .string t] w fun e w' => e = .returned (.tuple #[]) ∧ R0Turn w r q (comesS s f a t.data.toList) w' := by
  have c3 := h.c3
  have c4 := h.c4
  have f4 := h.fz 4
  by_cases hd : s.down = true
  · have FIN := Lib.hid (show R0Turn w r q (comesS s f a t.data.toList) w by unfold comesS; rw [if_pos hd]; exact R0Turn.refl h)
    rw [hd] at c3
    clear h c4 f4
    go_enter Tryd.func47, Tryd.ntmps47
    go_wp2
    first | go_end0 | (simp only [Exit.inBlock, Exit.then]; refine bodyPost_ret (results_none rfl _ _ _) rfl ?_) | refine bodyPost_ret (results_none rfl _ _ _) rfl ?_
    exact ⟨rfl, FIN.out⟩
  have hd0 : s.down = false := by simpa using hd
  rw [hd0] at c3
  obtain ⟨n, hn⟩ : ∃ n, s.armed = n := ⟨_, rfl⟩
  rw [hn] at c4
  rcases n with _ | n
  · have FIN := Lib.hid (show R0Turn w r q (comesS s f a t.data.toList) w by
      unfold comesS; rw [if_neg hd, if_neg (by omega)]
      have e : s.tick = s := by obtain ⟨a1, a2, a3, a4, a5, a6, a7⟩ := s; simp only at hn; subst hn; rfl
      rw [e]; exact R0Turn.refl h)
    clear h f4 hn hd hd0
    go_enter Tryd.func47, Tryd.ntmps47
    go_wp2
    first | go_end0 | (simp only [Exit.inBlock, Exit.then]; refine bodyPost_ret (results_none rfl _ _ _) rfl ?_) | refine bodyPost_ret (results_none rfl _ _ _) rfl ?_
    exact ⟨rfl, FIN.out⟩
  have hcast : (((n + 1 : Nat)) : Int) = (n : Int) + 1 := by omega
  rw [hcast] at c4
  have g0 : ((n : Int) + 1 == 0) = false := by rw [beq_eq_false_iff_ne]; omega
  have hb := hI.armedb
  have w1 : wrap64 (n : Int) = (n : Int) := by unfold wrap64; omega
  have T1 : R0Turn w r q s.tick (w.setCell ⟨r, 4, none⟩ (.int .i64 (n : Int))) := R0Turn.field h s.tick 4 (.int .i64 (n : Int)) (by
    have e : s.armed - 1 = n := by omega
    unfold rcells St.tick; rw [← e]; rfl) rfl rfl rfl (fun _ => h.kp (by omega))
  rcases n with _ | n
  · have hK : q.K = s.keep := h.kp (by omega)
    have E : ∀ x, (isF f ∧ 0 ≤ a ∧ a + (t.data.toList.length : Int) ≤ 16777216 → x = rput s.tick f a t.data.toList) → (¬ (isF f ∧ 0 ≤ a ∧ a + (t.data.toList.length : Int) ≤ 16777216) → x = s.tick) → comesS s f a t.data.toList = x.crash s.keep := fun x h1 h2 => by
      unfold comesS
      rw [if_neg hd, if_pos hn]
      split
      · rename_i hc; rw [h1 hc, rput_tick]
      · rename_i hc; rw [h2 hc]
    have h1 : R0 (w.setCell ⟨r, 4, none⟩ (.int .i64 ((0 : Nat) : Int))) r s.tick q := h.field s.tick 4 (.int .i64 ((0 : Nat) : Int)) (by
      have e : s.armed - 1 = 0 := by omega
      unfold rcells St.tick; rw [← e]; rfl) rfl rfl rfl (fun _ => h.kp (by omega))
    have k1 : RStep w r q q (w.setCell ⟨r, 4, none⟩ (.int .i64 ((0 : Nat) : Int))) := ⟨fun _ h => .inl h, fun _ h => .inl h, rfl, rfl, Chg.set _ _ _ (.inl (.inl rfl))⟩
    have c5 := h.c5
    have FT := Lib.hid (fits_any a t (w.setCell ⟨r, 4, none⟩ (.int .i64 ((0 : Nat) : Int))) ha ht)
    have tl : t.data.toList.length = t.size := rfl
    rw [tl] at E
    have CR := Lib.hid (show ∀ x w2, DiskM.Inv x → R0Turn (w.setCell ⟨r, 4, none⟩ (.int .i64 ((0 : Nat) : Int))) r q x w2 → (comesS s f a t.data.toList = x.crash s.keep) → ∃ vk : Value, w2.cell? ⟨r, 5, none⟩ = some vk ∧ Hid (Calls Tryd.prog 18 #[.pointer (some ⟨r, 0, none⟩), vk] w2 fun e w' => e = .returned (.tuple #[]) ∧ R0Turn w r q (comesS s f a t.data.toList) w') from fun x w2 hx t2 ex => by
      obtain ⟨q2, h2, k2⟩ := t2
      obtain ⟨z1, z2⟩ := keep_src h2
      refine ⟨q2.vK, h2.c5, Lib.hid ((rcrash_any h2 hx q2.vK q2.K z1 z2 h2.kl).mono ?_)⟩
      rintro e w' ⟨rfl, t3⟩
      refine ⟨rfl, R0Turn.step k1 (R0Turn.step k2 ?_)⟩
      rw [ex, ← hK, ← k2.k]; exact t3)
    obtain ⟨zk1, zk2⟩ := keep_src h1
    have CN := Lib.hid (show comesS s f a t.data.toList = s.tick.crash s.keep → Calls Tryd.prog 18 #[.pointer (some ⟨r, 0, none⟩), q.vK] (w.setCell ⟨r, 4, none⟩ (.int .i64 ((0 : Nat) : Int))) fun e w' => e = .returned (.tuple #[]) ∧ R0Turn w r q (comesS s f a t.data.toList) w' from fun ex => by
      refine (rcrash_any h1 (inv_tick hI) q.vK q.K zk1 zk2 h1.kl).mono ?_
      rintro e w' ⟨rfl, t3⟩
      refine ⟨rfl, R0Turn.step k1 ?_⟩
      rw [ex, ← hK]; exact t3)
    have H1 := Lib.hid h1
    clear zk1 zk2
    have HI1 := Lib.hid (inv_tick hI)
    by_cases hfi : isF f
    · have b1 : (0 : Int) ≤ f := hfi.1
      have b2 : f ≤ 15 := by have := hfi.2; omega
      by_cases hft : 0 ≤ a ∧ a + (t.size : Int) ≤ 16777216
      · have E1 := Lib.hid (E (rput s.tick f a t.data.toList) (fun _ => rfl) (fun hc => absurd ⟨hfi, hft⟩ hc))
        rw [decide_eq_true hft] at FT
        have AD := Lib.hid (radd1_any h1 HI1.out f hfi a t hft.1 hft.2)
        have IV := Lib.hid (inv_rput HI1.out hfi hft.1 (show a + (t.data.toList.length : Int) ≤ 16777216 from hft.2))
        clear E h h1 k1 hI hn hd hd0 hK hfi hft hb hcast tl c5 CN T1
        go_enter Tryd.func47, Tryd.ntmps47
        go_wp2_with (first
          | (go_at_call 48; refine FT.out.mono ?_; rintro e w4 ⟨rfl, rfl⟩; clear FT)
          | (go_at_call 49; refine AD.out.mono ?_; rintro e w4 ⟨rfl, t4⟩; obtain ⟨vk, c5, CC⟩ := CR.out _ w4 IV.out t4 E1.out; clear t4 AD CR)
          | (go_at_call 18; refine CC.out.mono ?_; rintro e w5 ⟨rfl, t5⟩; have T5 := Lib.hid t5; clear t5 CC))
        go_end0
        exact ⟨rfl, T5.out⟩
      · have E1 := Lib.hid (E s.tick (fun hc => absurd hc.2 hft) (fun _ => rfl))
        rw [decide_eq_false hft] at FT
        have CC := Lib.hid (CN.out E1.out)
        clear E h h1 k1 hI hn hd hd0 hK hfi hft hb hcast tl CR H1 CN T1
        go_enter Tryd.func47, Tryd.ntmps47
        go_wp2_with (first
          | (go_at_call 48; refine FT.out.mono ?_; rintro e w4 ⟨rfl, rfl⟩; clear FT)
          | (go_at_call 18; refine CC.out.mono ?_; rintro e w5 ⟨rfl, t5⟩; have T5 := Lib.hid t5; clear t5 CC))
        go_end0
        exact ⟨rfl, T5.out⟩
    · have E1 := Lib.hid (E s.tick (fun hc => absurd hc.1 hfi) (fun _ => rfl))
      have CC := Lib.hid (CN.out E1.out)
      have hor : f < 0 ∨ (0 ≤ f ∧ 15 < f) := by unfold isF at hfi; omega
      clear E h h1 k1 hI hn hd hd0 hK hfi hb hcast tl CR H1 FT CN T1
      rcases hor with hor | ⟨b1, hor⟩
      all_goals
        go_enter Tryd.func47, Tryd.ntmps47
        go_wp2_with (go_at_call 18; refine CC.out.mono ?_; rintro e w5 ⟨rfl, t5⟩; have T5 := Lib.hid t5; clear t5 CC)
        go_end0
        exact ⟨rfl, T5.out⟩
  · have FIN := Lib.hid (show R0Turn w r q (comesS s f a t.data.toList) (w.setCell ⟨r, 4, none⟩ (.int .i64 ((n + 1 : Nat) : Int))) by
      unfold comesS; rw [if_neg hd, if_neg (by omega)]; exact T1)
    have hc2 : ((n + 1 : Nat) : Int) = (n : Int) + 1 := by omega
    rw [hc2] at FIN w1 c4 g0
    have g1 : (0 : Int) < (n : Int) + 1 := by omega
    have w2 : wrap64 ((n : Int) + 1) = (n : Int) + 1 := w1
    clear h hn hd hd0 T1 hcast hb hI
    go_enter Tryd.func47, Tryd.ntmps47
    go_wp2
    first | go_end0 | (simp only [Exit.inBlock, Exit.then]; refine bodyPost_ret (results_none rfl _ _ _) rfl ?_) | refine bodyPost_ret (results_none rfl _ _ _) rfl ?_
    exact ⟨rfl, FIN.out⟩
end Go.Proofs.YtdejajpmebgidaaDoor
