/-
  THE REFERENCE OF LAYER 3: Truncate; do and tell among other things.
-/
import Derived.Test.YtclibkpipggdeaaHo
import Derived.Test.YtclibkpipggdeaaEc
namespace Go.Proofs.Ytclibkpipggdeaa
open Go.RowKit Go.Maps WireM DiskM
set_option linter.unusedVariables false
set_option linter.unusedSimpArgs false
set_option maxRecDepth 100000

set_option maxHeartbeats 8000000 in
theorem rtrunc_any {w : World} {r : Nat} {s : St} {q : RP} (h : RIs w r s q) (f n : Int) (hn : InI n) :
    Calls Try.prog 25 #[.pointer (some ⟨r, 0, none⟩), .int .i64 f, .int .i64 n] w fun e w' => e = .returned (.int .i64 (s.trunc f n).2) ∧ R0Turn w r q (s.trunc f n).1 w' := by
  have CM := Lib.hid (comes_any h.toR0 h.inv 0 0 ⟨#[]⟩ (by unfold InI; omega) (by show (0 : Nat) ≤ _; omega))
  have hI := inv_comes h.inv 0 0 []
  have e0 : (⟨#[]⟩ : ByteArray).data.toList = [] := rfl
  rw [e0] at CM
  unfold St.trunc
  rw [begin_eq]
  simp only
  generalize comesS s 0 0 [] = s1 at *
  have HI := Lib.hid hI
  clear h hI e0
  by_cases hm : mayE s1 f = 0
  · have hf : isF f := by
      unfold mayE at hm
      split at hm
      · cases hm
      · split at hm
        · assumption
        · cases hm
    rw [if_neg (fun h => h hm)]
    have HM := Lib.hid hm
    have hsz : s1.size f = (s1.now f).length := rfl
    rw [hsz]
    have NX := Lib.hid (show ∀ W q1, R0 W r s1 q1 → Hid (Calls Try.prog 31 #[.pointer (some ⟨r, 0, none⟩), .int .i64 f] W fun e w' => e = .returned (.agg #[.int .i64 f, .string (bs (s1.now f)), .string (bs (s1.last f))]) ∧ Below W.heap.size W w') ∧ Hid (∀ w2 m, Below W.heap.size W w2 → Calls Try.prog 47 #[.pointer (some ⟨r, 0, none⟩), .int .i64 f, .string (bs ((s1.now f).take m))] w2 fun e w' => e = .returned (.tuple #[]) ∧ R0Turn W r q1 (s1.cut f m) w') from fun W q1 h1 => by
      refine ⟨Lib.hid (get_any h1 f), Lib.hid (fun w2 m hb => ?_)⟩
      refine (settle_any (h1.below hb) f ((s1.now f).take m) hf (pend_bound HI.out)).mono ?_
      rintro e w' ⟨rfl, t3⟩
      exact ⟨rfl, R0Turn.step (RStep.below hb) t3⟩)
    have EX := Lib.hid (fun (m : Nat) => ext_bs (s1.now f) 0 m)
    have hl : (bs (s1.now f)).size = (s1.now f).length := rfl
    rw [← hl]
    generalize s1.now f = L at *
    obtain ⟨N, hN⟩ : ∃ N, N = bs L := ⟨_, rfl⟩
    rw [← hN] at NX EX ⊢
    generalize bs (s1.last f) = M at *
    have fo := field_one (.int .i64 f) (.string N) (.string M)
    clear hl hf hm hsz hN
    by_cases h0 : n < 0
    · rw [if_pos (.inl h0)]
      go_enter Try.func25, Try.ntmps25
      go_wp2_with (first
        | (go_at_call 46; refine CM.out.mono ?_; rintro e w1 ⟨rfl, t1⟩; obtain ⟨q1, h1, k1⟩ := t1; have MY := Lib.hid (may_any h1 f); rw [HM.out] at MY; obtain ⟨GG, SS⟩ := NX.out w1 q1 h1; have H1 := Lib.hid h1; have K1 := Lib.hid k1; clear h1 k1 CM NX)
        | (go_at_call 40; refine MY.out.mono ?_; rintro e w2 ⟨rfl, rfl⟩; clear MY)
        | (go_at_call 31; refine GG.out.mono ?_; rintro e w3 ⟨rfl, b3⟩; have T3 := Lib.hid (R0Turn.step K1.out (R0Turn.step (RStep.below b3) (R0Turn.refl (H1.out.below b3)))); clear b3 GG SS))
      go_ret
      exact ⟨rfl, T3.out⟩
    by_cases h1 : (N.size : Int) < n
    · rw [if_pos (.inr h1)]
      go_enter Try.func25, Try.ntmps25
      go_wp2_with (first
        | (go_at_call 46; refine CM.out.mono ?_; rintro e w1 ⟨rfl, t1⟩; obtain ⟨q1, h1, k1⟩ := t1; have MY := Lib.hid (may_any h1 f); rw [HM.out] at MY; obtain ⟨GG, SS⟩ := NX.out w1 q1 h1; have H1 := Lib.hid h1; have K1 := Lib.hid k1; clear h1 k1 CM NX)
        | (go_at_call 40; refine MY.out.mono ?_; rintro e w2 ⟨rfl, rfl⟩; clear MY)
        | (go_at_call 31; refine GG.out.mono ?_; rintro e w3 ⟨rfl, b3⟩; have T3 := Lib.hid (R0Turn.step K1.out (R0Turn.step (RStep.below b3) (R0Turn.refl (H1.out.below b3)))); clear b3 GG SS))
      go_ret
      exact ⟨rfl, T3.out⟩
    · rw [if_neg (by rintro (h | h); exact h0 h; exact h1 h)]
      obtain ⟨m, rfl⟩ : ∃ m : Nat, n = m := ⟨n.toNat, by omega⟩
      rw [Int.toNat_natCast]
      have SL := fun W => slice_upto N m (m : Int) rfl (by omega) W
      have e1 : N.extract 0 m = bs (L.take m) := by rw [EX.out m, List.drop_zero]
      rw [e1] at SL
      clear EX e1
      go_enter Try.func25, Try.ntmps25
      go_wp2_with (first
        | (go_at_call 46; refine CM.out.mono ?_; rintro e w1 ⟨rfl, t1⟩; obtain ⟨q1, h1, k1⟩ := t1; have K1 := Lib.hid k1; have MY := Lib.hid (may_any h1 f); rw [HM.out] at MY; obtain ⟨GG, SS⟩ := NX.out w1 q1 h1; clear h1 k1 CM NX)
        | (go_at_call 40; refine MY.out.mono ?_; rintro e w2 ⟨rfl, rfl⟩; clear MY)
        | (go_at_call 31; refine GG.out.mono ?_; rintro e w3 ⟨rfl, b3⟩; have S3 := Lib.hid (SS.out w3 m b3); clear b3 GG SS)
        | (go_at_call 47; refine S3.out.mono ?_; rintro e w4 ⟨rfl, t4⟩; have T4 := Lib.hid (R0Turn.step K1.out t4); clear t4 S3))
      go_ret
      exact ⟨rfl, T4.out⟩
  · rw [if_pos hm]
    have MY0 := Lib.hid (fun W q1 (h1 : R0 W r s1 q1) => may_any h1 f)
    have hz : (mayE s1 f != 0) = true := by simpa using hm
    generalize mayE s1 f = z at *
    clear hm
    go_enter Try.func25, Try.ntmps25
    go_wp2_with (first
      | (go_at_call 46; refine CM.out.mono ?_; rintro e w1 ⟨rfl, t1⟩; have T1 := Lib.hid t1; obtain ⟨q1, h1, k1⟩ := t1; have MY := Lib.hid (MY0.out w1 q1 h1); clear h1 k1 CM MY0)
      | (go_at_call 40; refine MY.out.mono ?_; rintro e w2 ⟨rfl, rfl⟩; clear MY))
    go_ret
    exact ⟨rfl, T1.out⟩
theorem Tog.rtrunc {w0 w : World} {l : List Kd} (h : Tog w0 w l) {i r : Nat} {s : St} (hi : l[i]? = some (kRef r s)) (f n : Int) (hn : InI n) : Calls Try.prog 25 #[.pointer (some ⟨r, 0, none⟩), .int .i64 f, .int .i64 n] w fun e w' => e = .returned (.int .i64 (s.trunc f n).2) ∧ Tog w0 w' (l.set i (kRef r (s.trunc f n).1)) := by
  obtain ⟨M, ⟨q, h1, h2⟩, _, h5⟩ := h.focus hi
  refine (rtrunc_any h1 f n hn).mono ?_
  rintro e w' ⟨rfl, ht⟩
  exact ⟨rfl, h5 _ _ (kturn_ref h2 (ht.toI (inv_trunc h1.inv f n)))⟩
theorem Tog.do {w0 w : World} {l : List Kd} (h : Tog w0 w l) {i p : Nat} {s : St} (hi : l[i]? = some (kDisk p s)) (A : ActV) (ok : ActOk w0.heap.size w0 A) (oa : okAct A) :
    Calls Try.prog 8 #[.pointer (some ⟨p, 0, none⟩), .agg A.cells] w fun e w' => e = .returned (.int .i64 (actS s A).2) ∧ Tog w0 w' (l.set i (kDisk p (actS s A).1)) := by
  obtain ⟨M, ⟨q, h1, h2, h3⟩, h4, h5⟩ := h.focus hi
  refine (do_any h1 (fun b hb => h4 b ((h2 b).2 hb)) h.bel.size A (ok.below h.bel) (by omega) (by have := oa.2.1; omega) (by have := oa.1; omega)).mono ?_
  rintro e w' ⟨rfl, ht⟩
  refine ⟨rfl, h5 _ _ (kturn_disk h2 ht ?_)⟩
  rcases act_keep s A with e | e | e <;> rw [e]
  · exact h3
  · simp
  · have := oa.2.1; omega
theorem ActOk.nums {w0 : World} {A : ActV} (ok : ActOk w0.heap.size w0 A) (oa : okAct A) : NumsAt w0 A.ka A.kc A.keep := ⟨ok.keep, ok.low, by have := oa.2.1; omega⟩
set_option maxHeartbeats 4000000 in
theorem Tog.tell {w0 w : World} {l : List Kd} (h : Tog w0 w l) {i r : Nat} {s : St} (hi : l[i]? = some (kRef r s)) (A : ActV) (ok : ActOk w0.heap.size w0 A) (oa : okAct A) :
    Calls Try.prog 9 #[.pointer (some ⟨r, 0, none⟩), .agg A.cells] w fun e w' => e = .returned (.int .i64 (actS s A).2) ∧ Tog w0 w' (l.set i (kRef r (actS s A).1)) := by
  have h1 := h.on ((Below.refl _ w).alloc (Nat.le_refl _) (.cells A.cells 33))
  have K := ok.nums oa
  have hs : A.s.size ≤ 1099511627776 := by have := oa.1; omega
  have hz := heap_alloc_new w (.cells A.cells 33)
  have k0 : (w.alloc (.cells A.cells 33)).cell? ⟨w.heap.size, 0, none⟩ = some (.int .i64 A.d) := by rw [Lib.cell_of_heap hz]; rfl
  have k1 : (w.alloc (.cells A.cells 33)).cell? ⟨w.heap.size, 1, none⟩ = some (.int .i64 A.f) := by rw [Lib.cell_of_heap hz]; rfl
  have k2 : (w.alloc (.cells A.cells 33)).cell? ⟨w.heap.size, 2, none⟩ = some (.int .i64 A.n) := by rw [Lib.cell_of_heap hz]; rfl
  have k3 : (w.alloc (.cells A.cells 33)).cell? ⟨w.heap.size, 3, none⟩ = some (.string A.s) := by rw [Lib.cell_of_heap hz]; rfl
  have k4 : (w.alloc (.cells A.cells 33)).cell? ⟨w.heap.size, 4, none⟩ = some (.slice A.ka A.keep.length A.kc) := by rw [Lib.cell_of_heap hz]; rfl
  clear hz
  have hm : A.d % 8 = 0 ∨ A.d % 8 = 1 ∨ A.d % 8 = 2 ∨ A.d % 8 = 3 ∨ A.d % 8 = 4 ∨ A.d % 8 = 5 ∨ A.d % 8 = 6 ∨ A.d % 8 = 7 := by omega
  unfold ActV.cells at k0 k1 k2 k3 k4 h1 ⊢
  rcases hm with hk | hk | hk | hk | hk | hk | hk | hk
  · have hb : bits .and .i64 A.d 7 = 0 := by rw [and7, hk]
    have E : actS s A = s.write A.f A.n A.s.data.toList := by unfold actS; simp [hk]
    rw [E]
    clear E hk
    have C := Lib.hid (h1.rwrite hi A.f A.n A.s ok.n hs)
    clear h1 h
    go_enter Try.func9, Try.ntmps9
    go_wp2_with (go_at_call 30; refine C.out.mono ?_; rintro e w' ⟨rfl, ht⟩; have HT := Lib.hid ht; clear ht C)
    go_ret
    exact ⟨rfl, HT.out⟩
  · have hb : bits .and .i64 A.d 7 = 1 := by rw [and7, hk]
    have E : actS s A = s.write A.f A.n A.s.data.toList := by unfold actS; simp [hk]
    rw [E]
    clear E hk
    have C := Lib.hid (h1.rwrite hi A.f A.n A.s ok.n hs)
    clear h1 h
    go_enter Try.func9, Try.ntmps9
    go_wp2_with (go_at_call 30; refine C.out.mono ?_; rintro e w' ⟨rfl, ht⟩; have HT := Lib.hid ht; clear ht C)
    go_ret
    exact ⟨rfl, HT.out⟩
  · have hb : bits .and .i64 A.d 7 = 2 := by rw [and7, hk]
    have E : actS s A = s.sync A.f := by unfold actS; simp [hk]
    rw [E]
    clear E hk
    have C := Lib.hid (h1.rsync hi A.f)
    clear h1 h
    go_enter Try.func9, Try.ntmps9
    go_wp2_with (go_at_call 24; refine C.out.mono ?_; rintro e w' ⟨rfl, ht⟩; have HT := Lib.hid ht; clear ht C)
    go_ret
    exact ⟨rfl, HT.out⟩
  · have hb : bits .and .i64 A.d 7 = 3 := by rw [and7, hk]
    have E : actS s A = s.trunc A.f A.n := by unfold actS; simp [hk]
    rw [E]
    clear E hk
    have C := Lib.hid (h1.rtrunc hi A.f A.n ok.n)
    clear h1 h
    go_enter Try.func9, Try.ntmps9
    go_wp2_with (go_at_call 25; refine C.out.mono ?_; rintro e w' ⟨rfl, ht⟩; have HT := Lib.hid ht; clear ht C)
    go_ret
    exact ⟨rfl, HT.out⟩
  · have hb : bits .and .i64 A.d 7 = 4 := by rw [and7, hk]
    have E : actS s A = (s.lose (A.n % 4), 0) := by unfold actS; simp [hk]
    rw [E]
    clear E hk
    have hb3 : bits .and .i64 A.n 3 = A.n % 4 := and3 A.n
    have C := Lib.hid (h1.rlose hi (A.n % 4) (by omega))
    clear h1 h
    go_enter Try.func9, Try.ntmps9
    go_wp2_with (go_at_call 26; refine C.out.mono ?_; rintro e w' ⟨rfl, ht⟩; have HT := Lib.hid ht; clear ht C)
    go_ret
    exact ⟨rfl, HT.out⟩
  · have hb : bits .and .i64 A.d 7 = 5 := by rw [and7, hk]
    have E : actS s A = (s.arm A.n A.keep, 0) := by unfold actS; simp [hk]
    rw [E]
    clear E hk
    have C := Lib.hid (h1.rarm hi K A.n ok.n.2)
    clear h1 h
    go_enter Try.func9, Try.ntmps9
    go_wp2_with (go_at_call 27; refine C.out.mono ?_; rintro e w' ⟨rfl, ht⟩; have HT := Lib.hid ht; clear ht C)
    go_ret
    exact ⟨rfl, HT.out⟩
  · have hb : bits .and .i64 A.d 7 = 6 := by rw [and7, hk]
    have E : actS s A = (s.crash A.keep, 0) := by unfold actS; simp [hk]
    rw [E]
    clear E hk
    have C := Lib.hid (h1.rcrash hi K)
    clear h1 h
    go_enter Try.func9, Try.ntmps9
    go_wp2_with (go_at_call 28; refine C.out.mono ?_; rintro e w' ⟨rfl, ht⟩; have HT := Lib.hid ht; clear ht C)
    go_ret
    exact ⟨rfl, HT.out⟩
  · have hb : bits .and .i64 A.d 7 = 7 := by rw [and7, hk]
    have E : actS s A = (s.start, 0) := by unfold actS; simp [hk]
    rw [E]
    clear E hk
    have C := Lib.hid (h1.rstart hi)
    clear h1 h
    go_enter Try.func9, Try.ntmps9
    go_wp2_with (go_at_call 29; refine C.out.mono ?_; rintro e w' ⟨rfl, ht⟩; have HT := Lib.hid ht; clear ht C)
    go_ret
    exact ⟨rfl, HT.out⟩
end Go.Proofs.Ytclibkpipggdeaa
