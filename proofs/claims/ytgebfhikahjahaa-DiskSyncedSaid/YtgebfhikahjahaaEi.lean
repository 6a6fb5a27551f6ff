/-
  DiskSynced: the walk.
-/
import Derived.Test.YtgebfhikahjahaaEh
namespace Go.Proofs.Ytgebfhikahjahaa
open Go.RowKit Go.Maps WireM DiskM
set_option linter.unusedVariables false
set_option linter.unusedSimpArgs false

set_option maxHeartbeats 4000000 in
set_option maxRecDepth 100000 in
theorem synced_few {w : World} {a a2 ka : Option Addr} {c c2 kc : Nat} {l l2 : List ActV} {k : List Int} (h : ActsAt w.heap.size w a l) (h2 : ActsAt w.heap.size w a2 l2) (f : Int) (hk : k.length ≤ maxLen) (hg : ¬ (Few l ∧ Few l2 ∧ k.length ≤ 60)) :
    Calls Try.prog 5 #[.slice a l.length c, .int .i64 f, .slice a2 l2.length c2, .slice ka k.length kc] w fun e w' => e = .returned (.bool true) ∧ Below w.heap.size w w' := by
  have H := Lib.hid h
  have H2 := Lib.hid h2
  have D0 := Lib.hid (Below.refl w.heap.size w)
  clear h h2
  unfold maxLen at hk
  by_cases hf : Few l
  · have FD := Lib.hid (decide_eq_true hf)
    by_cases hf2 : Few l2
    · have FD2 := Lib.hid (decide_eq_true hf2)
      have hg' : (60 : Int) < (k.length : Int) := by
        have : ¬ k.length ≤ 60 := fun h => hg ⟨hf, hf2, h⟩
        omega
      clear hg hf hf2
      go_enter Try.func5, Try.ntmps5
      go_wp2_with (first
        | (go_at_call 8; refine (small_at D0.out).mono ?_; rintro e w1 ⟨rfl, b1⟩; have D1 := Lib.hid b1; clear b1 D0)
        | (go_at_call 9; refine (few_at H.out D1.out FD.out).mono ?_; rintro e w1 ⟨rfl, rfl⟩; clear FD)
        | (go_at_call 9; refine (few_at H2.out D1.out FD2.out).mono ?_; rintro e w1 ⟨rfl, rfl⟩; clear FD2))
      all_goals (go_ret; exact ⟨rfl, D1.out⟩)
    · have FD2 := Lib.hid (decide_eq_false hf2)
      clear hg hf hf2
      go_enter Try.func5, Try.ntmps5
      go_wp2_with (first
        | (go_at_call 8; refine (small_at D0.out).mono ?_; rintro e w1 ⟨rfl, b1⟩; have D1 := Lib.hid b1; clear b1 D0)
        | (go_at_call 9; refine (few_at H.out D1.out FD.out).mono ?_; rintro e w1 ⟨rfl, rfl⟩; clear FD)
        | (go_at_call 9; refine (few_at H2.out D1.out FD2.out).mono ?_; rintro e w1 ⟨rfl, rfl⟩; clear FD2))
      all_goals (go_ret; exact ⟨rfl, D1.out⟩)
  · have FD := Lib.hid (decide_eq_false hf)
    clear hg hf
    go_enter Try.func5, Try.ntmps5
    go_wp2_with (first
      | (go_at_call 8; refine (small_at D0.out).mono ?_; rintro e w1 ⟨rfl, b1⟩; have D1 := Lib.hid b1; clear b1 D0)
      | (go_at_call 9; refine (few_at H.out D1.out FD.out).mono ?_; rintro e w1 ⟨rfl, rfl⟩; clear FD))
    all_goals (go_ret; exact ⟨rfl, D1.out⟩)
set_option maxHeartbeats 4000000 in
set_option maxRecDepth 100000 in
theorem synced_no {w : World} {a a2 ka : Option Addr} {c c2 kc : Nat} {l l2 : List ActV} {k : List Int} (h : ActsAt w.heap.size w a l) (h2 : ActsAt w.heap.size w a2 l2) (f : Int) (hfI : InI f) (hf : Few l) (hf2 : Few l2) (hk : k.length ≤ 60) (hz : ((runActs St.new l).sync f).2 ≠ 0) :
    Calls Try.prog 5 #[.slice a l.length c, .int .i64 f, .slice a2 l2.length c2, .slice ka k.length kc] w fun e w' => e = .returned (.bool true) ∧ Below w.heap.size w w' := by
  have H := Lib.hid h
  have H2 := Lib.hid h2
  have HF := Lib.hid hf
  have D0 := Lib.hid (Below.refl w.heap.size w)
  have FD := Lib.hid (decide_eq_true hf)
  have FD2 := Lib.hid (decide_eq_true hf2)
  have hk' : (k.length : Int) ≤ 60 := by omega
  generalize hst : runActs St.new l = st at *
  have HST := Lib.hid hst
  have HFI := Lib.hid hfI
  have HZ := Lib.hid hz
  clear h h2 hf hf2 hst hfI hz
  go_enter Try.func5, Try.ntmps5
  go_wp2_with (first
    | (go_at_call 8; refine (small_at D0.out).mono ?_; rintro e w1 ⟨rfl, b1⟩; have D1 := Lib.hid b1; clear b1 D0)
    | (go_at_call 9; refine (few_at H.out D1.out FD.out).mono ?_; rintro e w1 ⟨rfl, rfl⟩; clear FD)
    | (go_at_call 9; refine (few_at H2.out D1.out FD2.out).mono ?_; rintro e w1 ⟨rfl, rfl⟩; clear FD2)
    | (go_at_call 22; refine (played_S1 H.out D1.out HF.out).mono ?_; rintro e w2 ⟨p, rfl, hs⟩; rw [HST.out] at hs; have D2 := Lib.hid hs; clear hs D1)
    | (go_at_call 20; refine (D2.out.read f 0 16777216 HFI.out (by unfold InI; omega) (by unfold InI; omega)).mono ?_; rintro e w3 ⟨rfl, rfl⟩; have D3 := D2; clear D2)
    | (go_at_call 19; refine (D3.out.sync f).mono ?_; rintro e w4 ⟨rfl, hs⟩; have hne := HZ.out; have D4 := Lib.hid hs.bel; clear hs D3; generalize (st.sync f).2 = z at *))
  all_goals (go_ret; exact ⟨rfl, D4.out⟩)
set_option maxHeartbeats 4000000 in
set_option maxRecDepth 100000 in
theorem synced_yes {w : World} {a a2 ka : Option Addr} {c c2 kc : Nat} {l l2 : List ActV} {k : List Int} (h : ActsAt w.heap.size w a l) (h2 : ActsAt w.heap.size w a2 l2) (f : Int) (hfI : InI f) (hf : Few l) (hf2 : Few l2) (K : ListAt w ka kc k) (hz : ((runActs St.new l).sync f).2 = 0) :
    Calls Try.prog 5 #[.slice a l.length c, .int .i64 f, .slice a2 l2.length c2, .slice ka k.length kc] w fun e w' => e = .returned (.bool true) ∧ Below w.heap.size w w' := by
  have H := Lib.hid h
  have H2 := Lib.hid h2
  have HF := Lib.hid hf
  have HF2 := Lib.hid hf2
  have D0 := Lib.hid (Below.refl w.heap.size w)
  have FD := Lib.hid (decide_eq_true hf)
  have FD2 := Lib.hid (decide_eq_true hf2)
  have hk' : (k.length : Int) ≤ 60 := by have := K.len; omega
  have hl2 : l2.length ≤ 40 := hf2.2
  have HK := Lib.hid K
  have hinv := h.inv
  generalize hst : runActs St.new l = st at *
  obtain ⟨hd, hF, hd2, hkept⟩ := sync_kept hz
  obtain ⟨N, hN⟩ : ∃ N, N = st.now f := ⟨_, rfl⟩
  rw [← hN] at hkept
  have R1 := Lib.hid (show st.read f 0 16777216 = (N, 0) by rw [read_all hinv hd hF, hN])
  have R2 := Lib.hid (show (st.sync f).1.read f 0 16777216 = (N, 0) by rw [read_all (inv_sync hinv f) hd2 hF, hkept.1])
  have HST := Lib.hid hst
  have HFI := Lib.hid hfI
  have HIF := Lib.hid hF
  have HZ := Lib.hid hz
  have KP := Lib.hid hkept
  clear h h2 hf hf2 hst hfI hz hd hd2 hkept hN hF K hinv
  go_enter Try.func5, Try.ntmps5
  go_wp2_with (first
    | (go_at_call 8; refine (small_at D0.out).mono ?_; rintro e w1 ⟨rfl, b1⟩; have D1 := Lib.hid b1; clear b1 D0)
    | (go_at_call 9; refine (few_at H.out D1.out FD.out).mono ?_; rintro e w1 ⟨rfl, rfl⟩; clear FD)
    | (go_at_call 9; refine (few_at H2.out D1.out FD2.out).mono ?_; rintro e w1 ⟨rfl, rfl⟩; clear FD2)
    | (go_at_call 22; refine (played_S1 H.out D1.out HF.out).mono ?_; rintro e w2 ⟨p, rfl, hs⟩; rw [HST.out] at hs; have D2 := Lib.hid hs; clear hs D1)
    | (go_at_call 20; refine (D2.out.read f 0 16777216 HFI.out (by unfold InI; omega) (by unfold InI; omega)).mono ?_; rintro e w3 ⟨rfl, rfl⟩; rw [R1.out]; have D3 := D2; clear D2)
    | (go_at_call 19; refine (D3.out.sync f).mono ?_; rintro e w4 ⟨rfl, hs⟩; rw [HZ.out]; have D4 := Lib.hid hs; clear hs D3)
    | (go_at_call 20; refine (D4.out.read f 0 16777216 HFI.out (by unfold InI; omega) (by unfold InI; omega)).mono ?_; rintro e w5 ⟨rfl, rfl⟩; rw [R2.out]; have D5 := D4; clear D4))
  have ST := Lib.hid (show ∃ s', S1 w w4 p s' ∧ Kept s' f N from ⟨_, D5.out, KP.out⟩)
  clear D5 KP R1 R2 HST
  go_loopw [15] (fun i wr => ∃ j : Nat, j ≤ l2.length ∧ i = .int .i64 (j : Int) ∧ Hid (∃ s', S1 w wr p s' ∧ Kept s' f N)) (fun i _ => l2.length - (intOf i).toNat)
  case atStart => exact ⟨0, Nat.zero_le _, rfl, ST⟩
  case round =>
    obtain ⟨j, hj, rfl, HR⟩ := hrel
    by_cases hlt : j < l2.length
    · obtain ⟨A, hA⟩ : ∃ A, l2[j]? = some A := ⟨_, List.getElem?_eq_getElem hlt⟩
      have hacts := H2.out.below (HR.out.elim fun s' h => h.1.bel)
      rcases hacts.cells with e | ⟨b, o, rfl, hb, hc⟩
      · rw [e] at hlt; simp at hlt
      obtain ⟨c0, c1, c2, c3, c4⟩ := hc j A hA
      have hok := HF2.out.1 A (List.mem_of_getElem? hA)
      have HOK := Lib.hid hok
      have HOKA := Lib.hid (H2.out.ok A (List.mem_of_getElem? hA))
      have g0 : (0 : Int) ≤ (j : Int) := by omega
      have g1 : (j : Int) < (l2.length : Int) := by omega
      have w1' : wrap64 ((j : Int) + 1) = (j : Int) + 1 := by unfold wrap64; omega
      have W1 := Lib.hid w1'
      have NX := Lib.hid (show ∀ w', (∃ s', S1 w w' p s' ∧ Kept s' f N) → ∃ j' : Nat, j' ≤ l2.length ∧ Value.int .i64 ((j : Int) + 1) = .int .i64 (j' : Int) ∧ Hid (∃ s', S1 w w' p s' ∧ Kept s' f N) from fun w' h => ⟨j + 1, hlt, rfl, Lib.hid h⟩)
      have MEAS := Lib.hid (show l2.length - (intOf (.int .i64 ((j : Int) + 1))).toNat < l2.length - (intOf (.int .i64 (j : Int))).toNat by simp [intOf]; omega)
      have DO := Lib.hid (show A.d % 8 = 4 ∨ (A.d % 8 < 4 ∧ A.f ≠ f) → Calls Try.prog 12 #[.pointer (some ⟨p, 0, none⟩), .agg A.cells] wr fun e w' => ∃ z, e = .returned (.int .i64 z) ∧ ∃ s', S1 w w' p s' ∧ Kept s' f N from fun hA => by
        obtain ⟨s', h1, h2⟩ := HR.out
        refine (h1.do A HOKA.out hok).mono ?_
        rintro e w' ⟨rfl, hs⟩
        exact ⟨_, rfl, _, hs, h2.act hA⟩)
      unfold ActV.cells at DO
      have hb : bits .and .i64 A.d 7 = A.d % 8 := and7 _
      have hHR := Lib.hid (NX.out _ HR.out)
      have k0 : 0 ≤ A.d % 8 ∧ A.d % 8 < 8 := by omega
      clear hacts hc hok hA hlt hj w1'
      by_cases hc4 : A.d % 8 = 4
      · have HCOND := Lib.hid (DO.out (.inl hc4))
        rw [hc4] at hb
        clear DO k0 hHR
        go_wp2_with (go_at_call 12; refine HCOND.out.mono ?_; rintro e w' ⟨z, rfl, hs⟩; have HX := Lib.hid (NX.out w' hs); clear hs NX)
        go_roundw
        case rel => first | exact HX.out | (rw [W1.out]; exact HX.out)
        case measure => first | exact MEAS.out | (rw [W1.out]; exact MEAS.out)
      · have hq : ¬ A.d % 8 = 4 := hc4
        generalize A.d % 8 = kk at *
        have hkq : (kk == 4) = false := by simpa using hq
        by_cases hlt4 : kk < 4
        · by_cases hfe : A.f = f
          · have hfe' : (A.f != f) = false := by simp [hfe]
            clear DO k0
            go_wp2
            go_roundw
            case rel => first | exact hHR.out | (rw [W1.out]; exact hHR.out)
            case measure => first | exact MEAS.out | (rw [W1.out]; exact MEAS.out)
          · have hfe' : (A.f != f) = true := by simp [hfe]
            have HCOND := Lib.hid (DO.out (.inr ⟨hlt4, hfe⟩))
            clear DO k0 hHR
            go_wp2_with (go_at_call 12; refine HCOND.out.mono ?_; rintro e w' ⟨z, rfl, hs⟩; have HX := Lib.hid (NX.out w' hs); clear hs NX)
            go_roundw
            case rel => first | exact HX.out | (rw [W1.out]; exact HX.out)
            case measure => first | exact MEAS.out | (rw [W1.out]; exact MEAS.out)
        · clear DO k0
          go_wp2
          go_roundw
          case rel => first | exact hHR.out | (rw [W1.out]; exact hHR.out)
          case measure => first | exact MEAS.out | (rw [W1.out]; exact MEAS.out)
    · have g1 : ¬ (j : Int) < (l2.length : Int) := by omega
      obtain ⟨s', hs', hkp⟩ := HR.out
      have D6 := Lib.hid hs'
      have KP := Lib.hid hkp
      clear hlt hj HR hs' hkp
      go_wp2_with (first
        | (go_at_call 25; refine (D6.out.crash HK.out).mono ?_; rintro e w6 ⟨rfl, hs⟩; have D7 := Lib.hid hs; clear hs D6)
        | (go_at_call 26; refine (D7.out.start).mono ?_; rintro e w7 ⟨rfl, hs⟩; have D8 := Lib.hid hs; clear hs D7)
        | (go_at_call 20; refine (D8.out.read f 0 16777216 HFI.out (by unfold InI; omega) (by unfold InI; omega)).mono ?_; rintro e w8 ⟨rfl, rfl⟩; rw [kept_end KP.out HIF.out k (run_inv D8.out)]; have D9 := Lib.hid D8.out.bel; clear D8))
      go_ret
      exact ⟨rfl, D9.out⟩
theorem synced_any {w : World} {a a2 ka : Option Addr} {c c2 kc : Nat} {l l2 : List ActV} {k : List Int} (h : ActsAt w.heap.size w a l) (h2 : ActsAt w.heap.size w a2 l2) (f : Int) (hfI : InI f) (hk : k.length ≤ maxLen) (hs : SrcAt w (.slice ka k.length kc) k.length (intCells k)) (hl : k ≠ [] → ∀ b, (Value.slice ka k.length kc).ownBlock = some b → b < w.heap.size) :
    Calls Try.prog 5 #[.slice a l.length c, .int .i64 f, .slice a2 l2.length c2, .slice ka k.length kc] w fun e w' => e = .returned (.bool true) ∧ Below w.heap.size w w' := by
  by_cases hg : Few l ∧ Few l2 ∧ k.length ≤ 60
  · by_cases hz : ((runActs St.new l).sync f).2 = 0
    · exact synced_yes h h2 f hfI hg.1 hg.2.1 ⟨hs, hl, hg.2.2⟩ hz
    · exact synced_no h h2 f hfI hg.1 hg.2.1 hg.2.2 hz
  · exact synced_few h h2 f hk hg
end Go.Proofs.Ytgebfhikahjahaa
