/-
  DiskReads: the walk where the machine is up.
-/
import Derived.Test.YtgebfhikahjahaaEd
namespace Go.Proofs.Ytgebfhikahjahaa
open Go.RowKit Go.Maps WireM DiskM
set_option linter.unusedVariables false
set_option linter.unusedSimpArgs false

set_option maxHeartbeats 4000000 in
set_option maxRecDepth 100000 in
theorem reads_up {w : World} {a : Option Addr} {c : Nat} {l : List ActV} (h : ActsAt w.heap.size w a l) (f : Int) (m n : Nat) (s : ByteArray) (hf : Few l) (hs : s.size ≤ 300) (h1 : m ≤ 3000) (h2 : (n : Int) ≤ 9223372036854775807) (hfI : isF f) (hd : (runActs St.new l).down = false) :
    Calls Try.prog 7 #[.slice a l.length c, .int .i64 f, .int .i64 m, .string s, .int .i64 n] w fun e w' => e = .returned (.bool true) ∧ Below w.heap.size w w' := by
  have H := Lib.hid h
  have HF := Lib.hid hf
  have D0 := Lib.hid (Below.refl w.heap.size w)
  have FD := Lib.hid (decide_eq_true hf)
  have i1 : (s.size : Int) ≤ 300 := by omega
  have htl : s.data.toList.length = s.size := rfl
  have h1i : (m : Int) ≤ 3000 := by omega
  have f0 : 0 ≤ f := hfI.1
  have f1 : f < 16 := hfI.2
  have hinv := h.inv
  generalize hst : runActs St.new l = st at *
  have HST := Lib.hid hst
  have HDN := Lib.hid hd
  obtain ⟨e0, e1, e2, e3⟩ := write_up (s := st.arm 0 []) (f := f) (a := m) (t := s.data.toList) hd rfl hfI (by omega) (by omega)
  generalize hs2 : ((st.arm 0 []).write f m s.data.toList).1 = s2 at *
  have HS2 := Lib.hid hs2
  have E0 := Lib.hid e0
  have eN : ((s2.now f).drop m).take s.size = s.data.toList := by
    rw [e3]
    split
    · rename_i ht
      rw [ht] at htl
      rw [ht, ← htl]; rfl
    · exact put_read _ m _
  obtain ⟨Y, hY⟩ : ∃ Y, Y = bs (s2.now f) := ⟨_, rfl⟩
  have hYs : Y.size = (s2.now f).length := by rw [hY]; rfl
  have hcap : Y.size ≤ 16777216 := by rw [hYs, ← hs2]; exact (inv_write (inv_arm hinv (by omega) []) f m _).cap f
  have R1 := Lib.hid (show s2.read f m s.size = (s.data.toList, 0) by rw [read_up e1 hfI (by omega) (by omega)]; simp only [Int.toNat_natCast]; rw [eN])
  have R2 := Lib.hid (show s2.read f 0 (Y.size : Int) = (s2.now f, 0) by rw [read_up e1 hfI (by omega) (by omega)]; simp only [Int.toNat_natCast]; rw [List.take_of_length_le (by simp [hYs])]; rfl)
  have R3 := Lib.hid (show s2.read f m n = (((s2.now f).drop m).take n, 0) by rw [read_up e1 hfI (by omega) (by omega)]; rfl)
  have RS := Lib.hid (show (s2.size f : Int) = (Y.size : Int) by rw [hYs]; rfl)
  have HY := Lib.hid hY
  clear hinv h hf hst hd hs2 e0 htl eN
  have main : ∀ F : Nat, F = min m Y.size → Calls Try.prog 7 #[.slice a l.length c, .int .i64 f, .int .i64 m, .string s, .int .i64 n] w fun e w' => e = .returned (.bool true) ∧ Below w.heap.size w w' := by
    intro F hF
    have PT := Lib.hid (show bs (((s2.now f).drop m).take n) = Y.extract F (F + min n (Y.size - F)) by
      rw [hY, ext_bs, ← hY]
      congr 1
      rw [List.drop_take, Nat.add_sub_cancel_left]
      rcases Nat.lt_or_ge m Y.size with h | h
      · rw [show F = m by omega]
        apply List.take_eq_take_iff.2
        simp; omega
      · rw [List.drop_eq_nil_of_le (by omega), List.drop_eq_nil_of_le (by omega)]; simp)
    obtain ⟨t0, t1, t2, t3⟩ := trunc_up (s := s2) (n := (F : Int)) e1 e2 hfI (by omega) (by rw [RS.out]; omega)
    generalize hs3 : (s2.trunc f F).1 = s3 at *
    have HS3 := Lib.hid hs3
    have T0 := Lib.hid t0
    obtain ⟨k0, k1⟩ := crash_nil (s := s3) (f := f) t1
    have FIN := Lib.hid (fun (hi : Inv (s3.crash []).start) => show (s3.crash []).start.read f 0 16777216 = (((s2.now f).take F), 0) by
      rw [read_all hi k1 hfI, k0, t2]; rfl)
    have FE := Lib.hid (show bs ((s2.now f).take F) = Y.extract 0 F by rw [hY, ext_bs]; rfl)
    clear hs3 t0 t1 t2 t3 k0 k1 e1 e2 e3 hY hYs
    have sl2 := fun W => slice_upto Y F (F : Int) rfl (by omega) W
    rcases Nat.lt_or_ge Y.size m with c1 | c1
    · obtain rfl : F = Y.size := by omega
      have g1 : (Y.size : Int) < (m : Int) := by omega
      have g2 : wrap64 ((Y.size : Int) - (Y.size : Int)) = 0 := by unfold wrap64; omega
      have g5 : wrap64 0 = 0 := by unfold wrap64; omega
      have g4 : wrap64 (Y.size : Int) = (Y.size : Int) := by unfold wrap64; omega
      have g6 : wrap64 ((Y.size : Int) + 0) = (Y.size : Int) := by unfold wrap64; omega
      have e1 : min n (Y.size - Y.size) = 0 := by omega
      have sl1 := fun W => slice_two Y Y.size (Y.size + 0) (Y.size : Int) (Y.size : Int) rfl (by omega) (by omega) (by omega) W
      rw [e1] at PT
      rcases Nat.eq_zero_or_pos n with c2 | c2
      · have g3 : ¬ (0 : Int) < (n : Int) := by omega
        have g3' : ¬ 0 < n := by omega
        have g7 : wrap64 ((Y.size : Int) + (n : Int)) = (Y.size : Int) := by unfold wrap64; omega
        have hemp : (Y.extract Y.size (Y.size + n)).toList.isEmpty = true := by rw [c2]; simp
        clear hF e1 c2
        go_enter Try.func7, Try.ntmps7
        go_wp2_with (first
          | (go_at_call 8; refine (small_at D0.out).mono ?_; rintro e w1 ⟨rfl, b1⟩; have D1 := Lib.hid b1; clear b1 D0)
          | (go_at_call 9; refine (few_at H.out D1.out FD.out).mono ?_; rintro e w1 ⟨rfl, rfl⟩)
          | (go_at_call 22; refine (played_S1 H.out D1.out HF.out).mono ?_; rintro e w2 ⟨p, rfl, hs⟩; rw [HST.out] at hs; have D2 := Lib.hid hs; clear hs D1)
          | (go_at_call 27; refine (D2.out.arm (ListAt.nil w) 0 (by omega)).mono ?_; rintro e w3 ⟨rfl, hs⟩; have D3 := Lib.hid hs; clear hs D2)
          | (go_at_call 14; refine (D3.out.isDown).mono ?_; rintro e w4 ⟨rfl, rfl⟩; rw [show (st.arm 0 []).down = _ from HDN.out]; have D4 := D3; clear D3)
          | (go_at_call 29; refine (D4.out.write f m s (by omega)).mono ?_; rintro e w5 ⟨rfl, hs⟩; rw [E0.out]; rw [HS2.out] at hs; have D5 := Lib.hid hs; clear hs D4)
          | (go_at_call 20; refine (D5.out.read f m s.size (by unfold InI; omega) (by unfold InI; omega) (by unfold InI; omega)).mono ?_; rintro e w6 ⟨rfl, rfl⟩; rw [R1.out, bsd]; have D6 := D5; clear D5)
          | (go_at_call 16; refine (D6.out.size f (by unfold InI; omega)).mono ?_; rintro e w7 ⟨rfl, rfl⟩; rw [RS.out]; have D7 := D6; clear D6)
          | (go_at_call 20; refine (D7.out.read f 0 Y.size (by unfold InI; omega) (by unfold InI; omega) (by unfold InI; omega)).mono ?_; rintro e w8 ⟨rfl, rfl⟩; rw [R2.out, ← HY.out]; have D8 := D7; clear D7)
          | (go_at_call 20; refine (D8.out.read f m n (by unfold InI; omega) (by unfold InI; omega) (by unfold InI; omega)).mono ?_; rintro e w9 ⟨rfl, rfl⟩; rw [R3.out, PT.out]; have D9 := D8; clear D8)
          | (go_at_call 16; refine (D9.out.size f (by unfold InI; omega)).mono ?_; rintro e w10 ⟨rfl, rfl⟩; rw [RS.out]; have D10 := D9; clear D9)
          | (go_at_call 30; refine (D10.out.trunc f Y.size (by unfold InI; omega)).mono ?_; rintro e w11 ⟨rfl, hs⟩; rw [T0.out]; rw [HS3.out] at hs; have D11 := Lib.hid hs; clear hs D10)
          | (go_at_call 25; refine (D11.out.crash (ListAt.nil w)).mono ?_; rintro e w12 ⟨rfl, hs⟩; have D12 := Lib.hid hs; clear hs D11)
          | (go_at_call 26; refine (D12.out.start).mono ?_; rintro e w13 ⟨rfl, hs⟩; have D13 := Lib.hid hs; clear hs D12)
          | (go_at_call 20; refine (D13.out.read f 0 16777216 (by unfold InI; omega) (by unfold InI; omega) (by unfold InI; omega)).mono ?_; rintro e w14 ⟨rfl, rfl⟩; rw [FIN.out (run_inv D13.out), FE.out]; have D14 := Lib.hid D13.out.bel; clear D13))
        go_ret
        exact ⟨rfl, D14.out⟩
  
      · have g3 : (0 : Int) < (n : Int) := by omega
        clear hF e1
        go_enter Try.func7, Try.ntmps7
        go_wp2_with (first
          | (go_at_call 8; refine (small_at D0.out).mono ?_; rintro e w1 ⟨rfl, b1⟩; have D1 := Lib.hid b1; clear b1 D0)
          | (go_at_call 9; refine (few_at H.out D1.out FD.out).mono ?_; rintro e w1 ⟨rfl, rfl⟩)
          | (go_at_call 22; refine (played_S1 H.out D1.out HF.out).mono ?_; rintro e w2 ⟨p, rfl, hs⟩; rw [HST.out] at hs; have D2 := Lib.hid hs; clear hs D1)
          | (go_at_call 27; refine (D2.out.arm (ListAt.nil w) 0 (by omega)).mono ?_; rintro e w3 ⟨rfl, hs⟩; have D3 := Lib.hid hs; clear hs D2)
          | (go_at_call 14; refine (D3.out.isDown).mono ?_; rintro e w4 ⟨rfl, rfl⟩; rw [show (st.arm 0 []).down = _ from HDN.out]; have D4 := D3; clear D3)
          | (go_at_call 29; refine (D4.out.write f m s (by omega)).mono ?_; rintro e w5 ⟨rfl, hs⟩; rw [E0.out]; rw [HS2.out] at hs; have D5 := Lib.hid hs; clear hs D4)
          | (go_at_call 20; refine (D5.out.read f m s.size (by unfold InI; omega) (by unfold InI; omega) (by unfold InI; omega)).mono ?_; rintro e w6 ⟨rfl, rfl⟩; rw [R1.out, bsd]; have D6 := D5; clear D5)
          | (go_at_call 16; refine (D6.out.size f (by unfold InI; omega)).mono ?_; rintro e w7 ⟨rfl, rfl⟩; rw [RS.out]; have D7 := D6; clear D6)
          | (go_at_call 20; refine (D7.out.read f 0 Y.size (by unfold InI; omega) (by unfold InI; omega) (by unfold InI; omega)).mono ?_; rintro e w8 ⟨rfl, rfl⟩; rw [R2.out, ← HY.out]; have D8 := D7; clear D7)
          | (go_at_call 20; refine (D8.out.read f m n (by unfold InI; omega) (by unfold InI; omega) (by unfold InI; omega)).mono ?_; rintro e w9 ⟨rfl, rfl⟩; rw [R3.out, PT.out]; have D9 := D8; clear D8)
          | (go_at_call 16; refine (D9.out.size f (by unfold InI; omega)).mono ?_; rintro e w10 ⟨rfl, rfl⟩; rw [RS.out]; have D10 := D9; clear D9)
          | (go_at_call 30; refine (D10.out.trunc f Y.size (by unfold InI; omega)).mono ?_; rintro e w11 ⟨rfl, hs⟩; rw [T0.out]; rw [HS3.out] at hs; have D11 := Lib.hid hs; clear hs D10)
          | (go_at_call 25; refine (D11.out.crash (ListAt.nil w)).mono ?_; rintro e w12 ⟨rfl, hs⟩; have D12 := Lib.hid hs; clear hs D11)
          | (go_at_call 26; refine (D12.out.start).mono ?_; rintro e w13 ⟨rfl, hs⟩; have D13 := Lib.hid hs; clear hs D12)
          | (go_at_call 20; refine (D13.out.read f 0 16777216 (by unfold InI; omega) (by unfold InI; omega) (by unfold InI; omega)).mono ?_; rintro e w14 ⟨rfl, rfl⟩; rw [FIN.out (run_inv D13.out), FE.out]; have D14 := Lib.hid D13.out.bel; clear D13))
        go_ret
        exact ⟨rfl, D14.out⟩
  
    · obtain rfl : m = F := by omega
      have g1 : ¬ (Y.size : Int) < (m : Int) := by omega
      have g1' : ¬ Y.size < m := by omega
      have g2 : wrap64 ((Y.size : Int) - (m : Int)) = (Y.size : Int) - (m : Int) := by unfold wrap64; omega
      rcases Nat.lt_or_ge (Y.size - m) n with c2 | c2
      · have g3 : (Y.size : Int) - (m : Int) < (n : Int) := by omega
        have e1 : min n (Y.size - m) = Y.size - m := by omega
        have g4 : wrap64 ((m : Int) + ((Y.size : Int) - (m : Int))) = (m : Int) + ((Y.size : Int) - (m : Int)) := by unfold wrap64; omega
        have sl1 := fun W => slice_two Y m (m + (Y.size - m)) (m : Int) ((m : Int) + ((Y.size : Int) - (m : Int))) rfl (by omega) (by omega) (by omega) W
        rw [e1] at PT
        clear hF e1
        go_enter Try.func7, Try.ntmps7
        go_wp2_with (first
          | (go_at_call 8; refine (small_at D0.out).mono ?_; rintro e w1 ⟨rfl, b1⟩; have D1 := Lib.hid b1; clear b1 D0)
          | (go_at_call 9; refine (few_at H.out D1.out FD.out).mono ?_; rintro e w1 ⟨rfl, rfl⟩)
          | (go_at_call 22; refine (played_S1 H.out D1.out HF.out).mono ?_; rintro e w2 ⟨p, rfl, hs⟩; rw [HST.out] at hs; have D2 := Lib.hid hs; clear hs D1)
          | (go_at_call 27; refine (D2.out.arm (ListAt.nil w) 0 (by omega)).mono ?_; rintro e w3 ⟨rfl, hs⟩; have D3 := Lib.hid hs; clear hs D2)
          | (go_at_call 14; refine (D3.out.isDown).mono ?_; rintro e w4 ⟨rfl, rfl⟩; rw [show (st.arm 0 []).down = _ from HDN.out]; have D4 := D3; clear D3)
          | (go_at_call 29; refine (D4.out.write f m s (by omega)).mono ?_; rintro e w5 ⟨rfl, hs⟩; rw [E0.out]; rw [HS2.out] at hs; have D5 := Lib.hid hs; clear hs D4)
          | (go_at_call 20; refine (D5.out.read f m s.size (by unfold InI; omega) (by unfold InI; omega) (by unfold InI; omega)).mono ?_; rintro e w6 ⟨rfl, rfl⟩; rw [R1.out, bsd]; have D6 := D5; clear D5)
          | (go_at_call 16; refine (D6.out.size f (by unfold InI; omega)).mono ?_; rintro e w7 ⟨rfl, rfl⟩; rw [RS.out]; have D7 := D6; clear D6)
          | (go_at_call 20; refine (D7.out.read f 0 Y.size (by unfold InI; omega) (by unfold InI; omega) (by unfold InI; omega)).mono ?_; rintro e w8 ⟨rfl, rfl⟩; rw [R2.out, ← HY.out]; have D8 := D7; clear D7)
          | (go_at_call 20; refine (D8.out.read f m n (by unfold InI; omega) (by unfold InI; omega) (by unfold InI; omega)).mono ?_; rintro e w9 ⟨rfl, rfl⟩; rw [R3.out, PT.out]; have D9 := D8; clear D8)
          | (go_at_call 16; refine (D9.out.size f (by unfold InI; omega)).mono ?_; rintro e w10 ⟨rfl, rfl⟩; rw [RS.out]; have D10 := D9; clear D9)
          | (go_at_call 30; refine (D10.out.trunc f m (by unfold InI; omega)).mono ?_; rintro e w11 ⟨rfl, hs⟩; rw [T0.out]; rw [HS3.out] at hs; have D11 := Lib.hid hs; clear hs D10)
          | (go_at_call 25; refine (D11.out.crash (ListAt.nil w)).mono ?_; rintro e w12 ⟨rfl, hs⟩; have D12 := Lib.hid hs; clear hs D11)
          | (go_at_call 26; refine (D12.out.start).mono ?_; rintro e w13 ⟨rfl, hs⟩; have D13 := Lib.hid hs; clear hs D12)
          | (go_at_call 20; refine (D13.out.read f 0 16777216 (by unfold InI; omega) (by unfold InI; omega) (by unfold InI; omega)).mono ?_; rintro e w14 ⟨rfl, rfl⟩; rw [FIN.out (run_inv D13.out), FE.out]; have D14 := Lib.hid D13.out.bel; clear D13))
        go_ret
        exact ⟨rfl, D14.out⟩
  
      · have g3 : ¬ (Y.size : Int) - (m : Int) < (n : Int) := by omega
        have e1 : min n (Y.size - m) = n := by omega
        have g4 : wrap64 ((m : Int) + (n : Int)) = (m : Int) + (n : Int) := by unfold wrap64; omega
        have sl1 := fun W => slice_two Y m (m + n) (m : Int) ((m : Int) + (n : Int)) rfl (by omega) (by omega) (by omega) W
        rw [e1] at PT
        clear hF e1
        go_enter Try.func7, Try.ntmps7
        go_wp2_with (first
          | (go_at_call 8; refine (small_at D0.out).mono ?_; rintro e w1 ⟨rfl, b1⟩; have D1 := Lib.hid b1; clear b1 D0)
          | (go_at_call 9; refine (few_at H.out D1.out FD.out).mono ?_; rintro e w1 ⟨rfl, rfl⟩)
          | (go_at_call 22; refine (played_S1 H.out D1.out HF.out).mono ?_; rintro e w2 ⟨p, rfl, hs⟩; rw [HST.out] at hs; have D2 := Lib.hid hs; clear hs D1)
          | (go_at_call 27; refine (D2.out.arm (ListAt.nil w) 0 (by omega)).mono ?_; rintro e w3 ⟨rfl, hs⟩; have D3 := Lib.hid hs; clear hs D2)
          | (go_at_call 14; refine (D3.out.isDown).mono ?_; rintro e w4 ⟨rfl, rfl⟩; rw [show (st.arm 0 []).down = _ from HDN.out]; have D4 := D3; clear D3)
          | (go_at_call 29; refine (D4.out.write f m s (by omega)).mono ?_; rintro e w5 ⟨rfl, hs⟩; rw [E0.out]; rw [HS2.out] at hs; have D5 := Lib.hid hs; clear hs D4)
          | (go_at_call 20; refine (D5.out.read f m s.size (by unfold InI; omega) (by unfold InI; omega) (by unfold InI; omega)).mono ?_; rintro e w6 ⟨rfl, rfl⟩; rw [R1.out, bsd]; have D6 := D5; clear D5)
          | (go_at_call 16; refine (D6.out.size f (by unfold InI; omega)).mono ?_; rintro e w7 ⟨rfl, rfl⟩; rw [RS.out]; have D7 := D6; clear D6)
          | (go_at_call 20; refine (D7.out.read f 0 Y.size (by unfold InI; omega) (by unfold InI; omega) (by unfold InI; omega)).mono ?_; rintro e w8 ⟨rfl, rfl⟩; rw [R2.out, ← HY.out]; have D8 := D7; clear D7)
          | (go_at_call 20; refine (D8.out.read f m n (by unfold InI; omega) (by unfold InI; omega) (by unfold InI; omega)).mono ?_; rintro e w9 ⟨rfl, rfl⟩; rw [R3.out, PT.out]; have D9 := D8; clear D8)
          | (go_at_call 16; refine (D9.out.size f (by unfold InI; omega)).mono ?_; rintro e w10 ⟨rfl, rfl⟩; rw [RS.out]; have D10 := D9; clear D9)
          | (go_at_call 30; refine (D10.out.trunc f m (by unfold InI; omega)).mono ?_; rintro e w11 ⟨rfl, hs⟩; rw [T0.out]; rw [HS3.out] at hs; have D11 := Lib.hid hs; clear hs D10)
          | (go_at_call 25; refine (D11.out.crash (ListAt.nil w)).mono ?_; rintro e w12 ⟨rfl, hs⟩; have D12 := Lib.hid hs; clear hs D11)
          | (go_at_call 26; refine (D12.out.start).mono ?_; rintro e w13 ⟨rfl, hs⟩; have D13 := Lib.hid hs; clear hs D12)
          | (go_at_call 20; refine (D13.out.read f 0 16777216 (by unfold InI; omega) (by unfold InI; omega) (by unfold InI; omega)).mono ?_; rintro e w14 ⟨rfl, rfl⟩; rw [FIN.out (run_inv D13.out), FE.out]; have D14 := Lib.hid D13.out.bel; clear D13))
        go_ret
        exact ⟨rfl, D14.out⟩
  
  exact main _ rfl
end Go.Proofs.Ytgebfhikahjahaa
