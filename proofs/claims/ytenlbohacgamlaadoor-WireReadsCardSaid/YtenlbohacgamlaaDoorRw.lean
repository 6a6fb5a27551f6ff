/-
  THE REFERENCE'S WRITERS: digits, Num, Int, Text, Nums, Texts.
-/
import Derived.Test.YtenlbohacgamlaaDoorEv
namespace Go.Proofs.YtenlbohacgamlaaDoor
open Go.RowKit WireM
set_option linter.unusedVariables false
set_option linter.unusedSimpArgs false

theorem neg_tmod10 (u : Nat) : (-(u : Int)).tmod 10 = -((u % 10 : Nat) : Int) := by
  rw [Int.neg_tmod, Int.tmod_eq_emod_of_nonneg (by omega)]; omega
theorem neg_tdiv10 (u : Nat) : (-(u : Int)).tdiv 10 = -((u / 10 : Nat) : Int) := by
  rw [Int.neg_tdiv, Int.tdiv_eq_ediv_of_nonneg (by omega)]; omega

theorem dd_len (u : Nat) (h : u ≤ 9223372036854775808) : (Lib.decDigits u).length ≤ 19 := by
  rcases Nat.eq_zero_or_pos u with rfl | hp
  · rw [dd_small (by omega)]; simp
  · have := (itoa_len (-(u : Int)) (by omega) (by omega)).1
    rw [itoa_negs u (by omega)] at this
    simpa using this
theorem byte_string (w : World) (E : Int) (c : UInt8) (h : E = (c.toNat : Int)) :
    (convert 66 9 (.slice (some ⟨w.heap.size, 0, none⟩) 1 1)).run Tryd.prog (w.alloc (.cells #[.int .u8 E] 5)) = .ok (.string (bs [c])) (w.alloc (.cells #[.int .u8 E] 5)) := by
  have := run_convert_bytes_back (P := Tryd.prog) (w.alloc (.cells #[.int .u8 E] 5)) 66 9 5 ⟨w.heap.size, 0, none⟩ 1 [c] Tryd.underlying66 Tryd.underlying5 Tryd.underlying9 (fun j hj => by
    have hj0 : j = 0 := by simpa using hj
    subst hj0
    simp [Addr.add, h])
  exact this

theorem rDigits_any (k : Nat) : ∀ (u : Nat) (z : Int) (w : World), u < 10 ^ (k + 1) → u ≤ 9223372036854775808 → z = -(u : Int) →
    Calls Tryd.prog 45 #[.int .i64 z] w fun e w' => e = .returned (.string (bs (Lib.decDigits u))) ∧ Below w.heap.size w w' := by
  have base : ∀ (u : Nat) (z : Int) (w : World), u < 10 → z = -(u : Int) →
      Calls Tryd.prog 45 #[.int .i64 z] w fun e w' => e = .returned (.string (bs (Lib.decDigits u))) ∧ Below w.heap.size w w' := by
    intro u z w h10 hz
    have hz1 : -10 < z := by omega
    have hz0 : z ≤ 0 := by omega
    have t1 : -10 < z.tmod 10 := by rw [hz, neg_tmod10]; omega
    have t2 : z.tmod 10 ≤ 0 := by rw [hz, neg_tmod10]; omega
    have hcv := byte_string w (48 - z.tmod 10) (UInt8.ofNat (48 + u % 10)) (by rw [hz, neg_tmod10, ofNat_toNat (by omega)]; omega)
    have HE := Lib.hid (show Lib.decDigits u = [UInt8.ofNat (48 + u % 10)] by rw [dd_small h10, Nat.mod_eq_of_lt h10])
    clear hz
    generalize UInt8.ofNat (48 + u % 10) = c at *
    go_enter Tryd.func45, Tryd.ntmps45
    go_wp2_with fail
    go_ret
    exact ⟨by rw [HE.out]; rfl, (Below.refl _ w).alloc (Nat.le_refl _) _⟩
  induction k with
  | zero => exact fun u z w hk _ hz => base u z w (by simpa using hk) hz
  | succ k ih =>
    intro u z w hk hu hz
    by_cases h10 : u < 10
    · exact base u z w h10 hz
    · have hz1 : ¬ -10 < z := by omega
      have hzb : -9223372036854775808 ≤ z := by omega
      have t1 : -10 < z.tmod 10 := by rw [hz, neg_tmod10]; omega
      have t2 : z.tmod 10 ≤ 0 := by rw [hz, neg_tmod10]; omega
      have hcv := byte_string w (48 - z.tmod 10) (UInt8.ofNat (48 + u % 10)) (by rw [hz, neg_tmod10, ofNat_toNat (by omega)]; omega)
      have HE := Lib.hid (dd_big h10)
      have HZ := Lib.hid (show z.tdiv 10 = -((u / 10 : Nat) : Int) by rw [hz, neg_tdiv10])
      have hlen : (bs (Lib.decDigits (u / 10))).size ≤ 19 := dd_len (u / 10) (by omega)
      have hp : u / 10 < 10 ^ (k + 1) := by rw [Nat.pow_succ] at hk; omega
      have IH := Lib.hid ih
      clear hz ih base hk
      generalize UInt8.ofNat (48 + u % 10) = c at *
      have hc1 : (bs [c]).size = 1 := rfl
      go_enter Tryd.func45, Tryd.ntmps45
      go_wp2_with fail
      go_at_call 45
      refine (IH.out (u / 10) _ _ hp (by omega) HZ.out).mono ?_
      rintro e w2 ⟨rfl, b2⟩
      go_wp2_with fail
      go_ret
      exact ⟨congrArg (fun x => Ending.returned (Value.string x)) (ext (by rw [app_data, HE.out]; rfl)), ((Below.refl _ w).alloc (Nat.le_refl _) _).trans (b2.mono (by simp))⟩

theorem rdig_any (u : Nat) (z : Int) (w : World) (hu : u ≤ 9223372036854775808) (hz : z = -(u : Int)) :
    Calls Tryd.prog 45 #[.int .i64 z] w fun e w' => e = .returned (.string (bs (Lib.decDigits u))) ∧ Below w.heap.size w w' :=
  rDigits_any 18 u z w (by omega) hu hz

theorem rwInt_any (n : Int) (h0 : -9223372036854775808 ≤ n) (h1 : n ≤ 9223372036854775807) (w : World) :
    Calls Tryd.prog 14 #[.int .i64 n] w fun e w' => e = .returned (.string (bs (encInt n))) ∧ Below w.heap.size w w' := by
  by_cases hn : n < 0
  · obtain ⟨u, hu⟩ : ∃ u : Nat, n = -(u : Int) := ⟨n.natAbs, by omega⟩
    have hlen : (bs (Lib.decDigits u)).size ≤ 19 := dd_len u (by omega)
    have HE := Lib.hid (show encInt n = 45 :: (Lib.decDigits u ++ [59]) by rw [hu, encInt, itoa_negs u (by omega)]; rfl)
    have HU := Lib.hid hu
    clear hu
    go_enter Tryd.func14, Tryd.ntmps14
    go_wp2_with fail
    go_at_call 45
    refine (rdig_any u _ _ (by have := HU.out; omega) HU.out).mono ?_
    rintro e w2 ⟨rfl, b2⟩
    go_wp2_with fail
    go_ret
    exact ⟨congrArg (fun x => Ending.returned (Value.string x)) (ext (by rw [HE.out]; simp only [app_data]; rfl)), b2⟩
  · obtain ⟨u, hu⟩ : ∃ u : Nat, n = (u : Int) := ⟨n.toNat, by omega⟩
    have hlen : (bs (Lib.decDigits u)).size ≤ 19 := dd_len u (by omega)
    have HE := Lib.hid (show encInt n = Lib.decDigits u ++ [59] by rw [hu, encInt, itoa_nat])
    have HU := Lib.hid hu
    clear hu
    go_enter Tryd.func14, Tryd.ntmps14
    go_wp2_with fail
    go_at_call 45
    refine (rdig_any u _ _ (by have := HU.out; omega) (by rw [HU.out])).mono ?_
    rintro e w2 ⟨rfl, b2⟩
    go_wp2_with fail
    go_ret
    exact ⟨congrArg (fun x => Ending.returned (Value.string x)) (ext (by rw [HE.out]; simp only [app_data]; rfl)), b2⟩

theorem rwNum_pos (n : Int) (h0 : 0 ≤ n) (h1 : n ≤ 9223372036854775807) (w : World) :
    Calls Tryd.prog 12 #[.int .i64 n] w fun e w' => e = .returned (.string (bs (encInt n))) ∧ Below w.heap.size w w' := by
  have hn : ¬ n < 0 := by omega
  go_enter Tryd.func12, Tryd.ntmps12
  go_wp2_with fail
  go_at_call 14
  refine (rwInt_any n (by omega) h1 _).mono ?_
  rintro e w2 ⟨rfl, b2⟩
  go_wp2_with fail
  go_ret
  exact ⟨rfl, b2⟩
theorem rwNum_neg (n : Int) (h0 : n < 0) (w : World) :
    Calls Tryd.prog 12 #[.int .i64 n] w fun e w' => e = .returned (.string (bs [])) ∧ Below w.heap.size w w' := by
  go_enter Tryd.func12, Tryd.ntmps12
  go_wp2_with fail
  go_ret
  exact ⟨rfl, Below.refl _ _⟩

theorem rwText_any (s : ByteArray) (hs : s.size ≤ 1099511627776) (w : World) :
    Calls Tryd.prog 16 #[.string s] w fun e w' => e = .returned (.string (bs (encText s.data.toList))) ∧ Below w.heap.size w w' := by
  have hlen : (bs (Lib.decDigits s.size)).size ≤ 19 := dd_len s.size (by omega)
  have HE := Lib.hid (show encText s.data.toList = Lib.decDigits s.size ++ [58] ++ s.data.toList ++ [44] by
    rw [encText, itoa_nat]; simp)
  go_enter Tryd.func16, Tryd.ntmps16
  go_wp2_with fail
  go_at_call 45
  refine (rdig_any s.size _ _ (by omega) rfl).mono ?_
  rintro e w2 ⟨rfl, b2⟩
  go_wp2_with fail
  go_ret
  exact ⟨congrArg (fun x => Ending.returned (Value.string x)) (ext (by rw [HE.out]; simp only [app_data]; rfl)), b2⟩

set_option maxHeartbeats 1000000 in
theorem rwNums_any (a : Option Addr) (cap : Nat) (l : List Int) (w : World) (hl : l.length ≤ 100000)
    (hr : ∀ z ∈ l, -9223372036854775808 ≤ z ∧ z ≤ 9223372036854775807)
    (hc : CellsAt w a (l.map (Value.int .i64))) :
    Calls Tryd.prog 18 #[.slice a l.length cap] w fun e w' => e = .returned (.string (bs (encNums l))) ∧ Below w.heap.size w w' := by
  have hlen : (bs (Lib.decDigits l.length)).size ≤ 19 := dd_len l.length (by omega)
  have H0 := Lib.hid (show bs (Lib.decDigits l.length) ++ ⟨#[91]⟩ = bs (numsTo l 0) from ext (by rw [app_data, bs_data, bs_data, numsTo_zero, itoa_nat]))
  have HL := Lib.hid (fun k => numsTo_len l k hl hr)
  have HR := Lib.hid hr
  have HC := Lib.hid hc
  clear hr hc
  go_enter Tryd.func18, Tryd.ntmps18
  go_wp2_with fail
  go_at_call 45
  refine (rdig_any l.length _ _ (by omega) rfl).mono ?_
  rintro e w2 ⟨rfl, b2⟩
  go_wp2_with fail
  go_loopw [4, 3] (fun i x wr => ∃ k : Nat, k ≤ l.length ∧ i = .int .i64 k ∧ x = .string (bs (numsTo l k)) ∧ Below w.heap.size w wr) (fun i _ _ => l.length - (intOf i).toNat)
  case atStart => exact ⟨0, Nat.zero_le _, rfl, congrArg _ H0.out, b2⟩
  case round =>
    obtain ⟨k, hk, rfl, rfl, bk⟩ := hrel
    clear b2
    have hnl : (bs (numsTo l k)).size ≤ 10000000 := HL.out k
    by_cases hlt : k < l.length
    · rcases HC.out with hc | ⟨b, o, rfl, hbs, hcells⟩
      · simp at hc; subst hc; simp at hlt
      · have hcell : wr.cell? ⟨b, o + k, none⟩ = some (.int .i64 (l.getD k 0)) := by
          rw [bk.cell (p := ⟨b, o + k, none⟩) hbs, hcells k (by simpa using hlt)]
          simp [List.getD, hlt]
        obtain ⟨hz1, hz2⟩ := HR.out (l.getD k 0) (by simp [List.getD, hlt])
        have hzl : (bs (encInt (l.getD k 0))).size ≤ 21 := (encInt_len _ hz1 hz2).1
        have HN := Lib.hid (show bs (numsTo l k) ++ bs (encInt (l.getD k 0)) = bs (numsTo l (k + 1)) from ext (by rw [app_data, bs_data, bs_data, bs_data, numsTo_succ l k hlt]))
        clear hcells
        generalize l.getD k 0 = z at *
        go_wp2_with fail
        go_at_call 14
        refine (rwInt_any z hz1 hz2 _).mono ?_
        rintro e w5 ⟨rfl, b5⟩
        replace bk := bk.trans (b5.mono bk.size)
        clear b5
        go_wp2_with fail
        go_roundw
        case rel => exact ⟨k + 1, by omega, by go_num, congrArg _ HN.out, bk⟩
        case measure => simp [intOf]; omega
    · obtain rfl : k = l.length := by omega
      go_wp2_with fail
      go_ret
      exact ⟨congrArg (fun x => Ending.returned (Value.string x)) (ext (by rw [app_data, bs_data, bs_data, numsTo_all])), bk⟩

set_option maxHeartbeats 1000000 in
theorem rwTexts_any (a : Option Addr) (cap : Nat) (l : List ByteArray) (w : World) (hr : (encTexts l).length ≤ 1000000000)
    (hc : CellsAt w a (l.map Value.string)) :
    Calls Tryd.prog 20 #[.slice a l.length cap] w fun e w' => e = .returned (.string (bs (encTexts l))) ∧ Below w.heap.size w w' := by
  have hl : l.length ≤ 1000000000 := Nat.le_trans (encTexts_le l) hr
  have hlen : (bs (Lib.decDigits l.length)).size ≤ 19 := dd_len l.length (by omega)
  have H0 := Lib.hid (show bs (Lib.decDigits l.length) ++ ⟨#[91]⟩ = bs (textsTo l 0) from ext (by rw [app_data, bs_data, bs_data, textsTo_zero, itoa_nat]))
  have HL := Lib.hid (fun k => Nat.le_trans (textsTo_len l k) hr)
  have HR := Lib.hid (fun k (h : k < l.length) => Nat.le_trans (text_le l k h) hr)
  have HC := Lib.hid hc
  clear hr hc
  go_enter Tryd.func20, Tryd.ntmps20
  go_wp2_with fail
  go_at_call 45
  refine (rdig_any l.length _ _ (by omega) rfl).mono ?_
  rintro e w2 ⟨rfl, b2⟩
  go_wp2_with fail
  go_loopw [4, 3] (fun i x wr => ∃ k : Nat, k ≤ l.length ∧ i = .int .i64 k ∧ x = .string (bs (textsTo l k)) ∧ Below w.heap.size w wr) (fun i _ _ => l.length - (intOf i).toNat)
  case atStart => exact ⟨0, Nat.zero_le _, rfl, congrArg _ H0.out, b2⟩
  case round =>
    obtain ⟨k, hk, rfl, rfl, bk⟩ := hrel
    clear b2
    have hnl : (bs (textsTo l k)).size ≤ 1000000000 := HL.out k
    by_cases hlt : k < l.length
    · rcases HC.out with hc | ⟨b, o, rfl, hbs, hcells⟩
      · simp at hc; subst hc; simp at hlt
      · have hcell : wr.cell? ⟨b, o + k, none⟩ = some (.string (l.getD k .empty)) := by
          rw [bk.cell (p := ⟨b, o + k, none⟩) hbs, hcells k (by simpa using hlt)]
          simp [List.getD, hlt]
        have hz1 := HR.out k hlt
        have hzl : (bs (encText (l.getD k .empty).data.toList)).size ≤ 1000000000 := hz1
        have hzs : (l.getD k .empty).size ≤ 1000000000 := Nat.le_trans (encText_ge _) hz1
        have HN := Lib.hid (show bs (textsTo l k) ++ bs (encText (l.getD k .empty).data.toList) = bs (textsTo l (k + 1)) from ext (by rw [app_data, bs_data, bs_data, bs_data, textsTo_succ l k hlt]))
        clear hcells
        generalize l.getD k .empty = z at *
        go_wp2_with fail
        go_at_call 16
        refine (rwText_any z (by omega) _).mono ?_
        rintro e w5 ⟨rfl, b5⟩
        replace bk := bk.trans (b5.mono bk.size)
        clear b5
        go_wp2_with fail
        go_roundw
        case rel => exact ⟨k + 1, by omega, by go_num, congrArg _ HN.out, bk⟩
        case measure => simp [intOf]; omega
    · obtain rfl : k = l.length := by omega
      go_wp2_with fail
      go_ret
      exact ⟨congrArg (fun x => Ending.returned (Value.string x)) (ext (by rw [app_data, bs_data, bs_data, textsTo_all])), bk⟩
end Go.Proofs.YtenlbohacgamlaaDoor
