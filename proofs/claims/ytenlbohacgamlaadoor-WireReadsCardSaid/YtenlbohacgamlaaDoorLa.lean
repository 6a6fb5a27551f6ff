/-
  WireAgain: the walk: whatever string, whatever kind of value.
-/
import Derived.Test.YtenlbohacgamlaaDoorSk
namespace Go.Proofs.YtenlbohacgamlaaDoor
open Go.RowKit WireM
set_option linter.unusedVariables false
set_option linter.unusedSimpArgs false

theorem Rd.below {w w' : World} {b : Nat} {s : ByteArray} {f : Bool} (h : Rd w b s f) (hb : Below w.heap.size w w') : Rd w' b s f := by
  have := hb.block b h.lt
  exact this.trans h
theorem own_cells {w : World} {base : Nat} {ty : TypeId} {v : Value} {n : Nat} {xs : List Value} (h : w.ownsRow base ty 1 v n xs) (hn : n = xs.length) : ∃ a cap, v = .slice a n cap ∧ CellsAt w a xs := by
  rcases h.2 with ⟨rfl, h0⟩ | ⟨g, cap, cur, rfl, hb, hg, hnc, hcm, hcs, htake⟩
  · subst h0
    exact ⟨none, 0, rfl, .inl (List.eq_nil_of_length_eq_zero hn.symm)⟩
  · refine ⟨_, cap, rfl, .inr ⟨g, 0, rfl, (h.lt g rfl).2, fun i hi => ?_⟩⟩
    have h2 := h.cells (g := g) rfl i xs[i] (by simp [hi])
    have hadd : (⟨g, 0, none⟩ : Addr).add i = ⟨g, i, none⟩ := by unfold Addr.add; split <;> simp_all
    rw [hadd] at h2
    rw [List.getElem?_eq_getElem hi, Nat.zero_add]
    exact h2
theorem fin_all {s : ByteArray} {X t : List UInt8} (h : s.data.toList = X ++ t) (h0 : (bs t).size = 0) : ((bs X).toList == s.toList) = true := by
  have ht : t = [] := List.eq_nil_of_length_eq_zero h0
  rw [Lib.toList_data, Lib.toList_data, bs_data, h, ht, List.append_nil]
  exact beq_self_eq_true _
theorem fin_part {s : ByteArray} {X t : List UInt8} (h : s.data.toList = X ++ t) : ((bs X).toList == (s.extract 0 (max 0 (min ((s.size : Int) - ((bs t).size : Int)) (s.size : Int))).toNat).toList) = true := by
  have e1 : s.size = s.data.toList.length := by simp
  have e2 := congrArg List.length h
  rw [List.length_append] at e2
  have e3 : (max 0 (min ((s.size : Int) - ((bs t).size : Int)) (s.size : Int))).toNat = X.length := by rw [bs_size]; omega
  rw [e3, Lib.toList_data, Lib.toList_data, bs_data, Lib.extract_data, h]
  simp
theorem encNums_ge (l : List Int) : l.length ≤ (encNums l).length := by
  have h : ∀ l : List Int, l.length ≤ (l.flatMap encInt).length := by
    intro l
    induction l with
    | nil => simp
    | cons a l ih =>
      have h1 : 1 ≤ (encInt a).length := by simp only [encInt, List.length_append, List.length_cons, List.length_nil]; omega
      simp only [List.flatMap_cons, List.length_append, List.length_cons]
      omega
  have := h l
  simp only [encNums, encList, List.length_append, List.length_cons, List.length_nil]
  omega
theorem again_long (s : ByteArray) (what : Int) (w : World) (ht : Tab w) (hs : 400 < s.size) (hm : s.size ≤ 9223372036854775807) :
    Calls Tryd.prog 6 #[.string s, .int .i64 what] w fun e w' => e = .returned (.bool true) ∧ Below w.heap.size w w' := by
  go_enter Tryd.func6, Tryd.ntmps6
  go_wp2_with (go_at_call 9; refine (small_any _ ht).mono ?_; rintro e w1 ⟨rfl, b1⟩)
  go_ret
  exact ⟨rfl, b1⟩

set_option maxHeartbeats 1000000 in
theorem again_0 (s : ByteArray) (what : Int) (w : World) (ht : Tab w) (hs : s.size ≤ 400) (hk : what % 5 = 0) :
    Calls Tryd.prog 6 #[.string s, .int .i64 what] w fun e w' => e = .returned (.bool true) ∧ Below w.heap.size w w' := by
  have HK := Lib.hid hk
  clear hk
  go_enter Tryd.func6, Tryd.ntmps6
  go_wp2_with fail
  go_at_call 9
  refine (small_any _ ht).mono ?_
  rintro e w1 ⟨rfl, b1⟩
  go_wp2_with fail
  go_at_call 21
  refine (open_any s _).mono ?_
  rintro e w2 ⟨rfl, hr, b2⟩
  have hB := b1.size
  have hlt := hr.lt
  replace b1 := below_step b1 b2
  clear b2
  go_wp2_with fail
  go_at_call 23
  refine (kind_any what 0 .empty none none 0 0 0 0 _).mono ?_
  rintro e w3 ⟨rfl, b3⟩
  rw [HK.out]
  replace hr := hr.below b3
  replace b1 := below_step b1 b3
  replace hlt := hr.lt
  clear b3
  go_wp2_with fail
  go_at_call 24
  refine (rNum_any _ s _ _ hr (by omega)).mono ?_
  rintro e w4 hp
  rcases hd : rdNum s.data.toList with _ | ⟨v, t⟩
  · rw [hd] at hp
    obtain ⟨rfl, ho⟩ := hp
    have HD := Lib.hid hd
    clear hd
    replace b1 := b1.trans (below_of_grownBy ho.2 hB hlt)
    go_wp2_with fail
    go_at_call 11
    refine (num_any 0 (by omega) (by omega) _ (tab_step ht b1)).mono ?_
    rintro e w5 ⟨rfl, b5⟩
    have hr5 := ho.1.below b5
    replace b1 := below_step b1 b5
    have hz : (bs []).size = 0 := rfl
    go_wp2_with fail
    go_at_call 36
    refine (left_any _ _ _ _ hr5).mono ?_
    rintro e w6 ⟨rfl, rfl⟩
    go_wp2_with fail
    go_at_call 38
    refine (done_any _ _ _ _ hr5).mono ?_
    rintro e w6 ⟨rfl, rfl⟩
    go_wp2_with fail
    go_ret
    exact ⟨rfl, b1⟩
  · rw [hd] at hp
    obtain ⟨rfl, ho⟩ := hp
    have HC := Lib.hid (rdNum_canon hd).1
    have hsz : (bs t).size ≤ s.size := by
      have e1 : s.size = s.data.toList.length := by simp
      have e2 := congrArg List.length HC.out
      rw [List.length_append] at e2
      rw [bs_size]; omega
    obtain ⟨_, hv0, hv1⟩ := rdNum_canon hd
    have HD := Lib.hid hd
    clear hd
    replace b1 := b1.trans (below_of_grownBy ho.2 hB hlt)
    go_wp2_with fail
    go_at_call 11
    refine (num_any v hv0 hv1 _ (tab_step ht b1)).mono ?_
    rintro e w5 ⟨rfl, b5⟩
    have hr5 := ho.1.below b5
    replace b1 := below_step b1 b5
    go_wp2_with fail
    go_at_call 36
    refine (left_any _ _ _ _ hr5).mono ?_
    rintro e w6 ⟨rfl, rfl⟩
    by_cases h0 : (bs t).size = 0
    · have hp : ¬ 0 < (bs t).size := by omega
      have H0 := Lib.hid h0
      go_wp2_with fail
      go_at_call 38
      refine (done_any _ _ _ _ hr5).mono ?_
      rintro e w6 ⟨rfl, rfl⟩
      go_wp2_with fail
      go_at_call 36
      refine (left_any _ _ _ _ hr5).mono ?_
      rintro e w6 ⟨rfl, rfl⟩
      go_wp2_with fail
      go_ret
      exact ⟨congrArg (fun b => Ending.returned (.bool b)) (fin_all HC.out H0.out), b1⟩
    · have h1 : 0 < (bs t).size := by omega
      go_wp2_with fail
      go_at_call 36
      refine (left_any _ _ _ _ hr5).mono ?_
      rintro e w6 ⟨rfl, rfl⟩
      go_wp2_with fail
      go_ret
      exact ⟨congrArg (fun b => Ending.returned (.bool b)) (fin_part HC.out), b1⟩

set_option maxHeartbeats 1000000 in
theorem again_1 (s : ByteArray) (what : Int) (w : World) (ht : Tab w) (hs : s.size ≤ 400) (hk : what % 5 = 1) :
    Calls Tryd.prog 6 #[.string s, .int .i64 what] w fun e w' => e = .returned (.bool true) ∧ Below w.heap.size w w' := by
  have HK := Lib.hid hk
  clear hk
  go_enter Tryd.func6, Tryd.ntmps6
  go_wp2_with fail
  go_at_call 9
  refine (small_any _ ht).mono ?_
  rintro e w1 ⟨rfl, b1⟩
  go_wp2_with fail
  go_at_call 21
  refine (open_any s _).mono ?_
  rintro e w2 ⟨rfl, hr, b2⟩
  have hB := b1.size
  have hlt := hr.lt
  replace b1 := below_step b1 b2
  clear b2
  go_wp2_with fail
  go_at_call 23
  refine (kind_any what 0 .empty none none 0 0 0 0 _).mono ?_
  rintro e w3 ⟨rfl, b3⟩
  rw [HK.out]
  replace hr := hr.below b3
  replace b1 := below_step b1 b3
  replace hlt := hr.lt
  clear b3
  go_wp2_with fail
  go_at_call 26
  refine (rInt_any _ s _ _ hr (by omega)).mono ?_
  rintro e w4 hp
  rcases hd : rdInt s.data.toList with _ | ⟨v, t⟩
  · rw [hd] at hp
    obtain ⟨rfl, ho⟩ := hp
    have HD := Lib.hid hd
    clear hd
    replace b1 := b1.trans (below_of_grownBy ho.2 hB hlt)
    go_wp2_with fail
    go_at_call 13
    refine (int_any 0 (by omega) (by omega) _ (tab_step ht b1)).mono ?_
    rintro e w5 ⟨rfl, b5⟩
    have hr5 := ho.1.below b5
    replace b1 := below_step b1 b5
    have hz : (bs []).size = 0 := rfl
    go_wp2_with fail
    go_at_call 36
    refine (left_any _ _ _ _ hr5).mono ?_
    rintro e w6 ⟨rfl, rfl⟩
    go_wp2_with fail
    go_at_call 38
    refine (done_any _ _ _ _ hr5).mono ?_
    rintro e w6 ⟨rfl, rfl⟩
    go_wp2_with fail
    go_ret
    exact ⟨rfl, b1⟩
  · rw [hd] at hp
    obtain ⟨rfl, ho⟩ := hp
    have HC := Lib.hid (rdInt_canon hd).1
    have hsz : (bs t).size ≤ s.size := by
      have e1 : s.size = s.data.toList.length := by simp
      have e2 := congrArg List.length HC.out
      rw [List.length_append] at e2
      rw [bs_size]; omega
    obtain ⟨_, hv0, hv1⟩ := rdInt_canon hd
    have HD := Lib.hid hd
    clear hd
    replace b1 := b1.trans (below_of_grownBy ho.2 hB hlt)
    go_wp2_with fail
    go_at_call 13
    refine (int_any v hv0 hv1 _ (tab_step ht b1)).mono ?_
    rintro e w5 ⟨rfl, b5⟩
    have hr5 := ho.1.below b5
    replace b1 := below_step b1 b5
    go_wp2_with fail
    go_at_call 36
    refine (left_any _ _ _ _ hr5).mono ?_
    rintro e w6 ⟨rfl, rfl⟩
    by_cases h0 : (bs t).size = 0
    · have hp : ¬ 0 < (bs t).size := by omega
      have H0 := Lib.hid h0
      go_wp2_with fail
      go_at_call 38
      refine (done_any _ _ _ _ hr5).mono ?_
      rintro e w6 ⟨rfl, rfl⟩
      go_wp2_with fail
      go_at_call 36
      refine (left_any _ _ _ _ hr5).mono ?_
      rintro e w6 ⟨rfl, rfl⟩
      go_wp2_with fail
      go_ret
      exact ⟨congrArg (fun b => Ending.returned (.bool b)) (fin_all HC.out H0.out), b1⟩
    · have h1 : 0 < (bs t).size := by omega
      go_wp2_with fail
      go_at_call 36
      refine (left_any _ _ _ _ hr5).mono ?_
      rintro e w6 ⟨rfl, rfl⟩
      go_wp2_with fail
      go_ret
      exact ⟨congrArg (fun b => Ending.returned (.bool b)) (fin_part HC.out), b1⟩

set_option maxHeartbeats 1000000 in
theorem again_2 (s : ByteArray) (what : Int) (w : World) (ht : Tab w) (hs : s.size ≤ 400) (hk : what % 5 = 2) :
    Calls Tryd.prog 6 #[.string s, .int .i64 what] w fun e w' => e = .returned (.bool true) ∧ Below w.heap.size w w' := by
  have HK := Lib.hid hk
  clear hk
  go_enter Tryd.func6, Tryd.ntmps6
  go_wp2_with fail
  go_at_call 9
  refine (small_any _ ht).mono ?_
  rintro e w1 ⟨rfl, b1⟩
  go_wp2_with fail
  go_at_call 21
  refine (open_any s _).mono ?_
  rintro e w2 ⟨rfl, hr, b2⟩
  have hB := b1.size
  have hlt := hr.lt
  replace b1 := below_step b1 b2
  clear b2
  go_wp2_with fail
  go_at_call 23
  refine (kind_any what 0 .empty none none 0 0 0 0 _).mono ?_
  rintro e w3 ⟨rfl, b3⟩
  rw [HK.out]
  replace hr := hr.below b3
  replace b1 := below_step b1 b3
  replace hlt := hr.lt
  clear b3
  go_wp2_with fail
  go_at_call 28
  refine (rText_any _ s _ _ hr (by omega)).mono ?_
  rintro e w4 hp
  rcases hd : rdText s.data.toList with _ | ⟨v, t⟩
  · rw [hd] at hp
    obtain ⟨rfl, ho⟩ := hp
    have HD := Lib.hid hd
    clear hd
    replace b1 := b1.trans (below_of_grownBy ho.2 hB hlt)
    go_wp2_with fail
    go_at_call 15
    refine (text_any (bs []) (by decide) _ (tab_step ht b1)).mono ?_
    rintro e w5 ⟨rfl, b5⟩
    have hr5 := ho.1.below b5
    replace b1 := below_step b1 b5
    have hz : (bs []).size = 0 := rfl
    go_wp2_with fail
    go_at_call 36
    refine (left_any _ _ _ _ hr5).mono ?_
    rintro e w6 ⟨rfl, rfl⟩
    go_wp2_with fail
    go_at_call 38
    refine (done_any _ _ _ _ hr5).mono ?_
    rintro e w6 ⟨rfl, rfl⟩
    go_wp2_with fail
    go_ret
    exact ⟨rfl, b1⟩
  · rw [hd] at hp
    obtain ⟨rfl, ho⟩ := hp
    have HC := Lib.hid (rdText_canon hd)
    have hsz : (bs t).size ≤ s.size := by
      have e1 : s.size = s.data.toList.length := by simp
      have e2 := congrArg List.length HC.out
      rw [List.length_append] at e2
      rw [bs_size]; omega
    have hv0 : v.size ≤ 1099511627776 := by
      have hlen : s.data.toList.length ≤ 400 := by simpa using hs
      have e2 := congrArg List.length HC.out
      rw [List.length_append] at e2
      have := encText_ge v
      omega
    have HD := Lib.hid hd
    clear hd
    replace b1 := b1.trans (below_of_grownBy ho.2 hB hlt)
    go_wp2_with fail
    go_at_call 15
    refine (text_any v hv0 _ (tab_step ht b1)).mono ?_
    rintro e w5 ⟨rfl, b5⟩
    have hr5 := ho.1.below b5
    replace b1 := below_step b1 b5
    go_wp2_with fail
    go_at_call 36
    refine (left_any _ _ _ _ hr5).mono ?_
    rintro e w6 ⟨rfl, rfl⟩
    by_cases h0 : (bs t).size = 0
    · have hp : ¬ 0 < (bs t).size := by omega
      have H0 := Lib.hid h0
      go_wp2_with fail
      go_at_call 38
      refine (done_any _ _ _ _ hr5).mono ?_
      rintro e w6 ⟨rfl, rfl⟩
      go_wp2_with fail
      go_at_call 36
      refine (left_any _ _ _ _ hr5).mono ?_
      rintro e w6 ⟨rfl, rfl⟩
      go_wp2_with fail
      go_ret
      exact ⟨congrArg (fun b => Ending.returned (.bool b)) (fin_all HC.out H0.out), b1⟩
    · have h1 : 0 < (bs t).size := by omega
      go_wp2_with fail
      go_at_call 36
      refine (left_any _ _ _ _ hr5).mono ?_
      rintro e w6 ⟨rfl, rfl⟩
      go_wp2_with fail
      go_ret
      exact ⟨congrArg (fun b => Ending.returned (.bool b)) (fin_part HC.out), b1⟩

set_option maxHeartbeats 1000000 in
theorem again_3 (s : ByteArray) (what : Int) (w : World) (ht : Tab w) (hs : s.size ≤ 400) (hk : what % 5 = 3) :
    Calls Tryd.prog 6 #[.string s, .int .i64 what] w fun e w' => e = .returned (.bool true) ∧ Below w.heap.size w w' := by
  have HK := Lib.hid hk
  clear hk
  go_enter Tryd.func6, Tryd.ntmps6
  go_wp2_with fail
  go_at_call 9
  refine (small_any _ ht).mono ?_
  rintro e w1 ⟨rfl, b1⟩
  go_wp2_with fail
  go_at_call 21
  refine (open_any s _).mono ?_
  rintro e w2 ⟨rfl, hr, b2⟩
  have hB := b1.size
  have hlt := hr.lt
  replace b1 := below_step b1 b2
  clear b2
  go_wp2_with fail
  go_at_call 23
  refine (kind_any what 0 .empty none none 0 0 0 0 _).mono ?_
  rintro e w3 ⟨rfl, b3⟩
  rw [HK.out]
  replace hr := hr.below b3
  replace b1 := below_step b1 b3
  replace hlt := hr.lt
  clear b3
  go_wp2_with fail
  go_at_call 31
  refine (rNums_any _ s _ _ hr (fun h => by cases h) (by omega)).mono ?_
  rintro e w4 hp
  rcases hd : rdNums s.data.toList with _ | ⟨v, t⟩
  · rw [hd] at hp
    obtain ⟨rfl, ho⟩ := hp
    have HD := Lib.hid hd
    clear hd
    replace b1 := b1.trans (below_of_grownBy ho.2 hB hlt)
    go_wp2_with fail
    go_at_call 17
    refine (nums_any none 0 [] _ (tab_step ht b1) (by decide) (by simp) (.inl rfl)).mono ?_
    rintro e w5 ⟨rfl, b5⟩
    have hr5 := ho.1.below b5
    replace b1 := below_step b1 b5
    have hz : (bs []).size = 0 := rfl
    go_wp2_with fail
    go_at_call 36
    refine (left_any _ _ _ _ hr5).mono ?_
    rintro e w6 ⟨rfl, rfl⟩
    go_wp2_with fail
    go_at_call 38
    refine (done_any _ _ _ _ hr5).mono ?_
    rintro e w6 ⟨rfl, rfl⟩
    go_wp2_with fail
    go_ret
    exact ⟨rfl, b1⟩
  · rw [hd] at hp
    obtain ⟨⟨x, rfl, hv⟩, ho⟩ := hp
    obtain ⟨a, cap, rfl, hcells⟩ := own_cells hv (by simp)
    have HC := Lib.hid (rdNums_canon hd)
    have hsz : (bs t).size ≤ s.size := by
      have e1 : s.size = s.data.toList.length := by simp
      have e2 := congrArg List.length HC.out
      rw [List.length_append] at e2
      rw [bs_size]; omega
    have hl : v.length ≤ 100000 := by
      have hlen : s.data.toList.length ≤ 400 := by simpa using hs
      have e2 := congrArg List.length HC.out
      rw [List.length_append] at e2
      have := encNums_ge v
      omega
    have HR := Lib.hid (rdNums_range hd)
    have HCC := Lib.hid hcells
    clear hcells hv
    have HD := Lib.hid hd
    clear hd
    replace b1 := b1.trans (below_of_grownBy ho.2 hB hlt)
    go_wp2_with fail
    go_at_call 17
    refine (nums_any a cap v _ (tab_step ht b1) hl HR.out HCC.out).mono ?_
    rintro e w5 ⟨rfl, b5⟩
    have hr5 := ho.1.below b5
    replace b1 := below_step b1 b5
    go_wp2_with fail
    go_at_call 36
    refine (left_any _ _ _ _ hr5).mono ?_
    rintro e w6 ⟨rfl, rfl⟩
    by_cases h0 : (bs t).size = 0
    · have hp : ¬ 0 < (bs t).size := by omega
      have H0 := Lib.hid h0
      go_wp2_with fail
      go_at_call 38
      refine (done_any _ _ _ _ hr5).mono ?_
      rintro e w6 ⟨rfl, rfl⟩
      go_wp2_with fail
      go_at_call 36
      refine (left_any _ _ _ _ hr5).mono ?_
      rintro e w6 ⟨rfl, rfl⟩
      go_wp2_with fail
      go_ret
      exact ⟨congrArg (fun b => Ending.returned (.bool b)) (fin_all HC.out H0.out), b1⟩
    · have h1 : 0 < (bs t).size := by omega
      go_wp2_with fail
      go_at_call 36
      refine (left_any _ _ _ _ hr5).mono ?_
      rintro e w6 ⟨rfl, rfl⟩
      go_wp2_with fail
      go_ret
      exact ⟨congrArg (fun b => Ending.returned (.bool b)) (fin_part HC.out), b1⟩

set_option maxHeartbeats 1000000 in
theorem again_4 (s : ByteArray) (what : Int) (w : World) (ht : Tab w) (hs : s.size ≤ 400) (hk0 : ¬ what % 5 = 0) (hk1 : ¬ what % 5 = 1) (hk2 : ¬ what % 5 = 2) (hk3 : ¬ what % 5 = 3) :
    Calls Tryd.prog 6 #[.string s, .int .i64 what] w fun e w' => e = .returned (.bool true) ∧ Below w.heap.size w w' := by
  have HK := Lib.hid (show what % 5 = 4 by omega)
  clear hk0 hk1 hk2 hk3
  go_enter Tryd.func6, Tryd.ntmps6
  go_wp2_with fail
  go_at_call 9
  refine (small_any _ ht).mono ?_
  rintro e w1 ⟨rfl, b1⟩
  go_wp2_with fail
  go_at_call 21
  refine (open_any s _).mono ?_
  rintro e w2 ⟨rfl, hr, b2⟩
  have hB := b1.size
  have hlt := hr.lt
  replace b1 := below_step b1 b2
  clear b2
  go_wp2_with fail
  go_at_call 23
  refine (kind_any what 0 .empty none none 0 0 0 0 _).mono ?_
  rintro e w3 ⟨rfl, b3⟩
  rw [HK.out]
  replace hr := hr.below b3
  replace b1 := below_step b1 b3
  replace hlt := hr.lt
  clear b3
  go_wp2_with fail
  go_at_call 34
  refine (rTexts_any _ s _ _ hr (fun h => by cases h) (by omega)).mono ?_
  rintro e w4 hp
  rcases hd : rdTexts s.data.toList with _ | ⟨v, t⟩
  · rw [hd] at hp
    obtain ⟨rfl, ho⟩ := hp
    have HD := Lib.hid hd
    clear hd
    replace b1 := b1.trans (below_of_grownBy ho.2 hB hlt)
    go_wp2_with fail
    go_at_call 19
    refine (texts_any none 0 [] _ (tab_step ht b1) (by decide +kernel) (.inl rfl)).mono ?_
    rintro e w5 ⟨rfl, b5⟩
    have hr5 := ho.1.below b5
    replace b1 := below_step b1 b5
    have hz : (bs []).size = 0 := rfl
    go_wp2_with fail
    go_at_call 36
    refine (left_any _ _ _ _ hr5).mono ?_
    rintro e w6 ⟨rfl, rfl⟩
    go_wp2_with fail
    go_at_call 38
    refine (done_any _ _ _ _ hr5).mono ?_
    rintro e w6 ⟨rfl, rfl⟩
    go_wp2_with fail
    go_ret
    exact ⟨rfl, b1⟩
  · rw [hd] at hp
    obtain ⟨⟨x, rfl, hv⟩, ho⟩ := hp
    obtain ⟨a, cap, rfl, hcells⟩ := own_cells hv (by simp)
    have HC := Lib.hid (rdTexts_canon hd)
    have hsz : (bs t).size ≤ s.size := by
      have e1 : s.size = s.data.toList.length := by simp
      have e2 := congrArg List.length HC.out
      rw [List.length_append] at e2
      rw [bs_size]; omega
    have HR := Lib.hid (show (encTexts v).length ≤ 1000000000 by
      have hlen : s.data.toList.length ≤ 400 := by simpa using hs
      have e2 := congrArg List.length HC.out
      rw [List.length_append] at e2
      omega)
    have HCC := Lib.hid hcells
    clear hcells hv
    have HD := Lib.hid hd
    clear hd
    replace b1 := b1.trans (below_of_grownBy ho.2 hB hlt)
    go_wp2_with fail
    go_at_call 19
    refine (texts_any a cap v _ (tab_step ht b1) HR.out HCC.out).mono ?_
    rintro e w5 ⟨rfl, b5⟩
    have hr5 := ho.1.below b5
    replace b1 := below_step b1 b5
    go_wp2_with fail
    go_at_call 36
    refine (left_any _ _ _ _ hr5).mono ?_
    rintro e w6 ⟨rfl, rfl⟩
    by_cases h0 : (bs t).size = 0
    · have hp : ¬ 0 < (bs t).size := by omega
      have H0 := Lib.hid h0
      go_wp2_with fail
      go_at_call 38
      refine (done_any _ _ _ _ hr5).mono ?_
      rintro e w6 ⟨rfl, rfl⟩
      go_wp2_with fail
      go_at_call 36
      refine (left_any _ _ _ _ hr5).mono ?_
      rintro e w6 ⟨rfl, rfl⟩
      go_wp2_with fail
      go_ret
      exact ⟨congrArg (fun b => Ending.returned (.bool b)) (fin_all HC.out H0.out), b1⟩
    · have h1 : 0 < (bs t).size := by omega
      go_wp2_with fail
      go_at_call 36
      refine (left_any _ _ _ _ hr5).mono ?_
      rintro e w6 ⟨rfl, rfl⟩
      go_wp2_with fail
      go_ret
      exact ⟨congrArg (fun b => Ending.returned (.bool b)) (fin_part HC.out), b1⟩

/-- ████ WireAgain returns true. -/
theorem again_any (s : ByteArray) (what : Int) (w : World) (ht : Tab w) (hm : s.size ≤ 9223372036854775807) :
    Calls Tryd.prog 6 #[.string s, .int .i64 what] w fun e w' => e = .returned (.bool true) ∧ Below w.heap.size w w' := by
  by_cases hs : s.size ≤ 400
  · by_cases h0 : what % 5 = 0
    · exact again_0 s what w ht hs h0
    · by_cases h1 : what % 5 = 1
      · exact again_1 s what w ht hs h1
      · by_cases h2 : what % 5 = 2
        · exact again_2 s what w ht hs h2
        · by_cases h3 : what % 5 = 3
          · exact again_3 s what w ht hs h3
          · exact again_4 s what w ht hs h0 h1 h2 h3
  · exact again_long s what w ht (by omega) hm
end Go.Proofs.YtenlbohacgamlaaDoor
