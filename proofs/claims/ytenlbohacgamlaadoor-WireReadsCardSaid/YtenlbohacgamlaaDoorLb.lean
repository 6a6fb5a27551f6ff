/-
  WireBack: the walk.
-/
import Derived.Test.YtenlbohacgamlaaDoorFw
import Derived.Test.YtenlbohacgamlaaDoorEq
namespace Go.Proofs.YtenlbohacgamlaaDoor
open Go.RowKit WireM
set_option linter.unusedVariables false
set_option linter.unusedSimpArgs false

def encAll (vs : List V) : List UInt8 := vs.flatMap encV
theorem encAll_succ (vs : List V) (k : Nat) (h : k < vs.length) : encAll (vs.take (k + 1)) = encAll (vs.take k) ++ encV vs[k] := by
  unfold encAll; rw [List.take_succ_eq_append_getElem h, List.flatMap_append]; simp
theorem encAll_drop (vs : List V) (k : Nat) (h : k < vs.length) : encAll (vs.drop k) = encV vs[k] ++ encAll (vs.drop (k + 1)) := by
  unfold encAll; rw [List.drop_eq_getElem_cons h, List.flatMap_cons]
theorem encNums_small (l : List Int) (h0 : l.length ≤ 400) (h : ∀ z ∈ l, -9223372036854775808 ≤ z ∧ z ≤ 9223372036854775807) : (encNums l).length ≤ 200000 := by
  have h1 := flatMap_len l h
  have h2 := (itoa_len (l.length : Int) (by omega) (by omega)).1
  simp only [encNums, encList, List.length_append, List.length_cons, List.length_nil]
  omega
theorem encV_len {B : Nat} {w : World} (v : V) (hv : v.Ok B w) (hs : v.Small) : (encV v).length ≤ 200000 := by
  unfold encV
  split
  · have hr := numOf_range hv.n0 hv.n1
    have := (encInt_len (numOf v.N) (by omega) hr.2).1; omega
  · split
    · have := (encInt_len v.N hv.n0 hv.n1).1; omega
    · split
      · have := encText_le v.S hs.s; omega
      · split
        · exact encNums_small v.L hs.l hv.l
        · exact encTexts_small v.T hs.tl hs.t
theorem encAll_len {B : Nat} {w : World} (vs : List V) (hv : ∀ v ∈ vs, v.Ok B w) (hs : ∀ v ∈ vs, v.Small) : (encAll vs).length ≤ 200000 * vs.length := by
  unfold encAll
  induction vs with
  | nil => simp
  | cons a l ih =>
    have h1 := ih (fun x hx => hv x (List.mem_cons_of_mem _ hx)) (fun x hx => hs x (List.mem_cons_of_mem _ hx))
    have h2 := encV_len a (hv a List.mem_cons_self) (hs a List.mem_cons_self)
    simp only [List.flatMap_cons, List.length_append, List.length_cons]
    omega

theorem ValsIn.ok {B : Nat} {w : World} {a : Option Addr} {vs : List V} (h : ValsIn B w a vs) : ∀ v ∈ vs, v.Ok B w := by
  rcases h with rfl | ⟨_, _, _, _, _, h⟩
  · simp
  · exact h
theorem ValsIn.below {B : Nat} {w w' : World} {a : Option Addr} {vs : List V} (h : ValsIn B w a vs) (hb : Below B w w') : ValsIn B w' a vs :=
  h.imp id fun ⟨b, o, h1, h2, h3, h4⟩ => ⟨b, o, h1, h2, fun i hi j hj => (hb.cell (p := ⟨b, o + i * 5 + j, none⟩) h2).trans (h3 i hi j hj), fun v hv => (h4 v hv).below hb⟩

set_option maxHeartbeats 2000000 in
set_option maxRecDepth 100000 in
theorem back_any (a : Option Addr) (cap : Nat) (vs : List V) (tail : ByteArray) (w : World) (ht : Tab w) (hm : vs.length ≤ 9223372036854775807) (htm : tail.size ≤ 9223372036854775807) (hc : ValsIn w.heap.size w a vs) :
    Calls Tryd.prog 5 #[.slice a vs.length cap, .string tail] w fun e w' => e = .returned (.bool true) ∧ Below w.heap.size w w' := by
  have HC := Lib.hid hc
  clear hc
  go_enter Tryd.func5, Tryd.ntmps5
  go_wp2_with fail
  go_at_call 9
  refine (small_any _ ht).mono ?_
  rintro e w1 ⟨rfl, b1⟩
  go_wp2_with fail
  go_at_call 10
  refine (few_any w.heap.size a cap vs _ b1.size hm (HC.out.below b1)).mono ?_
  rintro e w2 ⟨r, rfl, hr, q, rfl⟩
  replace b1 := Go.below_drewN b1 q
  have HR := Lib.hid hr
  clear hr
  cases r
  · go_wp2_with fail
    go_ret
    exact ⟨rfl, b1⟩
  · have hf := HR.out.1 rfl
    have HF := Lib.hid hf
    clear hf
    by_cases htl : tail.size ≤ 400
    · generalize w1.drewN q = w2 at *
      have dt : decide (400 < (tail.size : Int)) = false := by simp; omega
      have HL := Lib.hid (fun k => encAll_len (vs.take k) (fun v hv => HC.out.ok v (List.mem_of_mem_take hv)) (fun v hv => HF.out.2.1 v (List.mem_of_mem_take hv)))
      have hl20 := HF.out.1
      have HD := Lib.hid (show ∀ k, (bs (encAll (vs.drop k) ++ tail.data.toList)).size ≤ 1099511627776 from fun k => by
        have h1 := encAll_len (vs.drop k) (fun v hv => HC.out.ok v (List.mem_of_mem_drop hv)) (fun v hv => HF.out.2.1 v (List.mem_of_mem_drop hv))
        have h2 : (vs.drop k).length ≤ 20 := by simp; omega
        have h3 : tail.data.toList.length ≤ 400 := by simpa using htl
        rw [bs_size, List.length_append]; omega)
      go_wp2_with fail
      go_loopw [7, 6] (fun i x wr => ∃ k : Nat, k ≤ vs.length ∧ i = .int .i64 k ∧ x = .string (bs (encAll (vs.take k))) ∧ Below w.heap.size w wr) (fun i _ _ => vs.length - (intOf i).toNat)
      case atStart => exact ⟨0, Nat.zero_le _, rfl, rfl, b1⟩
      case round =>
        obtain ⟨k, hk, rfl, rfl, bk⟩ := hrel
        have hxl : (bs (encAll (vs.take k))).size ≤ 4000000 := by
          have h1 := HL.out k
          have h2 : (vs.take k).length ≤ 20 := by simp; omega
          rw [bs_size]; omega
        clear b1
        by_cases hlt : k < vs.length
        · rcases HC.out with h1 | ⟨b, o, rfl, hb, hcells, hok⟩
          · subst h1; simp at hlt
          · obtain ⟨v, hv⟩ : ∃ v, v = vs[k] := ⟨_, rfl⟩
            have cc : ∀ j, j < 5 → wr.cell? ⟨b, o + k * 5 + j, none⟩ = v.cells[j]? := fun j hj => by
              rw [bk.cell (p := ⟨b, o + k * 5 + j, none⟩) hb, hcells k hlt j hj, hv]
            have HV := Lib.hid hv
            have HOK := Lib.hid (show v.Ok w.heap.size wr by rw [hv]; exact (hok _ (List.getElem_mem hlt)).below bk)
            have HSM := Lib.hid (show v.Small by rw [hv]; exact HF.out.2.1 _ (List.getElem_mem hlt))
            clear hcells hok hv
            obtain ⟨K, N, S, la, lc, L, ta, tc, T⟩ := v
            have c0 : wr.cell? ⟨b, o + k * 5, none⟩ = some (.int .i64 K) := cc 0 (by omega)
            have c1 : wr.cell? ⟨b, o + k * 5 + 1, none⟩ = some (.int .i64 N) := cc 1 (by omega)
            have c2 : wr.cell? ⟨b, o + k * 5 + 2, none⟩ = some (.string S) := cc 2 (by omega)
            have c3 : wr.cell? ⟨b, o + k * 5 + 3, none⟩ = some (.slice la L.length lc) := cc 3 (by omega)
            have c4 : wr.cell? ⟨b, o + k * 5 + 4, none⟩ = some (.slice ta T.length tc) := cc 4 (by omega)
            clear cc
            have HEL := Lib.hid (encV_len _ HOK.out HSM.out)
            go_wp2_with fail
            go_at_call 42
            refine (write_any w.heap.size ⟨K, N, S, la, lc, L, ta, tc, T⟩ _ (ht.below bk ht.2) bk.size HOK.out HSM.out).mono ?_
            rintro e w5 ⟨rfl, b5⟩
            have hel : (bs (encV ⟨K, N, S, la, lc, L, ta, tc, T⟩)).size ≤ 200000 := HEL.out
            have HN := Lib.hid (show bs (encAll (vs.take k)) ++ bs (encV ⟨K, N, S, la, lc, L, ta, tc, T⟩) = bs (encAll (vs.take (k + 1))) from ext (by
              rw [app_data, bs_data, bs_data, bs_data, encAll_succ vs k hlt, HV.out]))
            replace bk := bk.trans (b5.mono bk.size)
            clear b5
            go_wp2_with fail
            go_roundw
            case rel => exact ⟨k + 1, by omega, by go_num, congrArg _ HN.out, bk⟩
            case measure => simp [intOf]; omega
        · obtain rfl : k = vs.length := by omega
          rw [List.take_length] at hxl
          have HT := Lib.hid (show bs (encAll vs) ++ tail = bs (encAll vs ++ tail.data.toList) from ext (by rw [app_data]; rfl))
          go_wp2_with fail
          go_at_call 21
          refine (open_any _ _).mono ?_
          rintro e w5 ⟨rfl, hr, b5⟩
          rw [HT.out] at hr
          have hBb := bk.size
          replace bk := bk.trans (b5.mono bk.size)
          clear b5
          generalize hbb : wr.heap.size = b at *
          clear hbb
          go_wp2_with fail
          go_loopw [9] (fun i wq => ∃ k : Nat, k ≤ vs.length ∧ i = .int .i64 k ∧ Rd wq b (bs (encAll (vs.drop k) ++ tail.data.toList)) false ∧ Below w.heap.size w wq) (fun i _ => vs.length - (intOf i).toNat)
          case atStart => exact ⟨0, Nat.zero_le _, rfl, hr, bk⟩
          case round =>
            obtain ⟨k, hk, rfl, hrd, bk2⟩ := hrel
            clear hr bk
            by_cases hlt : k < vs.length
            · rcases HC.out with h1 | ⟨bb, o, rfl, hb, hcells, hok⟩
              · subst h1; simp at hlt
              · obtain ⟨v, hv⟩ : ∃ v, v = vs[k] := ⟨_, rfl⟩
                have cc : ∀ j, j < 5 → wr.cell? ⟨bb, o + k * 5 + j, none⟩ = v.cells[j]? := fun j hj => by
                  rw [bk2.cell (p := ⟨bb, o + k * 5 + j, none⟩) hb, hcells k hlt j hj, hv]
                have HV := Lib.hid hv
                have HOK := Lib.hid (show v.Ok w.heap.size wr by rw [hv]; exact (hok _ (List.getElem_mem hlt)).below bk2)
                have HSM := Lib.hid (show v.Small by rw [hv]; exact HF.out.2.1 _ (List.getElem_mem hlt))
                clear hcells hok hv
                obtain ⟨K, N, S, la, lc, L, ta, tc, T⟩ := v
                have c0 : wr.cell? ⟨bb, o + k * 5, none⟩ = some (.int .i64 K) := cc 0 (by omega)
                have c1 : wr.cell? ⟨bb, o + k * 5 + 1, none⟩ = some (.int .i64 N) := cc 1 (by omega)
                have c2 : wr.cell? ⟨bb, o + k * 5 + 2, none⟩ = some (.string S) := cc 2 (by omega)
                have c3 : wr.cell? ⟨bb, o + k * 5 + 3, none⟩ = some (.slice la L.length lc) := cc 3 (by omega)
                have c4 : wr.cell? ⟨bb, o + k * 5 + 4, none⟩ = some (.slice ta T.length tc) := cc 4 (by omega)
                have HZ := Lib.hid (HD.out k)
                clear cc
                go_wp2_with fail
                go_at_call 43
                refine (equal_any w.heap.size b (bs (encAll (vs.drop k) ++ tail.data.toList)) (encAll (vs.drop (k + 1)) ++ tail.data.toList) ⟨K, N, S, la, lc, L, ta, tc, T⟩ _ hrd HZ.out hBb HOK.out HSM.out (by rw [bs_data, encAll_drop vs k hlt, HV.out, List.append_assoc])).mono ?_
                rintro e w6 ⟨rfl, ho⟩
                replace bk2 := bk2.trans (below_of_grownBy ho.2 hBb hrd.lt)
                go_wp2_with fail
                go_roundw
                case rel => exact ⟨k + 1, by omega, by go_num, ho.1, bk2⟩
                case measure => simp [intOf]; omega
            · obtain rfl : k = vs.length := by omega
              rw [List.drop_length, show encAll [] ++ tail.data.toList = tail.data.toList from rfl, bs_of] at hrd
              go_wp2_with fail
              go_at_call 36
              refine (left_any b _ _ _ hrd).mono ?_
              rintro e w6 ⟨rfl, rfl⟩
              go_wp2_with fail
              go_at_call 38
              refine (done_any b _ _ _ hrd).mono ?_
              rintro e w6 ⟨rfl, rfl⟩
              have hz : (bs []).size = 0 := rfl
              by_cases h0 : tail.size = 0
              · have h1 : tail.toList = [] := by rw [Lib.toList_data]; exact List.eq_nil_of_length_eq_zero h0
                have h2 : (!tail.toList.isEmpty) = false := by simp [h1]
                have hdd : (!false && decide (tail.size = 0)) = true := by simp [h0]
                rw [hdd]
                clear h0 hdd
                go_wp2_with fail
                go_at_call 40
                refine (rest_any b _ _ _ hrd).mono ?_
                rintro e w7 ⟨rfl, ho⟩
                replace bk2 := bk2.trans (below_of_grownBy ho.2 hBb hrd.lt)
                go_wp2_with fail
                go_at_call 38
                refine (done_any b _ _ _ ho.1).mono ?_
                rintro e w6 ⟨rfl, rfl⟩
                go_wp2_with fail
                go_at_call 36
                refine (left_any b _ _ _ ho.1).mono ?_
                rintro e w6 ⟨rfl, rfl⟩
                go_wp2_with fail
                go_ret
                exact ⟨rfl, bk2⟩
              · have h1 : tail.toList ≠ [] := by rw [Lib.toList_data]; intro h; exact h0 (congrArg List.length h)
                have h2 : tail.toList.isEmpty = false := by simp [h1]
                have hdd : (!false && decide (tail.size = 0)) = false := by simp [h0]
                rw [hdd]
                clear h0 hdd
                go_wp2_with fail
                go_at_call 40
                refine (rest_any b _ _ _ hrd).mono ?_
                rintro e w7 ⟨rfl, ho⟩
                replace bk2 := bk2.trans (below_of_grownBy ho.2 hBb hrd.lt)
                go_wp2_with fail
                go_at_call 38
                refine (done_any b _ _ _ ho.1).mono ?_
                rintro e w6 ⟨rfl, rfl⟩
                go_wp2_with fail
                go_at_call 36
                refine (left_any b _ _ _ ho.1).mono ?_
                rintro e w6 ⟨rfl, rfl⟩
                go_wp2_with fail
                go_ret
                exact ⟨rfl, bk2⟩
    · go_wp2_with fail
      go_ret
      exact ⟨rfl, b1⟩
end Go.Proofs.YtenlbohacgamlaaDoor
