/-
  WireNests: the walk.
-/
import Derived.Test.YtenlbohacgamlaaDoorLb
namespace Go.Proofs.YtenlbohacgamlaaDoor
open Go.RowKit WireM
set_option linter.unusedVariables false
set_option linter.unusedSimpArgs false

def parts (vs : List V) : List ByteArray := vs.map fun v => bs (encV v)
theorem parts_length (vs : List V) : (parts vs).length = vs.length := by simp [parts]
theorem parts_succ (vs : List V) (k : Nat) (h : k < vs.length) : (parts (vs.take (k + 1))).map Value.string = (parts (vs.take k)).map Value.string ++ [.string (bs (encV vs[k]))] := by
  unfold parts; rw [List.take_succ_eq_append_getElem h, List.map_append, List.map_append]; rfl
theorem encTexts_big (l : List ByteArray) (h0 : l.length ≤ 20) (h : ∀ x ∈ l, x.size ≤ 200000) : (encTexts l).length ≤ 5000000 := by
  have one : ∀ s : ByteArray, s.size ≤ 200000 → (encText s.data.toList).length ≤ 200022 := fun s hs => by
    have h1 : s.data.toList.length ≤ 200000 := by simpa using hs
    have := (itoa_len (s.data.toList.length : Int) (by omega) (by omega)).1
    simp only [encText, List.length_append, List.length_cons, List.length_nil]
    omega
  have key : ∀ l : List ByteArray, (∀ x ∈ l, x.size ≤ 200000) → (l.flatMap fun s => encText s.data.toList).length ≤ 200022 * l.length := by
    intro l
    induction l with
    | nil => simp
    | cons a l ih =>
      intro h
      have h1 := ih fun x hx => h x (List.mem_cons_of_mem _ hx)
      have h2 := one a (h a List.mem_cons_self)
      simp only [List.flatMap_cons, List.length_append, List.length_cons]
      omega
  have h1 := key l h
  have h2 := (itoa_len (l.length : Int) (by omega) (by omega)).1
  simp only [encTexts, encList, List.length_append, List.length_cons, List.length_nil]
  omega
theorem parts_big {B : Nat} {w : World} (vs : List V) (hl : vs.length ≤ 20) (hv : ∀ v ∈ vs, v.Ok B w) (hs : ∀ v ∈ vs, v.Small) : (encTexts (parts vs)).length ≤ 5000000 := by
  refine encTexts_big _ (by rw [parts_length]; exact hl) fun x hx => ?_
  obtain ⟨v, h1, rfl⟩ := List.mem_map.1 hx
  exact encV_len v (hv v h1) (hs v h1)
theorem parts_size {B : Nat} {w : World} (vs : List V) (hv : ∀ v ∈ vs, v.Ok B w) (hs : ∀ v ∈ vs, v.Small) : ∀ x ∈ parts vs, x.size ≤ 9223372036854775807 := fun x hx => by
  obtain ⟨v, h1, rfl⟩ := List.mem_map.1 hx
  have := encV_len v (hv v h1) (hs v h1)
  rw [bs_size]; omega

theorem own_below {w w' : World} {base : Nat} {ty : TypeId} {v : Value} {k : Nat} {xs : List Value} (h : w.ownsRow base ty 1 v k xs) (hb : Below w.heap.size w w') : w'.ownsRow base ty 1 v k xs :=
  h.kept (grownBy_of_below hb) (by
    cases hq : v.ownBlock with
    | none => exact .inl rfl
    | some g => exact .inr (by simp))

set_option maxHeartbeats 4000000 in
set_option maxRecDepth 100000 in
theorem nests_any (a : Option Addr) (cap : Nat) (vs : List V) (w : World) (ht : Tab w) (hm : vs.length ≤ 9223372036854775807) (hc : ValsIn w.heap.size w a vs) :
    Calls Tryd.prog 8 #[.slice a vs.length cap] w fun e w' => e = .returned (.bool true) ∧ Below w.heap.size w w' := by
  have HC := Lib.hid hc
  clear hc
  obtain ⟨i0, hi, hz0, hz1, hz2⟩ := info_parts infoString
  go_enter Tryd.func8, Tryd.ntmps8
  go_wp2_with fail
  go_at_call 9
  refine (small_any _ ht).mono ?_
  rintro e w1 ⟨rfl, b1⟩
  go_wp2_with fail
  go_at_call 10
  refine (few_any w.heap.size a cap vs _ b1.size hm (HC.out.below b1)).mono ?_
  rintro e w2 ⟨r, rfl, hr, q, rfl⟩
  replace b1 := Go.below_drewN b1 q
  have HR := Lib.hid hr
  clear hr
  cases r
  · go_wp2_with fail
    go_ret
    exact ⟨rfl, b1⟩
  · have hf := HR.out.1 rfl
    have HF := Lib.hid hf
    have hl20 := hf.1
    clear hf HR
    generalize w1.drewN q = w2 at *
    go_wp2_with fail
    go_loopw [5, 4] (fun i p wr => ∃ k : Nat, k ≤ vs.length ∧ i = .int .i64 k ∧ wr.ownsRow w.heap.size 9 1 p k ((parts (vs.take k)).map Value.string) ∧ Below w.heap.size w wr) (fun i _ _ => vs.length - (intOf i).toNat)
    case atStart => exact ⟨0, Nat.zero_le _, rfl, World.ownsRow_nil _ _ _ _, b1⟩
    case round =>
      obtain ⟨k, hk, rfl, hown, bk⟩ := hrel
      clear b1
      by_cases hlt : k < vs.length
      · rcases HC.out with h1 | ⟨b, o, rfl, hb, hcells, hok⟩
        · subst h1; simp at hlt
        · obtain ⟨v, hv⟩ : ∃ v, v = vs[k] := ⟨_, rfl⟩
          have cc : ∀ j, j < 5 → wr.cell? ⟨b, o + k * 5 + j, none⟩ = v.cells[j]? := fun j hj => by
            rw [bk.cell (p := ⟨b, o + k * 5 + j, none⟩) hb, hcells k hlt j hj, hv]
          have HV := Lib.hid hv
          have HOK := Lib.hid (show v.Ok w.heap.size wr by rw [hv]; exact (hok _ (List.getElem_mem hlt)).below bk)
          have HSM := Lib.hid (show v.Small by rw [hv]; exact HF.out.2.1 _ (List.getElem_mem hlt))
          clear hcells hok hv
          obtain ⟨K, N, S, la, lc, L, ta, tc, T⟩ := v
          have c0 : wr.cell? ⟨b, o + k * 5, none⟩ = some (.int .i64 K) := cc 0 (by omega)
          have c1 : wr.cell? ⟨b, o + k * 5 + 1, none⟩ = some (.int .i64 N) := cc 1 (by omega)
          have c2 : wr.cell? ⟨b, o + k * 5 + 2, none⟩ = some (.string S) := cc 2 (by omega)
          have c3 : wr.cell? ⟨b, o + k * 5 + 3, none⟩ = some (.slice la L.length lc) := cc 3 (by omega)
          have c4 : wr.cell? ⟨b, o + k * 5 + 4, none⟩ = some (.slice ta T.length tc) := cc 4 (by omega)
          clear cc
          go_wp2_with fail
          go_at_call 42
          refine (write_any w.heap.size ⟨K, N, S, la, lc, L, ta, tc, T⟩ _ (ht.below bk ht.2) bk.size HOK.out HSM.out).mono ?_
          rintro e w5 ⟨rfl, b5⟩
          have hown2 := own_below hown b5
          replace bk := bk.trans (b5.mono bk.size)
          have hsz := bk.size
          have HP := Lib.hid (parts_succ vs k hlt)
          rw [← HV.out] at HP
          clear b5 hown c0 c1 c2 c3 c4
          generalize bs (encV ⟨K, N, S, la, lc, L, ta, tc, T⟩) = x at *
          go_wp2_with (at_builtin; refine wpList_append_own _ rfl _ _ 23 rfl w.heap.size 9 i0 (.string .empty) 1 16 Tryd.underlying23 hi hz0 hz1 hz2 rfl (by decide) _ _ _ rfl (hown2.alloc _) ⟨w5.heap.size, 0, none⟩ 1 1 [.string x] rfl rfl ?c1 ?c2 ?c3 ?c4 ?c5 ?_)
          case c1 =>
            intro j u hj
            match j, hj with
            | 0, hj => simp at hj; subst hj; simp [Addr.add]
          case c2 => intro u hu; simp at hu; subst hu; rfl
          case c3 => unfold maxLen; omega
          case c4 => omega
          case c5 => simp; omega
          intro v' w3 hown3 hgr _
          rw [← HP.out] at hown3
          have bk3 := (bk.alloc hsz (.cells #[.string x] 9)).grown hgr (by simp; omega) (fun g hgv => (hown2.lt g hgv).1)
          clear hgr hown2
          go_wp2_with fail
          go_roundw
          case rel => exact ⟨k + 1, by omega, by go_num, hown3, bk3⟩
          case measure => simp [intOf]; omega
      · obtain rfl : k = vs.length := by omega
        rw [List.take_length] at hown
        obtain ⟨pa, pc, hpe, hpc⟩ := own_cells hown (by simp [parts_length])
        subst hpe
        have hok := HC.out.ok
        have hbig := parts_big vs hl20 hok HF.out.2.1
        have hT := texts_any pa pc (parts vs) wr (ht.below bk ht.2) (by omega) hpc
        rw [parts_length] at hT
        have HPS := Lib.hid (parts_size vs hok HF.out.2.1)
        have HT := Lib.hid hT
        have hpl : (encTexts (parts vs)).length ≤ 5000000 := hbig
        clear hT hpc hown hok hbig
        obtain ⟨X, hX⟩ : ∃ X, X = encTexts (parts vs) := ⟨_, rfl⟩
        rw [← hX] at HT hpl
        have HX := Lib.hid hX
        clear hX
        have hxs : (bs X).size ≤ 5000000 := by rw [bs_size]; exact hpl
        go_wp2_with fail
        go_at_call 19
        refine HT.out.mono ?_
        rintro e w5 ⟨rfl, b5⟩
        replace bk := bk.trans (b5.mono bk.size)
        clear b5
        go_wp2_with fail
        go_at_call 15
        refine (text_any (bs X) (by omega) _ (ht.below bk ht.2)).mono ?_
        rintro e w6 ⟨rfl, b6⟩
        replace bk := bk.trans (b6.mono bk.size)
        clear b6
        go_wp2_with fail
        go_at_call 21
        refine (open_any _ _).mono ?_
        rintro e w7 ⟨rfl, hr1, b7⟩
        have hB1 := bk.size
        have hn12 := hr1.lt
        replace bk := bk.trans (b7.mono bk.size)
        clear b7
        generalize w6.heap.size = r1 at *
        go_wp2_with fail
        go_at_call 28
        have hsz1 : (bs (encText (bs X).data.toList)).size ≤ 1099511627776 := by
          have h1 := (itoa_len ((bs X).data.toList.length : Int) (by omega) (by rw [bs_data]; omega)).1
          rw [bs_size]
          simp only [encText, List.length_append, List.length_cons, List.length_nil] at h1 ⊢
          rw [bs_data] at h1 ⊢
          omega
        refine (rText_any r1 _ false _ hr1 hsz1).mono ?_
        rintro e w8 hp
        have hrt : rdText (bs (encText (bs X).data.toList)).data.toList = some (bs X, []) := by
          have := rdText_read (bs X) [] (by omega)
          rwa [List.append_nil] at this
        rw [hrt] at hp
        obtain ⟨rfl, ho⟩ := hp
        have hr1' := ho.1
        have hn8 := hr1'.lt
        replace bk := bk.trans (below_of_grownBy ho.2 hB1 hn12)
        clear ho hr1 hn12 hrt hsz1
        go_wp2_with fail
        go_at_call 21
        refine (open_any _ _).mono ?_
        rintro e w9 ⟨rfl, hr2, b9⟩
        have hB2 := bk.size
        have hn2 := hr2.lt
        replace hr1' := hr1'.below b9
        replace bk := bk.trans (b9.mono bk.size)
        clear b9
        generalize w8.heap.size = r2 at *
        have hz : (bs []).size = 0 := rfl
        go_wp2_with fail
        go_at_call 38
        refine (done_any r1 _ _ _ hr1').mono ?_
        rintro e w10 ⟨rfl, rfl⟩
        rw [show (!false && decide ((bs []).size = 0)) = true from rfl]
        go_wp2_with fail
        go_at_call 34
        refine (rTexts_any r2 _ false _ hr2 (fun h => by cases h) (by omega)).mono ?_
        rintro e w10 hp
        have hrt : rdTexts (bs X).data.toList = some (parts vs, []) := by
          have := rdTexts_read (parts vs) [] (by rw [parts_length]; omega) HPS.out
          rw [List.append_nil] at this
          rw [bs_data, HX.out]
          exact this
        rw [hrt] at hp
        obtain ⟨⟨gv, rfl, hv⟩, ho⟩ := hp
        rw [parts_length] at hv
        obtain ⟨ga, gc, rfl, hgc⟩ := own_cells hv (by simp [parts_length])
        have hr2' := ho.1
        replace bk := bk.trans (below_of_grownBy ho.2 hB2 hn2)
        have HG := Lib.hid hgc
        clear ho hr2 hrt hv hgc HX HT HPS
        go_wp2_with fail
        go_at_call 38
        refine (done_any r2 _ _ _ hr2').mono ?_
        rintro e w11 ⟨rfl, rfl⟩
        rw [show (!false && decide ((bs []).size = 0)) = true from rfl]
        have HBK := Lib.hid bk
        have hBs := bk.size
        clear bk
        go_wp2_with fail
        go_loopw [9] (fun i wq => ∃ k : Nat, k ≤ vs.length ∧ i = .int .i64 k ∧ Below w10.heap.size w10 wq) (fun i _ => vs.length - (intOf i).toNat)
        case atStart => exact ⟨0, Nat.zero_le _, rfl, Below.refl _ _⟩
        case round =>
          obtain ⟨k, hk, rfl, bq⟩ := hrel
          by_cases hlt : k < vs.length
          · rcases HC.out with h1 | ⟨b, o, rfl, hb, hcells, hok⟩
            · subst h1; simp at hlt
            · rcases HG.out with h1 | ⟨gb, go, rfl, hgb, hgcells⟩
              · exfalso
                have := congrArg List.length h1
                simp [parts_length] at this
                subst this; simp at hlt
              · have b0 : Below w.heap.size w wr := HBK.out.trans (bq.mono hBs)
                obtain ⟨v, hv⟩ : ∃ v, v = vs[k] := ⟨_, rfl⟩
                have cg : wr.cell? ⟨gb, go + k, none⟩ = some (.string (bs (encV v))) := by
                  rw [bq.cell (p := ⟨gb, go + k, none⟩) hgb, hgcells k (by simpa [parts_length] using hlt), hv]
                  simp [parts, hlt]
                have cc : ∀ j, j < 5 → wr.cell? ⟨b, o + k * 5 + j, none⟩ = v.cells[j]? := fun j hj => by
                  rw [b0.cell (p := ⟨b, o + k * 5 + j, none⟩) hb, hcells k hlt j hj, hv]
                have HOK := Lib.hid (show v.Ok w.heap.size wr by rw [hv]; exact (hok _ (List.getElem_mem hlt)).below b0)
                have HSM := Lib.hid (show v.Small by rw [hv]; exact HF.out.2.1 _ (List.getElem_mem hlt))
                clear hcells hok hv hgcells
                obtain ⟨K, N, S, la, lc, L, ta, tc, T⟩ := v
                have HEL := Lib.hid (encV_len _ HOK.out HSM.out)
                have hel : (bs (encV ⟨K, N, S, la, lc, L, ta, tc, T⟩)).size ≤ 200000 := HEL.out
                go_wp2_with fail
                go_at_call 21
                refine (open_any _ _).mono ?_
                rintro e w12 ⟨rfl, hr3, b12⟩
                have bq3 := bq.trans (b12.mono bq.size)
                have hB3 : w.heap.size ≤ wr.heap.size := b0.size
                have hB4 : w10.heap.size ≤ wr.heap.size := bq.size
                have b03 := b0.trans (b12.mono b0.size)
                have c0 : w12.cell? ⟨b, o + k * 5, none⟩ = some (.int .i64 K) := by rw [b12.cell (p := ⟨b, o + k * 5, none⟩) (by simp; omega)]; exact cc 0 (by omega)
                have c1 : w12.cell? ⟨b, o + k * 5 + 1, none⟩ = some (.int .i64 N) := by rw [b12.cell (p := ⟨b, o + k * 5 + 1, none⟩) (by simp; omega)]; exact cc 1 (by omega)
                have c2 : w12.cell? ⟨b, o + k * 5 + 2, none⟩ = some (.string S) := by rw [b12.cell (p := ⟨b, o + k * 5 + 2, none⟩) (by simp; omega)]; exact cc 2 (by omega)
                have c3 : w12.cell? ⟨b, o + k * 5 + 3, none⟩ = some (.slice la L.length lc) := by rw [b12.cell (p := ⟨b, o + k * 5 + 3, none⟩) (by simp; omega)]; exact cc 3 (by omega)
                have c4 : w12.cell? ⟨b, o + k * 5 + 4, none⟩ = some (.slice ta T.length tc) := by rw [b12.cell (p := ⟨b, o + k * 5 + 4, none⟩) (by simp; omega)]; exact cc 4 (by omega)
                have HOK2 := Lib.hid (HOK.out.below (b12.mono hB3))
                have hn3 := hr3.lt
                clear cc cg b12 b0
                generalize wr.heap.size = r3 at *
                go_wp2_with fail
                go_at_call 43
                refine (equal_any w.heap.size r3 _ [] ⟨K, N, S, la, lc, L, ta, tc, T⟩ _ hr3 (by omega) hB3 HOK2.out HSM.out (by rw [bs_data, List.append_nil])).mono ?_
                rintro e w13 ⟨rfl, ho⟩
                have bq4 := bq3.trans (below_of_grownBy ho.2 hB4 hn3)
                go_wp2_with fail
                go_at_call 38
                refine (done_any r3 _ _ _ ho.1).mono ?_
                rintro e w14 ⟨rfl, rfl⟩
                rw [show (!false && decide ((bs []).size = 0)) = true from rfl]
                go_wp2_with fail
                go_roundw
                case rel => exact ⟨k + 1, by omega, by go_num, bq4⟩
                case measure => simp [intOf]; omega
          · obtain rfl : k = vs.length := by omega
            have b0 : Below w.heap.size w wr := HBK.out.trans (bq.mono hBs)
            go_wp2_with fail
            go_ret
            exact ⟨rfl, b0⟩
end Go.Proofs.YtenlbohacgamlaaDoor
