/-
  THE REFERENCE's READER, continued: the lists.
-/
import Derived.Test.YtenlbohacgamlaaDoorRc
import Derived.Test.YtenlbohacgamlaaDoorRl
namespace Go.Proofs.YtenlbohacgamlaaDoor
open Go.RowKit WireM
set_option linter.unusedVariables false
set_option linter.unusedSimpArgs false

/-- What the loop of readList holds at a round's head. -/
def QlAt {α : Type} (b n N : Nat) (ty : TypeId) (mk : α → Value) (rd : List UInt8 → Option (α × List UInt8)) (R : Option (List α × List UInt8)) (w : World) (v : Value) (k : Nat) (wr : World) : Prop :=
  w.grownBy wr (some b) ∧
  ((∃ acc t1, Rq wr b (bs t1) false ∧ acc.length = k ∧ wr.ownsRow w.heap.size ty 1 v k (acc.map mk) ∧ t1.length + k ≤ N ∧ R = (rdMany rd (n - k) t1).map (fun q => (acc ++ q.1, q.2)))
  ∨ (Rq wr b (bs []) true ∧ R = none))

theorem ql_digits {α : Type} {ty : TypeId} {mk : α → Value} {rd : List UInt8 → Option (α × List UInt8)} (b : Nat) (s : ByteArray) (f : Bool) (w : World) (h : Rq w b s f) (hf : f = true → s = bs []) (hs : s.size ≤ 1099511627776) :
    Calls Tryd.prog 49 #[.pointer (some ⟨b, 0, none⟩), .int .u8 91] w fun e w1 => ∃ n : Nat, e = .returned (.int .i64 n) ∧ n ≤ 9223372036854775807 ∧ QlAt b n s.size ty mk rd (rdBody rd s.data.toList) w (.slice none 0 0) 0 w1 := by
  rcases hd : dgMax 91 s.data.toList with _ | ⟨n, t⟩
  · refine (number_none b s f 91 91 w h hs rfl (by decide) (by decide) hd).mono fun e w1 ⟨he, ho⟩ => ⟨0, he, by omega, ho.2, .inr ⟨ho.1, by simp [rdBody, hd]⟩⟩
  · refine (number_some b s f 91 91 w h hs rfl (by decide) (by decide) n t hd).mono fun e w1 ⟨he, ho⟩ => ⟨n, he, dgMax_le hd, ho.2, .inl ⟨[], t, ?_, rfl, World.ownsRow_nil _ _ _ _, ?_, by simp [rdBody, hd]⟩⟩
    · cases f
      · exact ho.1
      · rw [hf rfl] at hd
        have := dgMax_len hd
        simp [bs_data] at this
    · have := dgMax_len hd
      have h2 : s.size = s.data.toList.length := by simp
      omega
theorem nxq_of {α : Type} {b : Nat} {mk : α → Value} (d : α) {w w2 : World} {r : Option (α × List UInt8)} {e : Ending} (h : RqPost b w false mk (mk d) r e w2) :
    ∃ y s2 f2, e = .returned (mk y) ∧ RqOut b w w2 s2 f2 ∧ Nx d r y s2 f2 := by
  match r, h with
  | some (v, t2), ⟨h1, h2⟩ => exact ⟨_, _, _, h1, h2, rfl, rfl, rfl⟩
  | none, ⟨h1, h2⟩ => exact ⟨_, _, _, h1, h2, rfl, rfl, rfl⟩

theorem ql_step {α : Type} {b n k : Nat} {ty : TypeId} {mk : α → Value} {d x : α} {rd : List UInt8 → Option (α × List UInt8)} {R : Option (List α × List UInt8)} {N : Nat} {w wr w2 w3 : World} {t1 : List UInt8} {v v' : Value} {acc : List α} {s2 : ByteArray} {f2 : Bool}
    (hb : b < w.heap.size) (hg : w.grownBy wr (some b)) (hk : k < n) (hacc : acc.length = k) (hlen : ∀ v t2, rd t1 = some (v, t2) → t2.length < t1.length) (hsum : t1.length + k ≤ N)
    (hm : R = (rdMany rd (n - k) t1).map (fun q => (acc ++ q.1, q.2)))
    (ho : RqOut b wr w2 s2 f2) (hx : Nx d (rd t1) x s2 f2) (o : Obj)
    (hv : ∀ g, v.ownBlock = some g → w.heap.size ≤ g)
    (hown : w3.ownsRow w.heap.size ty 1 v' (k + 1) (acc.map mk ++ [mk x])) (hgr : (w2.alloc o).grownBy w3 v.ownBlock) : QlAt b n N ty mk rd R w v' (k + 1) w3 := by
  have hs2 : w.heap.size ≤ w2.heap.size := Nat.le_trans hg.size ho.2.size
  have hrd : Rq w3 b s2 f2 := by
    have h1 : w3.heap[b]? = (w2.alloc o).heap[b]? := hgr.block b (by simp; omega) (fun e => by have := hv b e.symm; omega)
    rw [Below.heap_alloc _ _ _ (by omega)] at h1
    exact h1.trans ho.1
  have hgw : w.grownBy w3 (some b) :=
    ⟨hgr.os.trans (ho.2.os.trans hg.os), hgr.tape.trans (ho.2.tape.trans hg.tape), hgr.output.trans (ho.2.output.trans hg.output), by have := hgr.size; simp at this; omega, fun j hj hne => by
      rw [hgr.block j (by simp; omega) (fun e => by have := hv j e.symm; omega), Below.heap_alloc _ _ _ (by omega), ho.2.block j (Nat.lt_of_lt_of_le hj hg.size) hne, hg.block j hj hne]⟩
  refine ⟨hgw, ?_⟩
  have hnk : n - k = (n - (k + 1)) + 1 := by omega
  rw [hnk, rdMany] at hm
  cases hr : rd t1 with
  | some p =>
    obtain ⟨y, t2⟩ := p
    rw [hr] at hx hm
    obtain ⟨h1, h2, h3⟩ := hx
    subst h1; subst h2; subst h3
    refine .inl ⟨acc ++ [x], t2, hrd, by simp [hacc], by simpa using hown, by have := hlen _ _ hr; omega, ?_⟩
    rw [hm]
    simp [Option.map_map, Function.comp_def]
  | none =>
    rw [hr] at hx hm
    obtain ⟨h1, h2, h3⟩ := hx
    subst h2; subst h3
    exact .inr ⟨hrd, hm⟩

/-- What readList leaves: a list in new memory and the rest behind it; or nil and a reader that has failed. -/
def QlPost {α : Type} (b : Nat) (ty : TypeId) (mk : α → Value) (w : World) (r : Option (List α × List UInt8)) (en : Ending) (w' : World) : Prop :=
  match r with
  | some (l, t) => (∃ v, en = .returned v ∧ w'.ownsRow w.heap.size ty 1 v l.length (l.map mk)) ∧ RqOut b w w' (bs t) false
  | none => en = .returned (.slice none 0 0) ∧ RqOut b w w' (bs []) true
theorem qlPost_none {α : Type} {b : Nat} {ty : TypeId} {mk : α → Value} {w w' : World} {r : Option (List α × List UInt8)} (h : r = none) (ho : RqOut b w w' (bs []) true) : QlPost b ty mk w r (.returned (.slice none 0 0)) w' := by
  subst h; exact ⟨rfl, ho⟩
theorem qlPost_some {α : Type} {b : Nat} {ty : TypeId} {mk : α → Value} {w w' : World} {v : Value} {r : Option (List α × List UInt8)} {l : List α} {t : List UInt8} (h : r = some (l, t)) (hv : w'.ownsRow w.heap.size ty 1 v l.length (l.map mk)) (ho : RqOut b w w' (bs t) false) : QlPost b ty mk w r (.returned v) w' := by
  subst h; exact ⟨⟨v, rfl, hv⟩, ho⟩


set_option maxHeartbeats 1000000 in
theorem qNums_any (b : Nat) (s : ByteArray) (f : Bool) (w : World) (h : Rq w b s f) (hf : f = true → s = bs []) (hs : s.size ≤ 1099511627776) :
    Calls Tryd.prog 32 #[.pointer (some ⟨b, 0, none⟩)] w (QlPost b 3 (Value.int .i64) w (rdNums s.data.toList)) := by
  have hlt := h.lt
  obtain ⟨i0, hi, hz0, hz1, hz2⟩ := info_parts infoInt
  have HB := Lib.hid (rdList_body rdInt s.data.toList)
  have HF := Lib.hid hf
  clear hf
  go_enter Tryd.func32, Tryd.ntmps32
  go_wp2_with fail
  go_at_call 49
  refine (ql_digits (ty := 3) (mk := Value.int .i64) (rd := rdInt) b s f w h HF.out hs).mono ?_
  rintro e w1 ⟨n, rfl, hn, hrl⟩
  go_wp2_with fail
  go_loopw [5, 4] (fun i v wr => ∃ k : Nat, i = .int .i64 k ∧ k ≤ n ∧ QlAt b n s.size 3 (Value.int .i64) rdInt (rdBody rdInt s.data.toList) w v k wr) (fun i _ _ => n - (intOf i).toNat)
  case atStart => exact ⟨0, rfl, Nat.zero_le _, hrl⟩
  case round =>
    rename_i v
    obtain ⟨k, rfl, hk, hg, hst⟩ := hrel
    clear hrl
    rcases hst with ⟨acc, t1, hrd, hacc, hown, hsum, hm⟩ | ⟨hrd, hm⟩
    · have c0 := hrd.c0
      have c1 := hrd.c1
      have f0 := hrd.f0
      have HM := Lib.hid hm
      have HA := Lib.hid hacc
      clear hm hacc
      by_cases hkn : k < n
      · go_wp2_with fail
        go_at_call 27
        refine (qInt_any b (bs t1) false _ hrd (by rw [bs_size]; omega)).mono ?_
        rintro e w2 hp
        obtain ⟨x, s2, f2, rfl, ho, hx⟩ := nxq_of (0 : Int) hp
        have hown2 := hown.kept ho.2 (own_ne hown hlt)
        have hs2 : w.heap.size ≤ w2.heap.size := Nat.le_trans hg.size ho.2.size
        have HX := Lib.hid hx
        clear hx hp c0 c1 f0
        go_wp2_with (at_builtin; refine wpList_append_own _ rfl _ _ 22 rfl w.heap.size 3 i0 (.int .i64 0) 1 8 Tryd.underlying22 hi hz0 hz1 hz2 rfl (by decide) _ _ _ rfl (hown2.alloc _) ⟨w2.heap.size, 0, none⟩ 1 1 [Value.int .i64 x] rfl rfl ?c1 ?c2 ?c3 ?c4 ?c5 ?_)
        case c1 =>
          intro j u hj
          match j, hj with
          | 0, hj => simp at hj; subst hj; simp [Addr.add]
        case c2 => intro u hu; simp at hu; subst hu; rfl
        case c3 => unfold maxLen; omega
        case c4 => omega
        case c5 => simp; omega
        intro v' w3 hown3 hgr _
        have hrl := ql_step (n := n) hlt hg hkn HA.out (fun _ _ => rdInt_len) hsum HM.out ho HX.out _ (fun g hgv => (hown.lt g hgv).1) hown3 hgr
        clear hown3 hgr hown2 hown ho hrd
        go_wp2_with fail
        go_roundw
        case rel => exact ⟨k + 1, by go_num, by omega, hrl⟩
        case measure => simp [intOf]; omega
      · obtain rfl : k = n := by omega
        have HM2 := Lib.hid (show rdBody rdInt s.data.toList = some (acc, t1) by rw [HM.out]; simp [rdMany])
        have hf1 := hrd.f1
        have hts : (bs t1).size ≤ 1099511627776 := by rw [bs_size]; omega
        by_cases h93 : t1.head? = some 93
        · obtain ⟨r, ht1⟩ : ∃ r, t1 = 93 :: r := by
            cases t1 with
            | nil => simp at h93
            | cons a r => simp at h93; exact ⟨r, by rw [h93]⟩
          have HT := Lib.hid ht1
          have HR := Lib.hid (show rdNums s.data.toList = some (acc, r) by unfold rdNums; rw [HB.out, HM2.out]; simp [rdClose, ht1])
          clear h93 ht1
          go_wp2_with fail
          go_at_call 54
          refine (qclose_yes b _ _ 93 r 93 _ hrd rfl hts HT.out).mono ?_
          rintro e w2 ⟨rfl, ho2⟩
          go_wp2_with fail
          go_ret
          exact qlPost_some HR.out (by rw [HA.out]; exact hown.kept ho2.2 (own_ne hown hlt)) ⟨ho2.1, grownBy_trans hg ho2.2⟩
        · have HR := Lib.hid (show rdNums s.data.toList = none by unfold rdNums; rw [HB.out, HM2.out]; simp [rdClose, h93])
          have HT := Lib.hid h93
          clear h93
          go_wp2_with fail
          go_at_call 54
          refine (qclose_no b _ _ 93 93 _ hrd rfl hts HT.out).mono ?_
          rintro e w2 ⟨rfl, ho2⟩
          go_wp2_with fail
          go_ret
          exact qlPost_none HR.out ⟨ho2.1, grownBy_trans hg ho2.2⟩
    · have c0 := hrd.c0
      have c1 := hrd.c1
      have f0 := hrd.f0
      have HR := Lib.hid (show rdNums s.data.toList = none by unfold rdNums; rw [HB.out, hm]; rfl)
      clear hm
      by_cases hkn : k < n
      all_goals
        go_wp2_with fail
        go_ret
        exact qlPost_none HR.out ⟨hrd, hg⟩

set_option maxHeartbeats 1000000 in
theorem qTexts_any (b : Nat) (s : ByteArray) (f : Bool) (w : World) (h : Rq w b s f) (hf : f = true → s = bs []) (hs : s.size ≤ 1099511627776) :
    Calls Tryd.prog 35 #[.pointer (some ⟨b, 0, none⟩)] w (QlPost b 9 Value.string w (rdTexts s.data.toList)) := by
  have hlt := h.lt
  obtain ⟨i0, hi, hz0, hz1, hz2⟩ := info_parts infoString
  have HB := Lib.hid (rdList_body rdText s.data.toList)
  have HF := Lib.hid hf
  clear hf
  go_enter Tryd.func35, Tryd.ntmps35
  go_wp2_with fail
  go_at_call 49
  refine (ql_digits (ty := 9) (mk := Value.string) (rd := rdText) b s f w h HF.out hs).mono ?_
  rintro e w1 ⟨n, rfl, hn, hrl⟩
  go_wp2_with fail
  go_loopw [5, 4] (fun i v wr => ∃ k : Nat, i = .int .i64 k ∧ k ≤ n ∧ QlAt b n s.size 9 Value.string rdText (rdBody rdText s.data.toList) w v k wr) (fun i _ _ => n - (intOf i).toNat)
  case atStart => exact ⟨0, rfl, Nat.zero_le _, hrl⟩
  case round =>
    rename_i v
    obtain ⟨k, rfl, hk, hg, hst⟩ := hrel
    clear hrl
    rcases hst with ⟨acc, t1, hrd, hacc, hown, hsum, hm⟩ | ⟨hrd, hm⟩
    · have c0 := hrd.c0
      have c1 := hrd.c1
      have f0 := hrd.f0
      have HM := Lib.hid hm
      have HA := Lib.hid hacc
      clear hm hacc
      by_cases hkn : k < n
      · go_wp2_with fail
        go_at_call 29
        refine (qText_any b (bs t1) false _ hrd (fun h => by cases h) (by rw [bs_size]; omega)).mono ?_
        rintro e w2 hp
        obtain ⟨x, s2, f2, rfl, ho, hx⟩ := nxq_of (bs []) hp
        have hown2 := hown.kept ho.2 (own_ne hown hlt)
        have hs2 : w.heap.size ≤ w2.heap.size := Nat.le_trans hg.size ho.2.size
        have HX := Lib.hid hx
        clear hx hp c0 c1 f0
        go_wp2_with (at_builtin; refine wpList_append_own _ rfl _ _ 23 rfl w.heap.size 9 i0 (.string .empty) 1 16 Tryd.underlying23 hi hz0 hz1 hz2 rfl (by decide) _ _ _ rfl (hown2.alloc _) ⟨w2.heap.size, 0, none⟩ 1 1 [Value.string x] rfl rfl ?c1 ?c2 ?c3 ?c4 ?c5 ?_)
        case c1 =>
          intro j u hj
          match j, hj with
          | 0, hj => simp at hj; subst hj; simp [Addr.add]
        case c2 => intro u hu; simp at hu; subst hu; rfl
        case c3 => unfold maxLen; omega
        case c4 => omega
        case c5 => simp; omega
        intro v' w3 hown3 hgr _
        have hrl := ql_step (n := n) hlt hg hkn HA.out (fun _ _ => rdText_len) hsum HM.out ho HX.out _ (fun g hgv => (hown.lt g hgv).1) hown3 hgr
        clear hown3 hgr hown2 hown ho hrd
        go_wp2_with fail
        go_roundw
        case rel => exact ⟨k + 1, by go_num, by omega, hrl⟩
        case measure => simp [intOf]; omega
      · obtain rfl : k = n := by omega
        have HM2 := Lib.hid (show rdBody rdText s.data.toList = some (acc, t1) by rw [HM.out]; simp [rdMany])
        have hf1 := hrd.f1
        have hts : (bs t1).size ≤ 1099511627776 := by rw [bs_size]; omega
        by_cases h93 : t1.head? = some 93
        · obtain ⟨r, ht1⟩ : ∃ r, t1 = 93 :: r := by
            cases t1 with
            | nil => simp at h93
            | cons a r => simp at h93; exact ⟨r, by rw [h93]⟩
          have HT := Lib.hid ht1
          have HR := Lib.hid (show rdTexts s.data.toList = some (acc, r) by unfold rdTexts; rw [HB.out, HM2.out]; simp [rdClose, ht1])
          clear h93 ht1
          go_wp2_with fail
          go_at_call 54
          refine (qclose_yes b _ _ 93 r 93 _ hrd rfl hts HT.out).mono ?_
          rintro e w2 ⟨rfl, ho2⟩
          go_wp2_with fail
          go_ret
          exact qlPost_some HR.out (by rw [HA.out]; exact hown.kept ho2.2 (own_ne hown hlt)) ⟨ho2.1, grownBy_trans hg ho2.2⟩
        · have HR := Lib.hid (show rdTexts s.data.toList = none by unfold rdTexts; rw [HB.out, HM2.out]; simp [rdClose, h93])
          have HT := Lib.hid h93
          clear h93
          go_wp2_with fail
          go_at_call 54
          refine (qclose_no b _ _ 93 93 _ hrd rfl hts HT.out).mono ?_
          rintro e w2 ⟨rfl, ho2⟩
          go_wp2_with fail
          go_ret
          exact qlPost_none HR.out ⟨ho2.1, grownBy_trans hg ho2.2⟩
    · have c0 := hrd.c0
      have c1 := hrd.c1
      have f0 := hrd.f0
      have HR := Lib.hid (show rdTexts s.data.toList = none by unfold rdTexts; rw [HB.out, hm]; rfl)
      clear hm
      by_cases hkn : k < n
      all_goals
        go_wp2_with fail
        go_ret
        exact qlPost_none HR.out ⟨hrd, hg⟩
end Go.Proofs.YtenlbohacgamlaaDoor
