/-
  PACKAGE text: Quote.
-/
import Derived.Test.YteccccpjhpbebaaGreatDoorTx
import Derived.Deep.AppendLies
import Derived.Deep.RegionLaw
import Derived.Deep.RegionHeld3
import Derived.Outline
import Derived.Laws.OwnMore
import Derived.IntWalk

import Derived.Laws.IdiomStrings
namespace Go.Proofs.YteccccpjhpbebaaGreatDoor
open Go.RowKit WireM
set_option linter.unusedVariables false
set_option linter.unusedSimpArgs false

/-- A slice of bytes that the call itself has made. -/
def BufAt (w : World) (L : List UInt8) (v : Value) (wr : World) : Prop :=
  wr.ownsRow w.heap.size 5 1 v L.length (Lib.byteCells L) ∧ Below w.heap.size w wr
theorem BufAt.le {w wr : World} {L : List UInt8} {v : Value} (h : BufAt w L v wr) : w.heap.size ≤ wr.heap.size := h.2.size
theorem buf_step {w wr w3 : World} {L M : List UInt8} {v v' : Value} {m : Nat} {news : List Value} (h : BufAt w L v wr) (o : Obj)
    (hown : w3.ownsRow w.heap.size 5 1 v' (L.length + m) (Lib.byteCells L ++ news)) (hg : (wr.alloc o).grownBy w3 v.ownBlock) (hm : m = M.length) (hn : news = Lib.byteCells M) : BufAt w (L ++ M) v' w3 := by
  obtain ⟨h1, h2⟩ := h
  have hs := h2.size
  refine ⟨?_, (h2.alloc hs _).grown hg (by simp; omega) (fun k hk => (h1.lt k hk).1)⟩
  subst hm; subst hn
  rw [List.length_append]
  have e : Lib.byteCells (L ++ M) = Lib.byteCells L ++ Lib.byteCells M := by simp [Lib.byteCells]
  rw [e]; exact hown
/-- append(b, x, ..) onto such a slice. -/
theorem append_buf {ops : Array Oper} {rest : List Oper} {o : Oper} {a : Act} {Q : Exit → Act → World → Prop} (hgd : o.guard = none) (s x : Operand)
    (ho : o.op = .call { callee := .builtin .append, args := #[s, x], argTypes := #[ 42, 42 ] })
    {w wr : World} {L : List UInt8} (M : List UInt8) {v : Value} (h : BufAt w L v wr) (news : Array Value) (m : Nat) (hs : a.eval s = v) (hx : a.eval x = .slice (some ⟨wr.heap.size, 0, none⟩) m m)
    (hm : m = M.length) (hn : news.toList = Lib.byteCells M) (hlen : L.length + m ≤ 140737488355328)
    (hK : ∀ v' w3, BufAt w (L ++ M) v' w3 → wpList Tryz.prog ops Q rest (a.put o.dst v') w3) : wpList Tryz.prog ops Q (o :: rest) a (wr.alloc (.cells news 5)) := by
  obtain ⟨i0, hi, hz0, hz1, hz2⟩ := info_parts infoByte
  have hle := h.le
  refine wpList_append_own _ hgd s x 42 ho w.heap.size 5 i0 (.int .u8 0) 1 1 Tryz.underlying42 hi hz0 hz1 hz2 rfl (by decide) v L.length (Lib.byteCells L) hs (h.1.alloc _) ⟨wr.heap.size, 0, none⟩ m m news.toList hx ?_ ?_ ?_ ?_ ?_ ?_ ?_
  · rw [hn, Lib.byteCells_length]; omega
  · intro j u hj
    have hadd : (⟨wr.heap.size, 0, none⟩ : Addr).add j = ⟨wr.heap.size, j, none⟩ := by unfold Addr.add; split <;> simp_all
    rw [hadd, cell_of_row (wr.alloc (.cells news 5)) wr.heap.size j news 5 (0, 0) (heap_alloc_new wr _), ← Array.getElem?_toList]
    exact hj
  · intro u hu
    rw [hn] at hu
    simp only [Lib.byteCells, List.mem_map] at hu
    obtain ⟨b, _, rfl⟩ := hu
    rfl
  · unfold maxLen; omega
  · omega
  · simp; omega
  · intro v' w3 h1 h2 _
    exact hK v' w3 (buf_step h _ h1 h2 hm hn)
theorem BufAt.drew {w wr : World} {L : List UInt8} {v : Value} (h : BufAt w L v wr) : BufAt w L v wr.drew := ⟨h.1.drew, h.2.drew⟩
/-- The same as a step of a region that draws its order. -/
theorem step_append_buf {ops : Array Oper} {o : Oper} {a : Act} {K : Act → World → Prop} {Q : Exit → Act → World → Prop} {E : Prop} (hgd : o.guard = none) (s x : Operand)
    (ho : o.op = .call { callee := .builtin .append, args := #[s, x], argTypes := #[ 42, 42 ] })
    {w wr : World} {L : List UInt8} (M : List UInt8) {v : Value} (h : BufAt w L v wr) (news : Array Value) (m : Nat) (hs : a.eval s = v) (hx : a.eval x = .slice (some ⟨wr.heap.size, 0, none⟩) m m)
    (hm : m = M.length) (hm0 : 0 < m) (hn : news.toList = Lib.byteCells M) (hlen : L.length + m ≤ 140737488355328)
    (hK : ∀ v' w3, BufAt w (L ++ M) v' w3 → K (a.put o.dst v') w3) :
    if Region.wanted o (yielded ops a.tmps) = true then Oper.wp Tryz.prog o a (wr.alloc (.cells news 5)) K Q else E := by
  obtain ⟨i0, hi, hz0, hz1, hz2⟩ := info_parts infoByte
  have hle := h.le
  refine step_append_lies _ hgd s x 42 ho w.heap.size 5 i0 (.int .u8 0) 1 1 Tryz.underlying42 hi hz0 hz1 hz2 rfl (by decide) v L.length (Lib.byteCells L) hs (h.1.alloc _) ⟨wr.heap.size, 0, none⟩ m m news.toList hx ?_ (World.news_of_block (heap_alloc_new wr _)) ?_ hm0 ?_ ?_ ?_ (wr.heap.size + 1) (by simp) ?_
  · rw [hn, Lib.byteCells_length]; omega
  · intro u hu
    rw [hn] at hu
    simp only [Lib.byteCells, List.mem_map] at hu
    obtain ⟨b, _, rfl⟩ := hu
    rfl
  · unfold maxLen; omega
  · omega
  · simp; omega
  · intro g cap w3 h1 h2 _ _
    exact hK _ w3 (buf_step h _ h1 h2 hm hn)
theorem buf_string {w wr : World} {L : List UInt8} {v : Value} (h : BufAt w L v wr) : (convert 42 9 v).run Tryz.prog wr = .ok (.string (bs L)) wr := by
  obtain ⟨h1, h2⟩ := h
  rcases h1.2 with ⟨rfl, h0⟩ | ⟨g, cap, cur, rfl, hb, hg, hnc, hcm, hcs, htake⟩
  · have : L = [] := List.eq_nil_of_length_eq_zero h0
    subst this
    exact run_convert_bytes_nil (P := Tryz.prog) (w := wr) 42 5 Tryz.underlying42 Tryz.underlying5 0 0 9 Tryz.underlying9
  · refine run_convert_bytes_back (P := Tryz.prog) wr 42 9 5 ⟨g, 0, none⟩ cap L Tryz.underlying42 Tryz.underlying5 Tryz.underlying9 ?_
    intro j hj
    exact h1.cells (g := g) rfl j _ (by simp [Lib.byteCells, hj])
theorem hex_at (k : Nat) (h : k < 16) (h' : k < (⟨#[48, 49, 50, 51, 52, 53, 54, 55, 56, 57, 97, 98, 99, 100, 101, 102]⟩ : ByteArray).size) : (⟨#[48, 49, 50, 51, 52, 53, 54, 55, 56, 57, 97, 98, 99, 100, 101, 102]⟩ : ByteArray)[k] = hexd k := by
  have : ∀ k : Fin 16, (⟨#[48, 49, 50, 51, 52, 53, 54, 55, 56, 57, 97, 98, 99, 100, 101, 102]⟩ : ByteArray)[k.val]'(k.isLt) = hexd k.val := by decide
  exact this ⟨k, h⟩
theorem take_snoc (s : ByteArray) (k : Nat) (h : k < s.size) : s.data.toList.take (k + 1) = s.data.toList.take k ++ [s[k]] := by
  rw [List.take_succ_eq_append_getElem (by simpa using h)]; rfl
def quoteTo (s : ByteArray) (k : Nat) : List UInt8 := 34 :: qs (s.data.toList.take k)
theorem quoteTo_zero (s : ByteArray) : quoteTo s 0 = [34] := rfl
theorem quoteTo_succ (s : ByteArray) (k : Nat) (h : k < s.size) : quoteTo s (k + 1) = quoteTo s k ++ qb s[k] := by
  unfold quoteTo; rw [take_snoc s k h, qs_append, qs_cons]; simp [qs]
theorem quoteTo_all (s : ByteArray) : quoteTo s s.size ++ [34] = quote s.data.toList := by
  unfold quoteTo quote
  rw [List.take_of_length_le (by simp)]; rfl
theorem quoteTo_len (s : ByteArray) (k : Nat) (h : s.size ≤ 1000000000) : (quoteTo s k).length ≤ 4000000001 := by
  have := qs_len (s.data.toList.take k)
  have h2 : (s.data.toList.take k).length ≤ s.size := by rw [List.length_take]; simp; omega
  unfold quoteTo
  rw [List.length_cons]; omega

set_option maxHeartbeats 2000000 in
set_option maxRecDepth 100000 in
theorem quote_any (s : ByteArray) (hs : s.size ≤ 1000000000) (w : World) :
    Calls Tryz.prog 11 #[.string s] w fun e w' => e = .returned (.string (bs (quote s.data.toList))) ∧ Below w.heap.size w w' := by
  obtain ⟨i0, hi, hz0, hz1, hz2⟩ := info_parts infoByte
  have HL := Lib.hid (fun k => quoteTo_len s k hs)
  have hst : BufAt w (quoteTo s 0) (.slice (some ⟨w.heap.size, 0, none⟩) 1 1) (w.alloc (.cells #[.int .u8 34] 5)) :=
    ⟨World.ownsRow_lit w #[.int .u8 34] 1 (Nat.le_refl _) (by unfold maxLen; omega) rfl, (Below.refl _ w).alloc (Nat.le_refl _) _⟩
  go_enter Tryz.func11, Tryz.ntmps11
  go_wp2_with fail
  go_loopw [9, 3] (fun i v wr => ∃ k : Nat, k ≤ s.size ∧ i = .int .i64 k ∧ BufAt w (quoteTo s k) v wr) (fun i _ _ => s.size - (intOf i).toNat)
  case atStart => exact ⟨0, Nat.zero_le _, rfl, hst⟩
  case round =>
    obtain ⟨k, hk, rfl, hb⟩ := hrel
    clear hst
    have hnl := HL.out k
    by_cases hlt : k < s.size
    · have HS := Lib.hid (quoteTo_succ s k hlt)
      have hx : s[k].toNat < 256 := s[k].toNat_lt
      generalize hc : s[k] = c at *
      have HC := Lib.hid hc
      rcases qb_cases c with ⟨h1, e1⟩ | ⟨h1, e1⟩ | ⟨h1, h2, e1⟩ | ⟨h1, h2, h3, h4, e1⟩
      · have HQ := Lib.hid e1
        clear e1
        by_cases h2 : c.toNat = 34
        · have f1 : ((c.toNat : Int) == 34) = true := by rw [beq_iff_eq]; omega
          clear h1 h2
          go_wp2_with (at_builtin; refine append_buf rfl _ _ rfl [92, c] hb #[.int .u8 92, .int .u8 c.toNat] 2 rfl rfl rfl rfl (by omega) ?_; intro v' w3 hb3)
          have hb4 : BufAt w (quoteTo s (k + 1)) v' w3 := by rw [HS.out, HQ.out]; exact hb3
          clear hb hb3
          go_wp2_with fail
          go_roundw
          case rel => exact ⟨k + 1, by omega, by go_num, hb4⟩
          case measure => simp [intOf]; omega
        · have f1 : ((c.toNat : Int) == 34) = false := by rw [beq_eq_false_iff_ne]; omega
          have f2 : ((c.toNat : Int) == 92) = true := by rw [beq_iff_eq]; omega
          clear h1 h2
          go_wp2_with (at_builtin; refine append_buf rfl _ _ rfl [92, c] hb #[.int .u8 92, .int .u8 c.toNat] 2 rfl rfl rfl rfl (by omega) ?_; intro v' w3 hb3)
          have hb4 : BufAt w (quoteTo s (k + 1)) v' w3 := by rw [HS.out, HQ.out]; exact hb3
          clear hb hb3
          go_wp2_with fail
          go_roundw
          case rel => exact ⟨k + 1, by omega, by go_num, hb4⟩
          case measure => simp [intOf]; omega
      · have HQ := Lib.hid e1
        have f1 : ((c.toNat : Int) == 34) = false := by rw [beq_eq_false_iff_ne]; omega
        have f2 : ((c.toNat : Int) == 92) = false := by rw [beq_eq_false_iff_ne]; omega
        have f3 : ((c.toNat : Int) == 10) = true := by rw [beq_iff_eq]; omega
        clear e1 h1
        go_wp2_with (at_builtin; refine append_buf rfl _ _ rfl [92, 110] hb #[.int .u8 92, .int .u8 110] 2 rfl rfl rfl rfl (by omega) ?_; intro v' w3 hb3)
        have hb4 : BufAt w (quoteTo s (k + 1)) v' w3 := by rw [HS.out, HQ.out]; exact hb3
        clear hb hb3
        go_wp2_with fail
        go_roundw
        case rel => exact ⟨k + 1, by omega, by go_num, hb4⟩
        case measure => simp [intOf]; omega
      · have HQ := Lib.hid e1
        have f1 : ((c.toNat : Int) == 34) = false := by rw [beq_eq_false_iff_ne]; omega
        have f2 : ((c.toNat : Int) == 92) = false := by rw [beq_eq_false_iff_ne]; omega
        have f3 : ((c.toNat : Int) == 10) = false := by rw [beq_eq_false_iff_ne]; omega
        clear e1
        by_cases h32 : c.toNat < 32
        · have f4 : (c.toNat : Int) < 32 := by omega
          clear h1 h2
          have hq : c.toNat / 16 < 16 := by omega
          have hr : c.toNat % 16 < 16 := by omega
          have w1 : IntKind.u8.wrap ((c.toNat : Int) / 16) = ((c.toNat / 16 : Nat) : Int) := by rw [IntWalk.u8_in _ (by omega)]; omega
          have w2 : (c.toNat : Int).tmod 16 = ((c.toNat % 16 : Nat) : Int) := by rw [Int.tmod_eq_emod_of_nonneg (by omega)]; omega
          generalize c.toNat / 16 = q at *
          generalize c.toNat % 16 = r at *
          have q1 : (q : Int) < 16 := by omega
          have r1 : (r : Int) < 16 := by omega
          have q2 := hex_at q hq
          have r2 := hex_at r hr
          go_wp2_with fail
          go_region_law ((refine step_append_buf (by rfl) _ _ (by rfl) [92, 120, hexd q, hexd r] hb.drew #[.int .u8 92, .int .u8 120, .int .u8 (hexd q).toNat, .int .u8 (hexd r).toNat] 4 (by rfl) (by rfl) rfl (by decide) rfl (by simp; omega) ?_; intro v' w3 hb3))
          all_goals
            have hb4 : BufAt w (quoteTo s (k + 1)) v' w3 := by rw [HS.out, HQ.out]; exact hb3
            clear hb hb3
            go_wp2_with fail
            go_roundw
            case rel => exact ⟨k + 1, by omega, by go_num, hb4⟩
            case measure => simp [intOf]; omega
        · have f4 : ¬ (c.toNat : Int) < 32 := by omega
          have f5 : (126 : Int) < c.toNat := by omega
          clear h1 h2
          have hq : c.toNat / 16 < 16 := by omega
          have hr : c.toNat % 16 < 16 := by omega
          have w1 : IntKind.u8.wrap ((c.toNat : Int) / 16) = ((c.toNat / 16 : Nat) : Int) := by rw [IntWalk.u8_in _ (by omega)]; omega
          have w2 : (c.toNat : Int).tmod 16 = ((c.toNat % 16 : Nat) : Int) := by rw [Int.tmod_eq_emod_of_nonneg (by omega)]; omega
          generalize c.toNat / 16 = q at *
          generalize c.toNat % 16 = r at *
          have q1 : (q : Int) < 16 := by omega
          have r1 : (r : Int) < 16 := by omega
          have q2 := hex_at q hq
          have r2 := hex_at r hr
          go_wp2_with fail
          go_region_law ((refine step_append_buf (by rfl) _ _ (by rfl) [92, 120, hexd q, hexd r] hb.drew #[.int .u8 92, .int .u8 120, .int .u8 (hexd q).toNat, .int .u8 (hexd r).toNat] 4 (by rfl) (by rfl) rfl (by decide) rfl (by simp; omega) ?_; intro v' w3 hb3))
          all_goals
            have hb4 : BufAt w (quoteTo s (k + 1)) v' w3 := by rw [HS.out, HQ.out]; exact hb3
            clear hb hb3
            go_wp2_with fail
            go_roundw
            case rel => exact ⟨k + 1, by omega, by go_num, hb4⟩
            case measure => simp [intOf]; omega
      · have HQ := Lib.hid e1
        have f1 : ((c.toNat : Int) == 34) = false := by rw [beq_eq_false_iff_ne]; omega
        have f2 : ((c.toNat : Int) == 92) = false := by rw [beq_eq_false_iff_ne]; omega
        have f3 : ((c.toNat : Int) == 10) = false := by rw [beq_eq_false_iff_ne]; omega
        have f4 : ¬ (c.toNat : Int) < 32 := by omega
        have f5 : ¬ (126 : Int) < c.toNat := by omega
        clear e1
        go_wp2_with (at_builtin; refine append_buf rfl _ _ rfl [c] hb #[.int .u8 c.toNat] 1 rfl rfl rfl rfl (by omega) ?_; intro v' w3 hb3)
        have hb4 : BufAt w (quoteTo s (k + 1)) v' w3 := by rw [HS.out, HQ.out]; exact hb3
        clear hb hb3
        go_wp2_with fail
        go_roundw
        case rel => exact ⟨k + 1, by omega, by go_num, hb4⟩
        case measure => simp [intOf]; omega
    · obtain rfl : k = s.size := by omega
      go_wp2_with (at_builtin; refine append_buf rfl _ _ rfl [34] hb #[.int .u8 34] 1 rfl rfl rfl rfl (by omega) ?_; intro v' w3 hb3)
      have hcv := buf_string hb3
      clear hb
      go_wp2_with fail
      rw [hcv]
      go_wp2_with fail
      go_ret
      exact ⟨by rw [quoteTo_all]; rfl, hb3.2⟩
end Go.Proofs.YteccccpjhpbebaaGreatDoor
