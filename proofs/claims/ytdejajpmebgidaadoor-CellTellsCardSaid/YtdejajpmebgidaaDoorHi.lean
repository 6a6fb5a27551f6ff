/-
  THE REFERENCE OF LAYER 3: survive.
-/
import Derived.Test.YtdejajpmebgidaaDoorHh
import Derived.StillTailTactics
namespace Go.Proofs.YtdejajpmebgidaaDoor
open Go.RowKit Go.Maps WireM DiskM
set_option linter.unusedVariables false
set_option linter.unusedSimpArgs false
set_option maxRecDepth 100000

/-- A region whose first n operations only read, in a world that bears a name. -/
theorem still_tail_at {id : Nat} {Q : Exit → Go.Act → World → Prop} {a : Go.Act} {w WD : World} {l : List Oper} (n : Nat) (hW : WD = w.drew) (hm : Tryd.prog.follows .mixedOrders = true) (hB : Region.lexTailB .any l.toArray n = true)
    (h : wpStill Tryd.prog l.toArray WD (fun a' => wpList Tryd.prog l.toArray Q (l.drop n) a' WD) (l.take n) a) : (Code.region id l.toArray true).wp Tryd.prog Q a w := by
  subst hW
  exact wp_region_still_tail n hm hB h
theorem sec_extract (N : List UInt8) (n : Nat) : (bs N).extract (64 * n) (min (64 * n + 64) N.length) = bs (sec N n) := by
  rw [ext_bs]
  congr 1
  unfold sec
  rw [List.drop_take]
  rw [List.take_eq_take_iff]
  simp
  omega
set_option maxHeartbeats 8000000 in
theorem survive_any {w : World} {r : Nat} {s : St} {q : RP} (h : R0 w r s q) (f : Int) (n : Nat) (hf : isF f) (hn : 64 * n < (s.now f).length) (hN : (s.now f).length ≤ 16777216) (hL : (s.last f).length ≤ 16777216) :
    Calls Tryd.prog 37 #[.pointer (some ⟨r, 0, none⟩), .agg #[.int .i64 f, .int .i64 (n : Int)]] w fun e w' => e = .returned (.tuple #[]) ∧ R0Turn w r q { s with last := hard s.now (f, n) s.last } w' := by
  have B0 := Lib.hid ((Below.refl w.heap.size w).alloc (Nat.le_refl _) (.cells #[.int .i64 f, .int .i64 (n : Int)] 74))
  have GET := Lib.hid (get_any (h.below B0.out) f)
  have hb := heap_alloc_new w (.cells #[.int .i64 f, .int .i64 (n : Int)] 74)
  have BX := Lib.hid hb
  have x0 : (w.alloc (.cells #[.int .i64 f, .int .i64 (n : Int)] 74)).cell? ⟨w.heap.size, 0, none⟩ = some (.int .i64 f) := by rw [Lib.cell_of_heap hb]; rfl
  have hsl : (sec (s.now f) n).length = min 64 ((s.now f).length - 64 * n) := sec_len _ _
  have hne : sec (s.now f) n ≠ [] := fun e => by rw [e] at hsl; simp at hsl; omega
  have hput : putN (s.last f) (64 * n) (sec (s.now f) n) = put (s.last f) (64 * n) (sec (s.now f) n) := by unfold putN; rw [if_neg hne]
  have PUT := Lib.hid (fun W => rPut_any (bs (s.last f)) (bs (sec (s.now f) n)) (64 * n) W hL (show 64 * n + (bs (sec (s.now f) n)).size ≤ 16777216 by have e : (bs (sec (s.now f) n)).size = (sec (s.now f) n).length := rfl; rw [e, hsl]; omega))
  have e1 : (bs (s.last f)).data.toList = s.last f := rfl
  have e2 : (bs (sec (s.now f) n)).data.toList = sec (s.now f) n := rfl
  rw [e1, e2, hput] at PUT
  have SET := Lib.hid (fun W (hb : Below w.heap.size w W) => set_any (h.below hb) f (s.now f) (put (s.last f) (64 * n) (sec (s.now f) n)) hf)
  have ST := Lib.hid (show ∀ W w', Below w.heap.size w W → R0Turn W r q { s with now := upd s.now f (s.now f), last := upd s.last f (put (s.last f) (64 * n) (sec (s.now f) n)) } w' → R0Turn w r q { s with last := hard s.now (f, n) s.last } w' from fun W w' hb ht => by
    rw [upd_self] at ht
    exact R0Turn.step (RStep.below hb) ht)
  have hsz : (bs (s.now f)).size = (s.now f).length := rfl
  have EX := sec_extract (s.now f) n
  have cst : ((64 * n : Nat) : Int) = 64 * (n : Int) := by omega
  rw [cst] at PUT
  have g1 : 64 * (n : Int) < ((s.now f).length : Int) := by omega
  have w1 : wrap64 (64 * (n : Int)) = 64 * (n : Int) := by unfold wrap64; omega
  have w2 : wrap64 (64 * (n : Int) + 64) = 64 * (n : Int) + 64 := by unfold wrap64; omega
  have k1 : IntKind.i64.wrap (64 * (n : Int)) = 64 * (n : Int) := by rw [IntKind.wrap_i64]; omega
  have k2 : IntKind.i64.wrap (64 * (n : Int) + 64) = 64 * (n : Int) + 64 := by rw [IntKind.wrap_i64]; omega
  have k3 : (64 * (n : Int)).toNat = 64 * n := by omega
  have h0 : (0 : Int) ≤ 64 * (n : Int) := by omega
  rw [← hsz] at g1 EX
  generalize put (s.last f) (64 * n) (sec (s.now f) n) = PW at *
  generalize hT : bs (sec (s.now f) n) = T at *
  generalize hN : bs (s.now f) = N at *
  generalize bs (s.last f) = LS at *
  clear hb hsl hne hput e1 e2 hsz cst hL hn h hT hf
  have h1 : 64 * (n : Int) ≤ (N.size : Int) := by omega
  by_cases hc : N.size < 64 * n + 64
  · have c1 : (N.size : Int) < 64 * (n : Int) + 64 := by omega
    have c2 : ¬ 64 * (n : Int) + 64 < (N.size : Int) := by omega
    have EX2 : N.extract (64 * n) N.size = T := by rw [show min (64 * n + 64) N.size = N.size by omega] at EX; exact EX
    clear EX hc
    go_enter Tryd.func37, Tryd.ntmps37
    go_wp2_with (first
      | (go_at_call 42; refine GET.out.mono ?_; rintro e w3 ⟨rfl, b3⟩; have y0 := (b3.cell (p := ⟨w.heap.size, 1, none⟩) (by simp)).trans (show _ = some (Value.int .i64 (n : Int)) by rw [Lib.cell_of_heap BX.out]; rfl); have hlt3 : w.heap.size < w3.heap.size := Nat.lt_of_lt_of_le (by simp) b3.size; have y1 := (((Below.refl _ w3).alloc (Nat.le_refl _) (.cells #[.int .i64 f, .string N, .string LS] 76)).cell (p := ⟨w.heap.size, 1, none⟩) hlt3).trans y0; have B3 := Lib.hid (B0.out.trans (b3.mono B0.out.size)); clear b3 GET))
    obtain ⟨WD, hWD⟩ : ∃ WD, WD = (w3.alloc (.cells #[.int .i64 f, .string N, .string LS] 76)).drew := ⟨_, rfl⟩
    have hz := heap_alloc_new w3 (.cells #[.int .i64 f, .string N, .string LS] 76)
    have HZ := Lib.hid (show WD.heap[w3.heap.size]? = some (.cells #[.int .i64 f, .string N, .string LS] 76 (0, 0)) by rw [hWD]; exact hz)
    have d1 : WD.cell? ⟨w3.heap.size, 1, none⟩ = some (.string N) := by rw [Lib.cell_of_heap HZ.out]; rfl
    have d2 : WD.cell? ⟨w3.heap.size, 2, none⟩ = some (.string LS) := by rw [Lib.cell_of_heap HZ.out]; rfl
    have d3 : WD.cell? ⟨w.heap.size, 1, none⟩ = some (.int .i64 (n : Int)) := by rw [hWD]; exact y1
    have BW := Lib.hid (show Below w.heap.size w WD from by rw [hWD]; exact (B3.out.alloc B3.out.size _).drew)
    have ZL := Lib.hid (show w.heap.size ≤ w3.heap.size from B3.out.size)
    clear hz
    refine still_tail_at 19 hWD (by kernel_rfl) (by kernel_rfl) ?_
    simp only [List.take_succ_cons, List.take_zero, List.drop_succ_cons, List.drop_zero]
    clear hWD y0 y1
    repeat still_step
    refine wpStill_nil ?_
    go_wp2_with (first
      | (go_at_call 53; refine (PUT.out _).mono ?_; rintro e w5 ⟨rfl, b5⟩; obtain ⟨z0, z1, z2, zf, zh⟩ := file_kept HZ.out b5; have zf2 := zf 2; have B5 := Lib.hid (show Below w.heap.size w w5 from BW.out.trans (b5.mono BW.out.size)); clear b5 zf zh PUT)
      | (go_at_call 54; have BB := B5.out.setCell (p := ⟨w3.heap.size, 2, none⟩) ZL.out (.string (bs PW)); refine (SET.out _ BB).mono ?_; rintro e w6 ⟨rfl, t6⟩; have A6 := Lib.hid (ST.out _ w6 BB t6); clear t6 BB SET ST))
    go_end0
    exact ⟨rfl, A6.out⟩
  · have c1 : ¬ (N.size : Int) < 64 * (n : Int) + 64 := by omega
    have c2 : 64 * (n : Int) + 64 ≤ (N.size : Int) := by omega
    have ci : (if (N.size : Int) < 64 * (n : Int) + 64 then (N.size : Int) else 64 * (n : Int) + 64) = 64 * (n : Int) + 64 := if_neg c1
    have c3 : (0 : Int) ≤ 64 * (n : Int) + 64 := by omega
    have c4 : 64 * (n : Int) ≤ 64 * (n : Int) + 64 := by omega
    have k4 : (64 * (n : Int) + 64).toNat = 64 * n + 64 := by omega
    have EX2 : N.extract (64 * n) (64 * n + 64) = T := by rw [show min (64 * n + 64) N.size = 64 * n + 64 by omega] at EX; exact EX
    clear EX hc
    go_enter Tryd.func37, Tryd.ntmps37
    go_wp2_with (first
      | (go_at_call 42; refine GET.out.mono ?_; rintro e w3 ⟨rfl, b3⟩; have y0 := (b3.cell (p := ⟨w.heap.size, 1, none⟩) (by simp)).trans (show _ = some (Value.int .i64 (n : Int)) by rw [Lib.cell_of_heap BX.out]; rfl); have hlt3 : w.heap.size < w3.heap.size := Nat.lt_of_lt_of_le (by simp) b3.size; have y1 := (((Below.refl _ w3).alloc (Nat.le_refl _) (.cells #[.int .i64 f, .string N, .string LS] 76)).cell (p := ⟨w.heap.size, 1, none⟩) hlt3).trans y0; have B3 := Lib.hid (B0.out.trans (b3.mono B0.out.size)); clear b3 GET))
    obtain ⟨WD, hWD⟩ : ∃ WD, WD = (w3.alloc (.cells #[.int .i64 f, .string N, .string LS] 76)).drew := ⟨_, rfl⟩
    have hz := heap_alloc_new w3 (.cells #[.int .i64 f, .string N, .string LS] 76)
    have HZ := Lib.hid (show WD.heap[w3.heap.size]? = some (.cells #[.int .i64 f, .string N, .string LS] 76 (0, 0)) by rw [hWD]; exact hz)
    have d1 : WD.cell? ⟨w3.heap.size, 1, none⟩ = some (.string N) := by rw [Lib.cell_of_heap HZ.out]; rfl
    have d2 : WD.cell? ⟨w3.heap.size, 2, none⟩ = some (.string LS) := by rw [Lib.cell_of_heap HZ.out]; rfl
    have d3 : WD.cell? ⟨w.heap.size, 1, none⟩ = some (.int .i64 (n : Int)) := by rw [hWD]; exact y1
    have BW := Lib.hid (show Below w.heap.size w WD from by rw [hWD]; exact (B3.out.alloc B3.out.size _).drew)
    have ZL := Lib.hid (show w.heap.size ≤ w3.heap.size from B3.out.size)
    clear hz
    refine still_tail_at 19 hWD (by kernel_rfl) (by kernel_rfl) ?_
    simp only [List.take_succ_cons, List.take_zero, List.drop_succ_cons, List.drop_zero]
    clear hWD y0 y1
    repeat still_step
    refine wpStill_nil ?_
    go_wp2_with (first
      | (go_at_call 53; refine (PUT.out _).mono ?_; rintro e w5 ⟨rfl, b5⟩; obtain ⟨z0, z1, z2, zf, zh⟩ := file_kept HZ.out b5; have zf2 := zf 2; have B5 := Lib.hid (show Below w.heap.size w w5 from BW.out.trans (b5.mono BW.out.size)); clear b5 zf zh PUT)
      | (go_at_call 54; have BB := B5.out.setCell (p := ⟨w3.heap.size, 2, none⟩) ZL.out (.string (bs PW)); refine (SET.out _ BB).mono ?_; rintro e w6 ⟨rfl, t6⟩; have A6 := Lib.hid (ST.out _ w6 BB t6); clear t6 BB SET ST))
    go_end0
    exact ⟨rfl, A6.out⟩
end Go.Proofs.YtdejajpmebgidaaDoor
