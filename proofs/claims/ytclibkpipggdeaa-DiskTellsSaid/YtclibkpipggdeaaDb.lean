/-
  THE LAWS OF LAYER 3: acts; do, few, played, after.
-/
import Derived.Test.YtclibkpipggdeaaJa
namespace Go.Proofs.Ytclibkpipggdeaa
open Go.RowKit Go.Maps WireM DiskM
set_option linter.unusedVariables false
set_option linter.unusedSimpArgs false

structure ActV where
  d : Int
  f : Int
  n : Int
  s : ByteArray
  keep : List Int
  ka : Option Addr
  kc : Nat
def ActV.kv (A : ActV) : Value := .slice A.ka A.keep.length A.kc
def ActV.cells (A : ActV) : Array Value := #[.int .i64 A.d, .int .i64 A.f, .int .i64 A.n, .string A.s, .slice A.ka A.keep.length A.kc]
structure ActOk (B : Nat) (w : World) (A : ActV) : Prop where
  d : InI A.d
  f : InI A.f
  n : InI A.n
  s : A.s.size ≤ maxLen
  keep : SrcAt w A.kv A.keep.length (intCells A.keep)
  low : A.keep ≠ [] → ∀ b, A.kv.ownBlock = some b → b < B
/-- What an act does to the state. -/
def actS (s : St) (A : ActV) : St × Int :=
  if A.d % 8 = 2 then s.sync A.f
  else if A.d % 8 = 3 then s.trunc A.f A.n
  else if A.d % 8 = 4 then (s.lose (A.n % 4), 0)
  else if A.d % 8 = 5 then (s.arm A.n A.keep, 0)
  else if A.d % 8 = 6 then (s.crash A.keep, 0)
  else if A.d % 8 = 7 then (s.start, 0)
  else s.write A.f A.n A.s.data.toList
theorem ActOk.below {B : Nat} {w w' : World} {A : ActV} (h : ActOk B w A) (hb : Below B w w') : ActOk B w' A := by
  refine ⟨h.d, h.f, h.n, h.s, ?_, h.low⟩
  rcases h.keep with h1 | ⟨b, off, c, hv, h1⟩
  · exact .inl h1
  · refine .inr ⟨b, off, c, hv, fun j u hj => ?_⟩
    have hlt : b < B := h.low (fun e => by rw [e] at hj; simp [intCells] at hj) b (by rw [hv]; rfl)
    rw [← h1 j u hj]
    exact hb.cell (p := ⟨b, off + j, none⟩) hlt
set_option maxHeartbeats 4000000 in
theorem do_any {B : Nat} {w : World} {p : Nat} {s : St} {q : Parts} (h : DiskIs w p s q) (hB : ∀ b, Mine p q b → B ≤ b) (hBw : B ≤ w.heap.size) (A : ActV) (ok : ActOk B w A) (hk0 : s.keep.length ≤ 1099511627776) (hAk : A.keep.length ≤ 1099511627776) (hs0 : A.s.size ≤ 1099511627776) :
    Calls Try.prog 8 #[.pointer (some ⟨p, 0, none⟩), .agg A.cells] w fun e w' => e = .returned (.int .i64 (actS s A).2) ∧ Turn w p q (actS s A).1 w' := by
  have h1 := h.allocI (.cells A.cells 33)
  have hkeep : SrcAt (w.alloc (.cells A.cells 33)) A.kv A.keep.length (intCells A.keep) := srcAt_kept (S := fun _ => False) ok.keep (Chg.alloc _ _) (fun _ _ _ h => h)
  have hlow : A.keep ≠ [] → ∀ b, A.kv.ownBlock = some b → b < w.heap.size := fun hne b e => Nat.lt_of_lt_of_le (ok.low hne b e) hBw
  have hz := heap_alloc_new w (.cells A.cells 33)
  have k0 : (w.alloc (.cells A.cells 33)).cell? ⟨w.heap.size, 0, none⟩ = some (.int .i64 A.d) := by rw [Lib.cell_of_heap hz]; rfl
  have k1 : (w.alloc (.cells A.cells 33)).cell? ⟨w.heap.size, 1, none⟩ = some (.int .i64 A.f) := by rw [Lib.cell_of_heap hz]; rfl
  have k2 : (w.alloc (.cells A.cells 33)).cell? ⟨w.heap.size, 2, none⟩ = some (.int .i64 A.n) := by rw [Lib.cell_of_heap hz]; rfl
  have k3 : (w.alloc (.cells A.cells 33)).cell? ⟨w.heap.size, 3, none⟩ = some (.string A.s) := by rw [Lib.cell_of_heap hz]; rfl
  have k4 : (w.alloc (.cells A.cells 33)).cell? ⟨w.heap.size, 4, none⟩ = some (.slice A.ka A.keep.length A.kc) := by rw [Lib.cell_of_heap hz]; rfl
  clear hz
  have hm : A.d % 8 = 0 ∨ A.d % 8 = 1 ∨ A.d % 8 = 2 ∨ A.d % 8 = 3 ∨ A.d % 8 = 4 ∨ A.d % 8 = 5 ∨ A.d % 8 = 6 ∨ A.d % 8 = 7 := by omega
  unfold ActV.cells at k0 k1 k2 k3 k4 ⊢
  rcases hm with hk | hk | hk | hk | hk | hk | hk | hk
  · have hb : bits .and .i64 A.d 7 = 0 := by rw [and7, hk]
    have E : actS s A = s.write A.f A.n A.s.data.toList := by unfold actS; simp [hk]
    rw [E]
    clear E hk
    have C := Lib.hid (write_any h1 hk0 A.f A.n A.s hs0)
    have FIN := Lib.hid (fun w' (ht : Turn (w.alloc (.cells A.cells 33)) p q (s.write A.f A.n A.s.data.toList).1 w') => Turn.step (fun b hb => .inl hb) (Chg.alloc (S := Mine p q) w _) ht)
    unfold ActV.cells at FIN C
    clear h1 h
    go_enter Try.func8, Try.ntmps8
    go_wp2_with (go_at_call 18; refine C.out.mono ?_; rintro e w' ⟨rfl, ht⟩; have HT := Lib.hid (FIN.out w' ht); clear ht C FIN)
    go_ret
    exact ⟨rfl, HT.out⟩
  · have hb : bits .and .i64 A.d 7 = 1 := by rw [and7, hk]
    have E : actS s A = s.write A.f A.n A.s.data.toList := by unfold actS; simp [hk]
    rw [E]
    clear E hk
    have C := Lib.hid (write_any h1 hk0 A.f A.n A.s hs0)
    have FIN := Lib.hid (fun w' (ht : Turn (w.alloc (.cells A.cells 33)) p q (s.write A.f A.n A.s.data.toList).1 w') => Turn.step (fun b hb => .inl hb) (Chg.alloc (S := Mine p q) w _) ht)
    unfold ActV.cells at FIN C
    clear h1 h
    go_enter Try.func8, Try.ntmps8
    go_wp2_with (go_at_call 18; refine C.out.mono ?_; rintro e w' ⟨rfl, ht⟩; have HT := Lib.hid (FIN.out w' ht); clear ht C FIN)
    go_ret
    exact ⟨rfl, HT.out⟩
  · have hb : bits .and .i64 A.d 7 = 2 := by rw [and7, hk]
    have E : actS s A = s.sync A.f := by unfold actS; simp [hk]
    rw [E]
    clear E hk
    have C := Lib.hid (sync_any h1 hk0 A.f)
    have FIN := Lib.hid (fun w' (ht : Turn (w.alloc (.cells A.cells 33)) p q (s.sync A.f).1 w') => Turn.step (fun b hb => .inl hb) (Chg.alloc (S := Mine p q) w _) ht)
    unfold ActV.cells at FIN C
    clear h1 h
    go_enter Try.func8, Try.ntmps8
    go_wp2_with (go_at_call 15; refine C.out.mono ?_; rintro e w' ⟨rfl, ht⟩; have HT := Lib.hid (FIN.out w' ht); clear ht C FIN)
    go_ret
    exact ⟨rfl, HT.out⟩
  · have hb : bits .and .i64 A.d 7 = 3 := by rw [and7, hk]
    have E : actS s A = s.trunc A.f A.n := by unfold actS; simp [hk]
    rw [E]
    clear E hk
    have C := Lib.hid (trunc_any h1 hk0 A.f A.n ok.f)
    have FIN := Lib.hid (fun w' (ht : Turn (w.alloc (.cells A.cells 33)) p q (s.trunc A.f A.n).1 w') => Turn.step (fun b hb => .inl hb) (Chg.alloc (S := Mine p q) w _) ht)
    unfold ActV.cells at FIN C
    clear h1 h
    go_enter Try.func8, Try.ntmps8
    go_wp2_with (go_at_call 21; refine C.out.mono ?_; rintro e w' ⟨rfl, ht⟩; have HT := Lib.hid (FIN.out w' ht); clear ht C FIN)
    go_ret
    exact ⟨rfl, HT.out⟩
  · have hb : bits .and .i64 A.d 7 = 4 := by rw [and7, hk]
    have E : actS s A = (s.lose (A.n % 4), 0) := by unfold actS; simp [hk]
    rw [E]
    clear E hk
    have hb3 : bits .and .i64 A.n 3 = A.n % 4 := and3 A.n
    have C := Lib.hid (lose_any h1 (A.n % 4) (by omega))
    have FIN := Lib.hid (fun w' (ht : Turn (w.alloc (.cells A.cells 33)) p q (s.lose (A.n % 4)) w') => Turn.step (fun b hb => .inl hb) (Chg.alloc (S := Mine p q) w _) ht)
    unfold ActV.cells at FIN C
    clear h1 h
    go_enter Try.func8, Try.ntmps8
    go_wp2_with (go_at_call 22; refine C.out.mono ?_; rintro e w' ⟨rfl, ht⟩; have HT := Lib.hid (FIN.out w' ht); clear ht C FIN)
    go_ret
    exact ⟨rfl, HT.out⟩
  · have hb : bits .and .i64 A.d 7 = 5 := by rw [and7, hk]
    have E : actS s A = (s.arm A.n A.keep, 0) := by unfold actS; simp [hk]
    rw [E]
    clear E hk
    have C := Lib.hid (arm_any h1 A.n ok.n.2 A.kv A.keep hkeep (fun hne e => absurd (hB p (.inl rfl)) (by have := ok.low hne p e; omega)) hAk)
    unfold ActV.kv at C
    have FIN := Lib.hid (fun w' (ht : Turn (w.alloc (.cells A.cells 33)) p q (s.arm A.n A.keep) w') => Turn.step (fun b hb => .inl hb) (Chg.alloc (S := Mine p q) w _) ht)
    unfold ActV.cells at FIN C
    clear h1 h
    go_enter Try.func8, Try.ntmps8
    go_wp2_with (go_at_call 23; refine C.out.mono ?_; rintro e w' ⟨rfl, ht⟩; have HT := Lib.hid (FIN.out w' ht); clear ht C FIN)
    go_ret
    exact ⟨rfl, HT.out⟩
  · have hb : bits .and .i64 A.d 7 = 6 := by rw [and7, hk]
    have E : actS s A = (s.crash A.keep, 0) := by unfold actS; simp [hk]
    rw [E]
    clear E hk
    have C := Lib.hid (crash_any h1 A.kv A.keep hkeep (fun hne b e => ⟨by have := hlow hne b e; have := (Chg.alloc (S := Mine p q) w (.cells A.cells 33)).size; omega, fun e2 => absurd (hB b (.inr (.inr (.inl e2)))) (by have := ok.low hne b e; omega), fun f e2 => absurd (hB b (.inr (.inr (.inr (.inr (.inr (.inr (.inr ⟨f, e2⟩)))))))) (by have := ok.low hne b e; omega)⟩) hAk)
    unfold ActV.kv at C
    have FIN := Lib.hid (fun w' (ht : Turn (w.alloc (.cells A.cells 33)) p q (s.crash A.keep) w') => Turn.step (fun b hb => .inl hb) (Chg.alloc (S := Mine p q) w _) ht)
    unfold ActV.cells at FIN C
    clear h1 h
    go_enter Try.func8, Try.ntmps8
    go_wp2_with (go_at_call 19; refine C.out.mono ?_; rintro e w' ⟨rfl, ht⟩; have HT := Lib.hid (FIN.out w' ht); clear ht C FIN)
    go_ret
    exact ⟨rfl, HT.out⟩
  · have hb : bits .and .i64 A.d 7 = 7 := by rw [and7, hk]
    have E : actS s A = (s.start, 0) := by unfold actS; simp [hk]
    rw [E]
    clear E hk
    have C := Lib.hid (start_any h1)
    have FIN := Lib.hid (fun w' (ht : Turn (w.alloc (.cells A.cells 33)) p q s.start w') => Turn.step (fun b hb => .inl hb) (Chg.alloc (S := Mine p q) w _) ht)
    unfold ActV.cells at FIN C
    clear h1 h
    go_enter Try.func8, Try.ntmps8
    go_wp2_with (go_at_call 20; refine C.out.mono ?_; rintro e w' ⟨rfl, ht⟩; have HT := Lib.hid (FIN.out w' ht); clear ht C FIN)
    go_ret
    exact ⟨rfl, HT.out⟩
end Go.Proofs.Ytclibkpipggdeaa
