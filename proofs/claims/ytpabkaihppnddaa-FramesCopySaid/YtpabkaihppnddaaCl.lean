/-
  THE LAWS' pick, few, do, model.
-/
import Derived.Test.YtpabkaihppnddaaCk
import Derived.Test.YtpabkaihppnddaaBo
namespace Go.Proofs.Ytpabkaihppnddaa
open Go.RowKit
set_option linter.unusedVariables false
set_option linter.unusedSimpArgs false
set_option maxRecDepth 100000
/-- An operation. -/
structure OpV where
  d : Int
  f : Int
  a : Int
  b : UInt8
  s : ByteArray
instance : Inhabited OpV := ⟨⟨0, 0, 0, 0, .empty⟩⟩
def OpV.cells (A : OpV) : Array Value := #[.int .i64 A.d, .int .i64 A.f, .int .i64 A.a, .int .u8 (A.b.toNat : Int), .string A.s]
structure OpV.Ok (A : OpV) : Prop where
  d : InI A.d
  f : InI A.f
  a : InI A.a
  s : A.s.size ≤ maxLen
def Fm.op (L : Fm) (A : OpV) : Fm × Int × Bool × Int :=
  if A.d % 4 = 0 then (L.alloc.1, L.alloc.2.1, L.alloc.2.2, 0)
  else if A.d % 4 = 1 then ((L.free A.f).1, 0, false, (L.free A.f).2)
  else if A.d % 4 = 2 then ((L.put A.f A.a A.b).1, 0, false, (L.put A.f A.a A.b).2)
  else ((L.fill A.f A.s).1, 0, false, (L.fill A.f A.s).2)
def fewB (L : List OpV) : Bool := decide (∀ A ∈ L, A.s.size ≤ 100) && decide (L.length ≤ 100)
theorem pick_any (n : Int) (hn : InI n) (w : World) : Calls Try.prog 22 #[.int .i64 n, .int .i64 4] w fun e w' => e = .returned (.int .i64 (n % 4)) ∧ w' = w := by
  obtain ⟨t, ht⟩ : ∃ t, n.tmod 4 = t := ⟨_, rfl⟩
  have b0 : n % 4 = if t < 0 then t + 4 else t := by
    have e1 := Int.tmod_eq_emod (a := n) (b := 4)
    have e3 := Int.emod_nonneg n (show (4 : Int) ≠ 0 by decide)
    have e4 := Int.emod_lt_of_pos n (show (0 : Int) < 4 by decide)
    rw [ht] at e1
    by_cases c : 0 ≤ n ∨ (4 : Int) ∣ n
    · rw [if_pos c] at e1
      rw [if_neg (show ¬ t < 0 by omega)]; omega
    · rw [if_neg c] at e1
      have e5 : ((4 : Int).natAbs : Int) = 4 := rfl
      have hz : n % 4 ≠ 0 := fun e => c (.inr (Int.dvd_of_emod_eq_zero e))
      rw [if_pos (show t < 0 by omega)]; omega
  have b1 : -4 ≤ t ∧ t < 4 := by
    have e3 := Int.emod_nonneg n (show (4 : Int) ≠ 0 by decide)
    have e4 := Int.emod_lt_of_pos n (show (0 : Int) < 4 by decide)
    by_cases c : t < 0
    · rw [if_pos c] at b0; omega
    · rw [if_neg c] at b0; omega
  have wt : wrap64 t = t := by unfold wrap64; omega
  by_cases c : t < 0
  · rw [if_pos c] at b0
    rw [b0]
    have w1 : wrap64 (t + 4) = t + 4 := by unfold wrap64; omega
    clear b0
    go_enter Try.func22, Try.ntmps22
    go_wp2
    go_ret
    exact ⟨rfl, rfl⟩
  · rw [if_neg c] at b0
    rw [b0]
    clear b0
    go_enter Try.func22, Try.ntmps22
    go_wp2
    go_ret
    exact ⟨rfl, rfl⟩
theorem few_any {B : Nat} {a : Option Addr} {c : Nat} {L : List OpV} {w : World} (h : RowsAt OpV.cells OpV.Ok 5 B w a L) (hL : L.length ≤ maxLen) :
    Calls Try.prog 8 #[.slice a L.length c] w fun e w' => e = .returned (.bool (fewB L)) ∧ w' = w := by
  have CE := Lib.hid (fun i A (hA : L[i]? = some A) => h.one (Below.refl B w) hA)
  have HL := Lib.hid (show L.length ≤ 9223372036854775807 by unfold maxLen at hL; omega)
  clear h hL
  go_enter Try.func8, Try.ntmps8
  go_wp2_with fail
  go_loopw [3] (fun i wr => ∃ j : Nat, j ≤ L.length ∧ i = .int .i64 (j : Int) ∧ wr = w ∧ Hid (∀ m A, m < j → L[m]? = some A → A.s.size ≤ 100)) (fun i _ => L.length - (intOf i).toNat)
  case atStart => exact ⟨0, Nat.zero_le _, rfl, rfl, Lib.hid (fun m A hm => by omega)⟩
  case round =>
    obtain ⟨j, hj, rfl, rfl, HO⟩ := hrel
    by_cases hlt : j < L.length
    · obtain ⟨A, hA⟩ : ∃ A, L[j]? = some A := ⟨_, List.getElem?_eq_getElem hlt⟩
      obtain ⟨b, o, rfl, _, hc⟩ := CE.out j A hA
      have c2 := hc 4 (.string A.s) rfl
      have g0 : (0 : Int) ≤ (j : Int) := by omega
      have g1 : (j : Int) < (L.length : Int) := by omega
      have w1 : wrap64 ((j : Int) + 1) = (j : Int) + 1 := by have := HL.out; unfold wrap64; omega
      have W1 := Lib.hid w1
      have MEAS := Lib.hid (show L.length - (intOf (.int .i64 ((j : Int) + 1))).toNat < L.length - (intOf (.int .i64 (j : Int))).toNat by simp [intOf]; omega)
      by_cases e : A.s.size ≤ 100
      · have e1 : ¬ (100 : Int) < (A.s.size : Int) := by omega
        have G := Lib.hid (show ∃ j' : Nat, j' ≤ L.length ∧ Value.int .i64 ((j : Int) + 1) = .int .i64 (j' : Int) ∧ True ∧ Hid (∀ m A, m < j' → L[m]? = some A → A.s.size ≤ 100) from ⟨j + 1, hlt, rfl, trivial, Lib.hid (fun m B hm hB => by
          by_cases e2 : m = j
          · subst e2; rw [hA] at hB; cases hB; exact e
          · exact HO.out m B (by omega) hB)⟩)
        clear hA hlt hj w1 e hc
        go_wp2
        go_roundw
        case rel => first | exact G.out | (rw [W1.out]; exact G.out)
        case measure => first | exact MEAS.out | (rw [W1.out]; exact MEAS.out)
      · have e1 : (100 : Int) < (A.s.size : Int) := by omega
        have E := Lib.hid (show fewB L = false from by unfold fewB; rw [decide_eq_false (fun h : ∀ A ∈ L, A.s.size ≤ 100 => e (h A (List.mem_of_getElem? hA)))]; rfl)
        clear hA hlt hj w1 e hc
        go_wp2
        go_ret
        exact ⟨by rw [E.out]; rfl, rfl⟩
    · have g1 : ¬ (j : Int) < (L.length : Int) := by omega
      have E := Lib.hid (show fewB L = decide ((L.length : Int) ≤ 100) from by
        unfold fewB
        rw [decide_eq_true (fun A hA => by
          obtain ⟨m, hm⟩ := List.getElem?_of_mem hA
          exact HO.out m A (by have := (List.getElem?_eq_some_iff.1 hm).1; omega) hm : ∀ A ∈ L, A.s.size ≤ 100)]
        rw [Bool.true_and]
        by_cases c : L.length ≤ 100
        · rw [decide_eq_true c, decide_eq_true (by omega)]
        · rw [decide_eq_false c, decide_eq_false (by omega)])
      clear hlt hj HO
      go_wp2
      go_ret
      exact ⟨by rw [E.out]; rfl, rfl⟩
section
variable {w0 w : World} {S : Nat → Prop} {l : List Kd}
set_option maxHeartbeats 1000000 in
theorem Tog.xdo (h : Tog w0 S w l) {i p : Nat} {L : Fm} (hi : l[i]? = some (kFr p L)) (A : OpV) (ok : A.Ok) : Calls Try.prog 11 #[.pointer (some ⟨p, 0, none⟩), .agg #[.int .i64 A.d, .int .i64 A.f, .int .i64 A.a, .int .u8 (A.b.toNat : Int), .string A.s]] w fun e w' => e = .returned (.tuple #[.int .i64 (L.op A).2.1, .bool (L.op A).2.2.1, .int .i64 (L.op A).2.2.2]) ∧ Tog w0 S w' (l.set i (kFr p (L.op A).1)) := by
  obtain ⟨d, f, a, b, s⟩ := A
  have hd := ok.d
  have hf := ok.f
  have hs := ok.s
  simp only at hd hf hs
  have T0 := h.alloc (.cells #[.int .i64 d, .int .i64 f, .int .i64 a, .int .u8 (b.toNat : Int), .string s] 33)
  have PK := Lib.hid (pick_any d hd (w.alloc (.cells #[.int .i64 d, .int .i64 f, .int .i64 a, .int .u8 (b.toNat : Int), .string s] 33)))
  obtain ⟨r, hr⟩ : ∃ r, d % 4 = r := ⟨_, rfl⟩
  rw [hr] at PK
  have hb := heap_alloc_last w (.cells #[.int .i64 d, .int .i64 f, .int .i64 a, .int .u8 (b.toNat : Int), .string s] 33)
  have c0 : (w.alloc (.cells #[.int .i64 d, .int .i64 f, .int .i64 a, .int .u8 (b.toNat : Int), .string s] 33)).cell? ⟨w.heap.size, 0, none⟩ = some (.int .i64 d) := by rw [cell_of_row _ _ _ _ _ _ hb]; rfl
  have c1 : (w.alloc (.cells #[.int .i64 d, .int .i64 f, .int .i64 a, .int .u8 (b.toNat : Int), .string s] 33)).cell? ⟨w.heap.size, 1, none⟩ = some (.int .i64 f) := by rw [cell_of_row _ _ _ _ _ _ hb]; rfl
  have c2 : (w.alloc (.cells #[.int .i64 d, .int .i64 f, .int .i64 a, .int .u8 (b.toNat : Int), .string s] 33)).cell? ⟨w.heap.size, 2, none⟩ = some (.int .i64 a) := by rw [cell_of_row _ _ _ _ _ _ hb]; rfl
  have c3 : (w.alloc (.cells #[.int .i64 d, .int .i64 f, .int .i64 a, .int .u8 (b.toNat : Int), .string s] 33)).cell? ⟨w.heap.size, 3, none⟩ = some (.int .u8 (b.toNat : Int)) := by rw [cell_of_row _ _ _ _ _ _ hb]; rfl
  have c4 : (w.alloc (.cells #[.int .i64 d, .int .i64 f, .int .i64 a, .int .u8 (b.toNat : Int), .string s] 33)).cell? ⟨w.heap.size, 4, none⟩ = some (.string s) := by rw [cell_of_row _ _ _ _ _ _ hb]; rfl
  clear hb
  have hr2 : r = 0 ∨ r = 1 ∨ r = 2 ∨ r = 3 := by omega
  rcases hr2 with rfl | rfl | rfl | rfl
  · have E : L.op ⟨d, f, a, b, s⟩ = (L.alloc.1, L.alloc.2.1, L.alloc.2.2, 0) := by unfold Fm.op; simp only [hr]; rfl
    rw [E]
    have C := Lib.hid (T0.xalloc hi)
    generalize L.alloc = R at *
    obtain ⟨L2, fr, okr⟩ := R
    simp only at C ⊢
    clear h hi T0 E hr ok hs
    go_enter Try.func11, Try.ntmps11
    go_wp2_with (first
      | (go_at_call 22; refine PK.out.mono ?_; rintro e w1 ⟨rfl, hw⟩; subst w1)
      | (go_at_call 25; refine C.out.mono ?_; rintro e w1 ⟨rfl, T⟩; have FIN := Lib.hid T; clear T))
    go_ret3
    exact ⟨rfl, FIN.out⟩
  · have E : L.op ⟨d, f, a, b, s⟩ = ((L.free f).1, 0, false, (L.free f).2) := by unfold Fm.op; simp only [hr]; rfl
    rw [E]
    have C := Lib.hid (T0.xfree hi f hf)
    generalize L.free f = R at *
    obtain ⟨L2, er⟩ := R
    simp only at C ⊢
    clear h hi T0 E hr ok hs
    go_enter Try.func11, Try.ntmps11
    go_wp2_with (first
      | (go_at_call 22; refine PK.out.mono ?_; rintro e w1 ⟨rfl, hw⟩; subst w1)
      | (go_at_call 27; refine C.out.mono ?_; rintro e w1 ⟨rfl, T⟩; have FIN := Lib.hid T; clear T))
    go_ret3
    exact ⟨rfl, FIN.out⟩
  · have E : L.op ⟨d, f, a, b, s⟩ = ((L.put f a b).1, 0, false, (L.put f a b).2) := by unfold Fm.op; simp only [hr]; rfl
    rw [E]
    have C := Lib.hid (T0.xset hi f a b hf)
    generalize L.put f a b = R at *
    obtain ⟨L2, er⟩ := R
    simp only at C ⊢
    clear h hi T0 E hr ok hs
    go_enter Try.func11, Try.ntmps11
    go_wp2_with (first
      | (go_at_call 22; refine PK.out.mono ?_; rintro e w1 ⟨rfl, hw⟩; subst w1)
      | (go_at_call 29; refine C.out.mono ?_; rintro e w1 ⟨rfl, T⟩; have FIN := Lib.hid T; clear T))
    go_ret3
    exact ⟨rfl, FIN.out⟩
  · have E : L.op ⟨d, f, a, b, s⟩ = ((L.fill f s).1, 0, false, (L.fill f s).2) := by unfold Fm.op; simp only [hr]; rfl
    rw [E]
    have C := Lib.hid (T0.xfill hi f s hf)
    generalize L.fill f s = R at *
    obtain ⟨L2, er⟩ := R
    simp only at C ⊢
    clear h hi T0 E hr ok hs
    go_enter Try.func11, Try.ntmps11
    go_wp2_with (first
      | (go_at_call 22; refine PK.out.mono ?_; rintro e w1 ⟨rfl, hw⟩; subst w1)
      | (go_at_call 26; refine C.out.mono ?_; rintro e w1 ⟨rfl, T⟩; have FIN := Lib.hid T; clear T))
    go_ret3
    exact ⟨rfl, FIN.out⟩
set_option maxHeartbeats 1000000 in
theorem Tog.rdo (h : Tog w0 S w l) {i p : Nat} {L : Fm} (hi : l[i]? = some (kRef p L)) (A : OpV) (ok : A.Ok) : Calls Try.prog 12 #[.pointer (some ⟨p, 0, none⟩), .agg #[.int .i64 A.d, .int .i64 A.f, .int .i64 A.a, .int .u8 (A.b.toNat : Int), .string A.s]] w fun e w' => e = .returned (.tuple #[.int .i64 (L.op A).2.1, .bool (L.op A).2.2.1, .int .i64 (L.op A).2.2.2]) ∧ Tog w0 S w' (l.set i (kRef p (L.op A).1)) := by
  obtain ⟨d, f, a, b, s⟩ := A
  have hd := ok.d
  have hf := ok.f
  have hs := ok.s
  simp only at hd hf hs
  have T0 := h.alloc (.cells #[.int .i64 d, .int .i64 f, .int .i64 a, .int .u8 (b.toNat : Int), .string s] 33)
  have PK := Lib.hid (pick_any d hd (w.alloc (.cells #[.int .i64 d, .int .i64 f, .int .i64 a, .int .u8 (b.toNat : Int), .string s] 33)))
  obtain ⟨r, hr⟩ : ∃ r, d % 4 = r := ⟨_, rfl⟩
  rw [hr] at PK
  have hb := heap_alloc_last w (.cells #[.int .i64 d, .int .i64 f, .int .i64 a, .int .u8 (b.toNat : Int), .string s] 33)
  have c0 : (w.alloc (.cells #[.int .i64 d, .int .i64 f, .int .i64 a, .int .u8 (b.toNat : Int), .string s] 33)).cell? ⟨w.heap.size, 0, none⟩ = some (.int .i64 d) := by rw [cell_of_row _ _ _ _ _ _ hb]; rfl
  have c1 : (w.alloc (.cells #[.int .i64 d, .int .i64 f, .int .i64 a, .int .u8 (b.toNat : Int), .string s] 33)).cell? ⟨w.heap.size, 1, none⟩ = some (.int .i64 f) := by rw [cell_of_row _ _ _ _ _ _ hb]; rfl
  have c2 : (w.alloc (.cells #[.int .i64 d, .int .i64 f, .int .i64 a, .int .u8 (b.toNat : Int), .string s] 33)).cell? ⟨w.heap.size, 2, none⟩ = some (.int .i64 a) := by rw [cell_of_row _ _ _ _ _ _ hb]; rfl
  have c3 : (w.alloc (.cells #[.int .i64 d, .int .i64 f, .int .i64 a, .int .u8 (b.toNat : Int), .string s] 33)).cell? ⟨w.heap.size, 3, none⟩ = some (.int .u8 (b.toNat : Int)) := by rw [cell_of_row _ _ _ _ _ _ hb]; rfl
  have c4 : (w.alloc (.cells #[.int .i64 d, .int .i64 f, .int .i64 a, .int .u8 (b.toNat : Int), .string s] 33)).cell? ⟨w.heap.size, 4, none⟩ = some (.string s) := by rw [cell_of_row _ _ _ _ _ _ hb]; rfl
  clear hb
  have hr2 : r = 0 ∨ r = 1 ∨ r = 2 ∨ r = 3 := by omega
  rcases hr2 with rfl | rfl | rfl | rfl
  · have E : L.op ⟨d, f, a, b, s⟩ = (L.alloc.1, L.alloc.2.1, L.alloc.2.2, 0) := by unfold Fm.op; simp only [hr]; rfl
    rw [E]
    have C := Lib.hid (T0.ralloc hi)
    generalize L.alloc = R at *
    obtain ⟨L2, fr, okr⟩ := R
    simp only at C ⊢
    clear h hi T0 E hr ok hs
    go_enter Try.func12, Try.ntmps12
    go_wp2_with (first
      | (go_at_call 22; refine PK.out.mono ?_; rintro e w1 ⟨rfl, hw⟩; subst w1)
      | (go_at_call 30; refine C.out.mono ?_; rintro e w1 ⟨rfl, T⟩; have FIN := Lib.hid T; clear T))
    go_ret3
    exact ⟨rfl, FIN.out⟩
  · have E : L.op ⟨d, f, a, b, s⟩ = ((L.free f).1, 0, false, (L.free f).2) := by unfold Fm.op; simp only [hr]; rfl
    rw [E]
    have C := Lib.hid (T0.rfree hi f hf)
    generalize L.free f = R at *
    obtain ⟨L2, er⟩ := R
    simp only at C ⊢
    clear h hi T0 E hr ok hs
    go_enter Try.func12, Try.ntmps12
    go_wp2_with (first
      | (go_at_call 22; refine PK.out.mono ?_; rintro e w1 ⟨rfl, hw⟩; subst w1)
      | (go_at_call 31; refine C.out.mono ?_; rintro e w1 ⟨rfl, T⟩; have FIN := Lib.hid T; clear T))
    go_ret3
    exact ⟨rfl, FIN.out⟩
  · have E : L.op ⟨d, f, a, b, s⟩ = ((L.put f a b).1, 0, false, (L.put f a b).2) := by unfold Fm.op; simp only [hr]; rfl
    rw [E]
    have C := Lib.hid (T0.rset hi f a b hf)
    generalize L.put f a b = R at *
    obtain ⟨L2, er⟩ := R
    simp only at C ⊢
    clear h hi T0 E hr ok hs
    go_enter Try.func12, Try.ntmps12
    go_wp2_with (first
      | (go_at_call 22; refine PK.out.mono ?_; rintro e w1 ⟨rfl, hw⟩; subst w1)
      | (go_at_call 32; refine C.out.mono ?_; rintro e w1 ⟨rfl, T⟩; have FIN := Lib.hid T; clear T))
    go_ret3
    exact ⟨rfl, FIN.out⟩
  · have E : L.op ⟨d, f, a, b, s⟩ = ((L.fill f s).1, 0, false, (L.fill f s).2) := by unfold Fm.op; simp only [hr]; rfl
    rw [E]
    have C := Lib.hid (T0.rfill hi f s hf hs)
    generalize L.fill f s = R at *
    obtain ⟨L2, er⟩ := R
    simp only at C ⊢
    clear h hi T0 E hr ok hs
    go_enter Try.func12, Try.ntmps12
    go_wp2_with (first
      | (go_at_call 22; refine PK.out.mono ?_; rintro e w1 ⟨rfl, hw⟩; subst w1)
      | (go_at_call 33; refine C.out.mono ?_; rintro e w1 ⟨rfl, T⟩; have FIN := Lib.hid T; clear T))
    go_ret3
    exact ⟨rfl, FIN.out⟩
end
end Go.Proofs.Ytpabkaihppnddaa
