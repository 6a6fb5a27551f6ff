/-
  THE READER OF PACKAGE wire: what its methods return, and what they leave in the reader's block (layer 1).
-/
import Derived.Test.YtenlbohacgamlaaDoorWi
import Derived.BigQuiet
import Derived.Deep.QuietTactic
import Derived.Outline
namespace Go.Proofs.YtenlbohacgamlaaDoor
open Go.RowKit WireM
set_option linter.unusedVariables false
set_option linter.unusedSimpArgs false

/-- A reader in block b: what it has not read, and whether it has failed. -/
def Rd (w : World) (b : Nat) (s : ByteArray) (f : Bool) : Prop := w.heap[b]? = some (.cells #[.string s, .bool f] 54 (0, 0))
def RdOut (b : Nat) (w w' : World) (s : ByteArray) (f : Bool) : Prop := Rd w' b s f ∧ w.grownBy w' (some b)

theorem Rd.lt {w : World} {b : Nat} {s : ByteArray} {f : Bool} (h : Rd w b s f) : b < w.heap.size := by
  rcases Nat.lt_or_ge b w.heap.size with h' | h'
  · exact h'
  · simp [Rd, Array.getElem?_eq_none h'] at h
theorem Rd.c0 {w : World} {b : Nat} {s : ByteArray} {f : Bool} (h : Rd w b s f) : w.cell? ⟨b, 0, none⟩ = some (.string s) := by rw [Lib.cell_of_heap h]; rfl
theorem Rd.c1 {w : World} {b : Nat} {s : ByteArray} {f : Bool} (h : Rd w b s f) : w.cell? ⟨b, 1, none⟩ = some (.bool f) := by rw [Lib.cell_of_heap h]; rfl
theorem Rd.f0 {w : World} {b : Nat} {s : ByteArray} {f : Bool} (h : Rd w b s f) : w.frozen? ⟨b, 0, none⟩ = false := Lib.frozen_of_heap h 0
theorem Rd.f1 {w : World} {b : Nat} {s : ByteArray} {f : Bool} (h : Rd w b s f) : w.frozen? ⟨b, 1, none⟩ = false := Lib.frozen_of_heap h 1
theorem Rd.set0 {w : World} {b : Nat} {s : ByteArray} {f : Bool} (h : Rd w b s f) (s' : ByteArray) : Rd (w.setCell ⟨b, 0, none⟩ (.string s')) b s' f := by
  have h' : w.heap[b]? = _ := h
  simp [Rd, World.setCell, Array.getElem?_modify, h']
theorem Rd.set1 {w : World} {b : Nat} {s : ByteArray} {f : Bool} (h : Rd w b s f) (f' : Bool) : Rd (w.setCell ⟨b, 1, none⟩ (.bool f')) b s f' := by
  have h' : w.heap[b]? = _ := h
  simp [Rd, World.setCell, Array.getElem?_modify, h']

theorem grownBy_refl (w : World) (r : Option Nat) : w.grownBy w r := ⟨rfl, rfl, rfl, Nat.le_refl _, fun _ _ _ => rfl⟩
theorem grownBy_trans {a b c : World} {r : Option Nat} (h : a.grownBy b r) (k : b.grownBy c r) : a.grownBy c r :=
  ⟨k.os.trans h.os, k.tape.trans h.tape, k.output.trans h.output, Nat.le_trans h.size k.size, fun i hi hr => (k.block i (Nat.lt_of_lt_of_le hi h.size) hr).trans (h.block i hi hr)⟩
theorem grownBy_set (w : World) (b o : Nat) (v : Value) : w.grownBy (w.setCell ⟨b, o, none⟩ v) (some b) :=
  ⟨rfl, rfl, rfl, by simp [World.setCell], fun k _ hk => Below.heap_setCell _ _ _ _ (fun e => hk (by simp [e]))⟩
theorem grownBy_drewN (w : World) (n : Nat) (r : Option Nat) : w.grownBy (w.drewN n) r := ⟨rfl, rfl, rfl, Nat.le_refl _, fun _ _ _ => rfl⟩
theorem grownBy_to {w w' : World} {r : Option Nat} (h : w.grownBy w' none) : w.grownBy w' r := ⟨h.os, h.tape, h.output, h.size, fun k hk _ => h.block k hk (by simp)⟩
theorem below_of_grownBy {B b : Nat} {w w' : World} (h : w.grownBy w' (some b)) (hB : B ≤ b) (hw : b < w.heap.size) : Below B w w' :=
  ⟨h.os, h.tape, h.output, h.size, fun k hk => h.block k (by omega) (by simp; omega)⟩

theorem fail_any (b : Nat) (s : ByteArray) (f : Bool) (w : World) (h : Rd w b s f) :
    Calls Tryd.prog 51 #[.pointer (some ⟨b, 0, none⟩)] w fun e w' => e = .returned (.tuple #[]) ∧ RdOut b w w' (bs []) true := by
  have c0 := h.c0
  have f0 := h.f0
  have f1 := h.f1
  have c1 := h.c1
  go_enter Tryd.func51, Tryd.ntmps51
  go_wp2
  go_end0
  exact ⟨rfl, (h.set0 _).set1 _, grownBy_trans (grownBy_set _ _ _ _) (grownBy_set _ _ _ _)⟩

theorem left_any (b : Nat) (s : ByteArray) (f : Bool) (w : World) (h : Rd w b s f) :
    Calls Tryd.prog 36 #[.pointer (some ⟨b, 0, none⟩)] w fun e w' => e = .returned (.int .i64 s.size) ∧ w = w' := by
  have c0 := h.c0
  go_enter Tryd.func36, Tryd.ntmps36
  go_wp2
  go_ret
  exact ⟨rfl, rfl⟩

theorem rest_any (b : Nat) (s : ByteArray) (f : Bool) (w : World) (h : Rd w b s f) :
    Calls Tryd.prog 40 #[.pointer (some ⟨b, 0, none⟩)] w fun e w' => e = .returned (.string s) ∧ RdOut b w w' (bs []) f := by
  have c0 := h.c0
  have f0 := h.f0
  go_enter Tryd.func40, Tryd.ntmps40
  go_wp2
  go_ret
  exact ⟨rfl, h.set0 _, grownBy_set _ _ _ _⟩

theorem open_any (s : ByteArray) (w : World) :
    Calls Tryd.prog 21 #[.string s] w fun e w' => e = .returned (.pointer (some ⟨w.heap.size, 0, none⟩)) ∧ Rd w' w.heap.size s false ∧ Below w.heap.size w w' := by
  go_enter Tryd.func21, Tryd.ntmps21
  go_wp2
  go_ret
  exact ⟨rfl, heap_alloc_new w _, (Below.refl _ w).alloc (Nat.le_refl _) _⟩

theorem done_any (b : Nat) (s : ByteArray) (f : Bool) (w : World) (h : Rd w b s f) :
    Calls Tryd.prog 38 #[.pointer (some ⟨b, 0, none⟩)] w fun e w' => e = .returned (.bool (!f && decide (s.size = 0))) ∧ w = w' := by
  have c0 := h.c0
  have c1 := h.c1
  cases f
  · by_cases hs : s.size = 0
    · have hs' : s.toList = [] := by rw [Lib.toList_data]; exact List.eq_nil_of_length_eq_zero hs
      have hs2 : (!s.toList.isEmpty) = false := by simp [hs']
      have H := Lib.hid hs
      clear hs
      go_enter Tryd.func38, Tryd.ntmps38
      go_wp2
      go_ret
      exact ⟨by simp [H.out], rfl⟩
    · have hs' : s.toList ≠ [] := by rw [Lib.toList_data]; intro h0; exact hs (congrArg List.length h0)
      have hs2 : (s.toList.isEmpty) = false := by simp [hs']
      have H := Lib.hid hs
      clear hs
      go_enter Tryd.func38, Tryd.ntmps38
      go_wp2
      go_ret
      exact ⟨by simp [H.out], rfl⟩
  · go_enter Tryd.func38, Tryd.ntmps38
    go_wp2
    go_ret
    exact ⟨rfl, rfl⟩

def DgPost (b : Nat) (w : World) (f : Bool) (r : Option (Nat × List UInt8)) (en : Ending) (w' : World) : Prop :=
  match r with
  | some (n, t) => en = .returned (.int .u64 n) ∧ RdOut b w w' (bs t) f
  | none => en = .returned (.int .u64 0) ∧ RdOut b w w' (bs []) true
theorem dgPost_none {b : Nat} {w w' : World} {f : Bool} {r : Option (Nat × List UInt8)} (h : r = none) (ho : RdOut b w w' (bs []) true) : DgPost b w f r (.returned (.int .u64 0)) w' := by
  subst h; exact ⟨rfl, ho⟩
theorem dgPost_some {b : Nat} {w w' : World} {f : Bool} {r : Option (Nat × List UInt8)} {n : Nat} {t : List UInt8} {t' : ByteArray} (h : r = some (n, t)) (ht : t' = bs t) (ho : RdOut b w w' t' f) : DgPost b w f r (.returned (.int .u64 n)) w' := by
  subst h; subst ht; exact ⟨rfl, ho⟩

set_option maxHeartbeats 1000000 in
theorem digits_any (b : Nat) (s : ByteArray) (f : Bool) (lim : Int) (e : UInt8) (w : World) (h : Rd w b s f) (hl : 9 ≤ lim) (hh : lim ≤ 9223372036854775808) (hs : s.size ≤ 1099511627776) :
    Calls Tryd.prog 48 #[.pointer (some ⟨b, 0, none⟩), .int .u64 lim, .int .u8 (e.toNat : Int)] w (DgPost b w f (scan lim.toNat e false 0 s.data.toList)) := by
  have c0 := h.c0
  have f0 := h.f0
  go_enter Tryd.func48, Tryd.ntmps48
  go_wp2_with fail
  go_loop [17, 7] (fun i n => ∃ k m : Nat, k ≤ s.size ∧ i = .int .i64 k ∧ n = .int .u64 m ∧ (m : Int) ≤ lim ∧ scan lim.toNat e (decide (0 < k)) m (s.data.toList.drop k) = scan lim.toNat e false 0 s.data.toList) (fun i _ => s.size - (intOf i).toNat)
  case atStart => exact ⟨0, 0, Nat.zero_le _, rfl, rfl, by omega, by simp⟩
  case round =>
    obtain ⟨k, m, hk, rfl, rfl, hm, hsc⟩ := hrel
    have HS := Lib.hid hsc
    clear hsc
    by_cases hlt : k < s.size
    · have HD := Lib.hid (drop_at s k hlt)
      have hb := s[k].toNat_lt
      have he := e.toNat_lt
      go_wp2_with fail
      all_goals first
        | (go_at_call 51
           refine (fail_any b s f w h).mono ?_
           rintro e' w' ⟨rfl, ho⟩
           have HN := Lib.hid (show scan lim.toNat e false 0 s.data.toList = none by
             rw [← HS.out, HD.out]; refine scan_none _ _ _ _ _ _ (by omega) ?_; first | omega | (simp only [beq_iff_eq] at *; omega))
           go_wp2_with fail
           go_ret
           exact dgPost_none HN.out ho)
        | (go_ret
           exact dgPost_some (by rw [← HS.out, HD.out]; exact scan_hit _ _ _ _ _ _ (by omega) (by omega)) (extract_end s (k + 1)) ⟨h.set0 _, grownBy_set _ _ _ _⟩)
        | (go_round
           case rel => exact ⟨k + 1, m * 10 + (s[k].toNat - 48), by omega, by go_num, congrArg _ (by omega), by omega, by rw [← HS.out, HD.out]; exact (scan_step _ _ _ _ _ _ (by omega) (by omega) (by omega) (by first | omega | (simp only [beq_iff_eq] at *; omega)) (by omega)).symm⟩
           case measure => simp [intOf]; omega)
    · obtain rfl : k = s.size := by omega
      have HN := Lib.hid (show scan lim.toNat e false 0 s.data.toList = none by
        rw [← HS.out, List.drop_eq_nil_of_le (by simp)]; exact scan_end _ _ _ _)
      go_wp2_with fail
      go_at_call 51
      refine (fail_any b s f w h).mono ?_
      rintro e' w' ⟨rfl, ho⟩
      go_wp2_with fail
      go_ret
      exact dgPost_none HN.out ho
end Go.Proofs.YtenlbohacgamlaaDoor
