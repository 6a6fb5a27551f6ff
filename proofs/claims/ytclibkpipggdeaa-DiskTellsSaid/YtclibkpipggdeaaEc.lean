/-
  THE LAWS OF LAYER 3: what a law's arguments are; plain facts of Write, Truncate and Crash.
-/
import Derived.Test.YtclibkpipggdeaaEb
namespace Go.Proofs.Ytclibkpipggdeaa
open Go.RowKit Go.Maps WireM DiskM
set_option linter.unusedVariables false
set_option linter.unusedSimpArgs false

theorem run_inv {w0 w : World} {p : Nat} {s : St} (h : S1 w0 w p s) : Inv s := by obtain ⟨q, h1, h4⟩ := h; exact h1.1.inv
theorem S1.keep60 {w0 w : World} {p : Nat} {s : St} (h : S1 w0 w p s) : s.keep.length ≤ 60 := by obtain ⟨q, h1, h4⟩ := h; exact h1.2.2
theorem few_at {w0 w : World} {a : Option Addr} {c : Nat} {l : List ActV} (h : ActsAt w0.heap.size w0 a l) (hb : Below w0.heap.size w0 w) {r : Bool} (hr : decide (Few l) = r) :
    Calls Try.prog 5 #[.slice a l.length c] w fun e w' => e = .returned (.bool r) ∧ w = w' := hr ▸ few_any (h.below hb)
theorem small_at {w0 w : World} (hb : Below w0.heap.size w0 w) : Calls Try.prog 4 #[] w fun e w' => e = .returned (.bool true) ∧ Below w0.heap.size w0 w' := by
  refine (small_any w).mono ?_
  rintro e w' ⟨rfl, b⟩
  exact ⟨rfl, hb.trans (b.mono hb.size)⟩
theorem inv_act {s : St} {A : ActV} (h : Inv s) (hn : A.n ≤ 9223372036854775807) : Inv (actS s A).1 := by
  unfold actS
  split
  · exact inv_sync h _
  split
  · exact inv_trunc h _ _
  split
  · exact inv_lose h (by omega)
  split
  · exact inv_arm h hn _
  split
  · exact inv_crash h _
  split
  · exact inv_start h
  · exact inv_write h _ _ _
theorem inv_runs : ∀ (l : List ActV) {s : St}, Inv s → (∀ A ∈ l, A.n ≤ 9223372036854775807) → Inv (runActs s l)
  | [], s, h, _ => h
  | A :: r, s, h, hl => inv_runs r (inv_act h (hl A (by simp))) (fun B hB => hl B (by simp [hB]))
theorem ActsAt.inv {B : Nat} {w : World} {a : Option Addr} {l : List ActV} (h : ActsAt B w a l) : Inv (runActs St.new l) := inv_runs l inv_new (fun A hA => (h.ok A hA).n.2)
end Go.Proofs.Ytclibkpipggdeaa
