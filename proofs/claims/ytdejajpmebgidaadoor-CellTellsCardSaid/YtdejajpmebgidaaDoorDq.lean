/-
  PACKAGE disk: what unlist hands to slices.DeleteFunc; slices.IndexFunc with it.
-/
import Derived.Test.YtdejajpmebgidaaDoorDp
import Derived.Lib.SliceRun
namespace Go.Proofs.YtdejajpmebgidaaDoor
open Go.RowKit Go.Maps WireM DiskM
set_option linter.unusedVariables false
set_option linter.unusedSimpArgs false
set_option maxRecDepth 100000

/-- Block g is a row of sectors, its first ones those of a list. -/
def RowD (w : World) (g cap : Nat) (d : List Sec) : Prop := ∃ cur, w.heap[g]? = some (.cells cur 78 (0, 0)) ∧ cur.size = cap * 2 ∧ cur.toList.take (d.length * 2) = secCells d ∧ d.length ≤ cap ∧ cap ≤ maxLen
theorem rowD_of {w : World} {v : Value} {d : List Sec} (h : SecRow w v d) (hd : d ≠ []) : ∃ g cap, v = .slice (some ⟨g, 0, none⟩) d.length cap ∧ RowD w g cap d := by
  rcases h.2 with ⟨_, h0⟩ | ⟨g, cap, cur, rfl, _, hg, hnc, hcm, hcs, htake⟩
  · exact absurd (List.eq_nil_of_length_eq_zero h0) hd
  · exact ⟨g, cap, rfl, cur, hg, hcs, htake, hnc, hcm⟩
theorem RowD.block {w w' : World} {g cap : Nat} {d : List Sec} (h : RowD w g cap d) (hb : w'.heap[g]? = w.heap[g]?) : RowD w' g cap d := by
  obtain ⟨cur, h1, h2⟩ := h; exact ⟨cur, hb.trans h1, h2⟩
theorem RowD.lt {w : World} {g cap : Nat} {d : List Sec} (h : RowD w g cap d) : g < w.heap.size := by
  obtain ⟨cur, h1, _⟩ := h; exact (Array.getElem?_eq_some_iff.1 h1).1
theorem secCells_at (d : List Sec) : ∀ (i : Nat) (s : Sec), d[i]? = some s → (secCells d)[i * 2]? = some (.int .i64 s.1) ∧ (secCells d)[i * 2 + 1]? = some (.int .i64 s.2) := by
  induction d with
  | nil => intro i s h; simp at h
  | cons a r ih =>
    intro i s h
    have e : secCells (a :: r) = .int .i64 a.1 :: .int .i64 a.2 :: secCells r := rfl
    rw [e]
    cases i with
    | zero => simp at h; subst h; exact ⟨rfl, rfl⟩
    | succ i =>
      have h2 := ih i s (by simpa using h)
      rw [show (i + 1) * 2 = i * 2 + 2 by omega, show i * 2 + 2 + 1 = (i * 2 + 1) + 2 by omega]
      simpa using h2
theorem RowD.cell {w : World} {g cap : Nat} {d : List Sec} (h : RowD w g cap d) {i : Nat} {s : Sec} (hs : d[i]? = some s) : w.cell? ⟨g, i * 2, none⟩ = some (.int .i64 s.1) ∧ w.cell? ⟨g, i * 2 + 1, none⟩ = some (.int .i64 s.2) := by
  obtain ⟨cur, h1, h2, h3, h4⟩ := h
  have hi := (List.getElem?_eq_some_iff.1 hs).1
  obtain ⟨a, b⟩ := secCells_at d i s hs
  rw [← h3] at a b
  rw [List.getElem?_take, if_pos (by omega)] at a b
  exact ⟨by rw [Lib.cell_of_heap h1]; simpa using a, by rw [Lib.cell_of_heap h1]; simpa using b⟩
theorem RowD.fz {w : World} {g cap : Nat} {d : List Sec} (h : RowD w g cap d) (i : Nat) : w.frozen? ⟨g, i, none⟩ = false := by
  obtain ⟨cur, h1, _⟩ := h; exact Lib.frozen_of_heap h1 i
theorem secCells_set (d : List Sec) : ∀ (i : Nat) (s : Sec), ((secCells d).set (i * 2) (.int .i64 s.1)).set (i * 2 + 1) (.int .i64 s.2) = secCells (d.set i s) := by
  induction d with
  | nil => intro i s; simp [secCells]
  | cons a r ih =>
    intro i s
    have e : secCells (a :: r) = .int .i64 a.1 :: .int .i64 a.2 :: secCells r := rfl
    cases i with
    | zero => rw [e]; rfl
    | succ i =>
      rw [e, show (i + 1) * 2 = i * 2 + 2 by omega, show i * 2 + 2 + 1 = (i * 2 + 1) + 2 by omega]
      simp only [List.set_cons_succ]
      rw [ih]; rfl
theorem RowD.set {w : World} {g cap : Nat} {d : List Sec} (h : RowD w g cap d) (i : Nat) (s : Sec) : RowD ((w.setCell ⟨g, i * 2, none⟩ (.int .i64 s.1)).setCell ⟨g, i * 2 + 1, none⟩ (.int .i64 s.2)) g cap (d.set i s) := by
  obtain ⟨cur, h1, h2, h3, h4, h5⟩ := h
  refine ⟨(cur.setIfInBounds (i * 2) (.int .i64 s.1)).setIfInBounds (i * 2 + 1) (.int .i64 s.2), ?_, by simp [h2], ?_, by simpa using h4, h5⟩
  · simp [World.setCell, Array.getElem?_modify, h1]
  · rw [List.length_set, ← secCells_set, ← h3]
    simp only [Array.toList_setIfInBounds, List.take_set]
/-- clear(s[i:]). -/
theorem zeros_sec (k : Nat) : (Builtin.zeroCells #[.int .i64 0, .int .i64 0] k).toList = secCells (List.replicate k (0, 0)) := by
  unfold Builtin.zeroCells
  induction k with
  | zero => simp [secCells]
  | succ k ih =>
    rw [List.replicate_succ', show secCells (List.replicate k (0, 0) ++ [(0, 0)]) = secCells (List.replicate k (0, 0)) ++ [.int .i64 0, .int .i64 0] by simp [secCells], ← ih]
    simp only [List.size_toArray, List.length_cons, List.length_nil, Nat.zero_add, Array.toList_map, Array.toList_range]
    rw [show (k + 1) * (1 + 1) = k * (1 + 1) + 1 + 1 by omega, List.range_succ, List.range_succ]
    simp only [List.map_append, List.map_cons, List.map_nil, List.append_assoc, List.cons_append, List.nil_append]
    congr 1
    have e1 : (k * (1 + 1)) % 2 = 0 := by omega
    have e2 : (k * (1 + 1) + 1) % 2 = 1 := by omega
    simp [e1, e2]
theorem zeroS (w : World) : (zeroValue 78).run Tryd.prog w = .ok (.agg #[.int .i64 0, .int .i64 0]) w := by kernel_rfl
theorem RowD.clear {w : World} {g cap : Nat} {d : List Sec} (h : RowD w g cap d) (i : Nat) (hi : i < d.length) (ty : TypeId) :
    ∃ w', (Builtin.clear_ #[ 53 ] ty #[.slice (some ⟨g, i * 2, none⟩) (d.length - i) (cap - i)]).run Tryd.prog w = .ok (.tuple #[]) w' ∧ RowD w' g cap (d.take i) ∧ Chg (fun b => b = g) w w' := by
  obtain ⟨cur, h1, h2, h3, h4, h5⟩ := h
  obtain ⟨m, hm⟩ : ∃ m, d.length - i = m + 1 := ⟨d.length - i - 1, by omega⟩
  have hst := run_storeCells_at Tryd.prog g (i * 2) 78 (secCells (List.replicate (m + 1) (0, 0))) 0 cur w h1 (by rw [secCells_len, List.length_replicate]; omega) (secCells_one _)
  simp only [Nat.add_zero] at hst
  rw [hm]
  refine ⟨w.setRow g (cur.toList.take (i * 2) ++ secCells (List.replicate (m + 1) (0, 0)) ++ cur.toList.drop (i * 2 + (secCells (List.replicate (m + 1) (0, 0))).length)).toArray, ?_, ⟨_, setRow_heap w g cur _ 78 _ h1, ?_, ?_, by rw [List.length_take]; omega, h5⟩, ⟨rfl, rfl, rfl, by simp, fun j _ hj => setRow_other w g j _ hj⟩⟩
  · simp [Builtin.clear_, run_underlying Tryd.underlying53, zeroS, Value.cells, zeros_sec, hst]
  · simp [secCells_len]; omega
  · have e1 : (d.take i).length = i := by rw [List.length_take]; omega
    simp only [e1]
    have e2 : (cur.toList.take (i * 2)).length = i * 2 := by rw [List.length_take]; simp; omega
    rw [List.append_assoc, List.take_left' e2]
    have e3 : cur.toList.take (i * 2) = (secCells d).take (i * 2) := by rw [← h3, List.take_take, Nat.min_eq_left (by omega)]
    rw [e3]
    have e4 : secCells d = secCells (d.take i) ++ secCells (d.drop i) := by
      unfold secCells
      rw [← List.flatMap_append, List.take_append_drop]
    rw [e4]
    exact List.take_left' (by rw [secCells_len, e1])

theorem ListedAt.congr {w : World} {b : Nat} {p p' : List Sec} (h : ListedAt w b p) (he : ∀ s, s ∈ p ↔ s ∈ p') : ListedAt w b p' := by
  obtain ⟨D, h1, h2, h3⟩ := h
  refine ListedAt.tight h1 (fun s a b => ?_) (fun kl hk => ?_)
  · rw [h2 s a b]
    congr 3
    exact propext (he s)
  · obtain ⟨s, hs, e⟩ := h3 kl hk
    exact ⟨s, (he s).1 hs, e⟩
/-- What the function that unlist hands over finds: the file's number, the disk, the set of pending sectors. -/
structure Del (w : World) (p bl bfx bdx : Nat) (f : Int) (P : List Sec) : Prop where
  num : w.cell? ⟨bfx, 0, none⟩ = some (.int .i64 f)
  ptr : w.cell? ⟨bdx, 0, none⟩ = some (.pointer (some ⟨p, 0, none⟩))
  fld : w.cell? ⟨p, 3, none⟩ = some (.map (some bl))
  set : ListedAt w bl P
theorem Del.ne {w : World} {p bl bfx bdx : Nat} {f : Int} {P : List Sec} (h : Del w p bl bfx bdx f P) : bfx ≠ bl ∧ bdx ≠ bl ∧ p ≠ bl := by
  obtain ⟨es, c, e⟩ := h.set.isMap
  refine ⟨fun e1 => ?_, fun e1 => ?_, fun e1 => ?_⟩
  · have := h.num; rw [e1] at this; simp [World.cell?, e] at this
  · have := h.ptr; rw [e1] at this; simp [World.cell?, e] at this
  · have := h.fld; rw [e1] at this; simp [World.cell?, e] at this
theorem Del.kept {w w' : World} {p bl bfx bdx : Nat} {f : Int} {P P' : List Sec} (h : Del w p bl bfx bdx f P) {S : Nat → Prop} (hc : Chg S w w') (h1 : ¬ S bfx) (h2 : ¬ S bdx) (h3 : ¬ S p) (hs : ListedAt w' bl P') : Del w' p bl bfx bdx f P' :=
  ⟨cell_kept hc h.num h1, cell_kept hc h.ptr h2, cell_kept hc h.fld h3, hs⟩
theorem Del.alloc {w : World} {p bl bfx bdx : Nat} {f : Int} {P : List Sec} (h : Del w p bl bfx bdx f P) (o : Obj) : Del (w.alloc o) p bl bfx bdx f P := h.kept (S := fun _ => False) (Chg.alloc w o) (fun h => h) (fun h => h) (fun h => h) (h.set.alloc o)
theorem Del.drew {w : World} {p bl bfx bdx : Nat} {f : Int} {P : List Sec} (h : Del w p bl bfx bdx f P) : Del w.drew p bl bfx bdx f P := ⟨h.num, h.ptr, h.fld, h.set⟩
def delOf (f : Int) (P : List Sec) (s : Sec) : List Sec := if s.1 = f then P.filter (fun x => decide (x ≠ s)) else P
set_option maxHeartbeats 2000000 in
theorem closure_any {w : World} {p bl bfx bdx : Nat} {f : Int} {P : List Sec} (h : Del w p bl bfx bdx f P) (hin : InS P) (g : Int) (n : Nat) (hg : InI g) (hn : InI n) :
    Calls Tryd.prog 59 #[.agg #[.int .i64 g, .int .i64 n], .pointer (some ⟨bfx, 0, none⟩), .pointer (some ⟨bdx, 0, none⟩)] w fun e w' => e = .returned (.bool (decide (g = f))) ∧ Del w' p bl bfx bdx f (delOf f P (g, n)) ∧ Chg (fun b => b = bl) w w' := by
  have h1 := h.alloc (.cells #[.int .i64 g, .int .i64 n] 78)
  have n1 := h1.num
  have n2 := h1.ptr
  have n3 := h1.fld
  have k0 : (w.alloc (.cells #[.int .i64 g, .int .i64 n] 78)).cell? ⟨w.heap.size, 0, none⟩ = some (.int .i64 g) := by rw [Lib.cell_of_heap (heap_alloc_new w _)]; rfl
  have k1 : (w.alloc (.cells #[.int .i64 g, .int .i64 n] 78)).cell? ⟨w.heap.size, 1, none⟩ = some (.int .i64 n) := by rw [Lib.cell_of_heap (heap_alloc_new w _)]; rfl
  by_cases e : g = f
  · subst e
    obtain ⟨w', hrun, hL, hT⟩ := h1.drew.set.drop hg hn hin 0
    have FIN := Lib.hid (show Del w' p bl bfx bdx g (delOf g P (g, n)) ∧ Chg (fun b => b = bl) w w' from by
      have hC : Chg (fun b => b = bl) (w.alloc (.cells #[.int .i64 g, .int .i64 n] 78)).drew w' := Chg.of_turned hT (.inl rfl)
      obtain ⟨m1, m2, m3⟩ := h1.ne
      refine ⟨?_, ((Chg.alloc w _).drew).trans hC (fun i hi => .inl hi)⟩
      unfold delOf
      rw [if_pos rfl]
      exact h1.drew.kept hC m1 m2 m3 hL)
    have ed : decide (g = g) = true := by simp
    rw [ed]
    clear h h1 hL hT ed
    go_enter Tryd.func59, Tryd.ntmps59
    go_wp2
    go_region
    go_wp2
    go_ret
    exact ⟨rfl, FIN.out⟩
  · have ed : decide (g = f) = false := by simp [e]
    have FIN := Lib.hid (show Del (w.alloc (.cells #[.int .i64 g, .int .i64 n] 78)) p bl bfx bdx f (delOf f P (g, n)) ∧ Chg (fun b => b = bl) w (w.alloc (.cells #[.int .i64 g, .int .i64 n] 78)) from by
      unfold delOf
      rw [if_neg e]
      exact ⟨h1, Chg.alloc w _⟩)
    rw [ed]
    have e2 : ¬ g = f := e
    clear h h1 ed
    go_enter Tryd.func59, Tryd.ntmps59
    go_wp2
    go_ret
    exact ⟨rfl, FIN.out⟩
end Go.Proofs.YtdejajpmebgidaaDoor
