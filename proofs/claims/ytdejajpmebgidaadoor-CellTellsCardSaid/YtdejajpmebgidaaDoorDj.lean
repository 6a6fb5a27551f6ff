/-
  PACKAGE disk: New, Size, Arm, Read.
-/
import Derived.Test.YtdejajpmebgidaaDoorDi
namespace Go.Proofs.YtdejajpmebgidaaDoor
open Go.RowKit Go.Maps WireM DiskM
set_option linter.unusedVariables false
set_option linter.unusedSimpArgs false
set_option maxRecDepth 100000

/-- A disk that a call has made. -/
def Fresh (w : World) (p : Nat) (s : St) (w' : World) : Prop := ∃ q, DiskIs w' p s q ∧ (∀ b, Mine p q b → w.heap.size ≤ b) ∧ Below w.heap.size w w'
set_option maxHeartbeats 1000000 in
theorem new_any (w : World) : Calls Tryd.prog 7 #[] w fun e w' => ∃ p, e = .returned (.pointer (some ⟨p, 0, none⟩)) ∧ Fresh w p St.new w' := by
  have hmm := @run_makeMap Tryd.prog
  go_enter Tryd.func7, Tryd.ntmps7
  go_wp2
  go_ret
  refine ⟨_, rfl, ⟨w.heap.size, w.heap.size + 1, w.heap.size + 2, fun _ => nilS, fun _ => nilS, nilS, nilS⟩, ?_, ?_, ?_⟩
  · have a0 := FilesAt.made w
    have a1 := FilesAt.made (w.alloc (.map #[] 0))
    have a2 := ListedAt.made ((w.alloc (.map #[] 0)).alloc (.map #[] 0))
    have z1 : (w.alloc (.map #[] 0)).heap.size = w.heap.size + 1 := by simp
    have z2 : ((w.alloc (.map #[] 0)).alloc (.map #[] 0)).heap.size = w.heap.size + 2 := by simp
    rw [z1] at a1
    rw [z2] at a2
    refine ⟨⟨?_, ((a0.alloc _).alloc _).alloc _, (a1.alloc _).alloc _, fun f => nilRow _ _ _, fun f => nilRow _ _ _, nilRow _ _ _, a2.alloc _, nilRow _ _ _, ?_, ?_, ?_, fun f g k h => ?_, fun f g k h => ?_, fun f g k h => ?_⟩, inv_new⟩
    · have := heap_alloc_new (((w.alloc (.map #[] 0)).alloc (.map #[] 0)).alloc (.map #[] 0)) (.cells (dcells ⟨w.heap.size, w.heap.size + 1, w.heap.size + 2, fun _ => nilS, fun _ => nilS, nilS, nilS⟩ St.new) 55)
      simpa [dcells, St.new] using this
    · simp
    · exact Nat.ne_of_gt (Nat.lt_add_of_pos_right (by decide))
    · simp
    · simp [Value.ownBlock] at h
    · simp [Value.ownBlock] at h
    · simp [Value.ownBlock] at h
  · intro b hb
    rcases hb with rfl | rfl | rfl | rfl | hb | hb | ⟨f, hb⟩ | ⟨f, hb⟩
    · first | omega | (simp; omega)
    · exact Nat.le_refl _
    · exact Nat.le_add_right _ 1
    · exact Nat.le_add_right _ 2
    all_goals simp [Value.ownBlock] at hb
  · exact ((((Below.refl _ w).alloc (Nat.le_refl _) _).alloc (by simp) _).alloc (by simp; omega) _).alloc (by simp; omega) _
theorem row_form {w : World} {base : Nat} {e : TypeId} {size n : Nat} {v : Value} {xs : List Value} (h : w.ownsRow base e size v n xs) : ∃ ad c, v = .slice ad n c := by
  rcases h.2 with ⟨rfl, h0⟩ | ⟨g, cap, cur, rfl, _⟩
  · exact ⟨none, 0, by rw [h0]⟩
  · exact ⟨_, cap, rfl⟩
theorem size_any {w : World} {p : Nat} {s : St} {q : Parts} (h : DiskIs w p s q) (f : Int) (hf : InI f) : Calls Tryd.prog 24 #[.pointer (some ⟨p, 0, none⟩), .int .i64 f] w fun e w' => e = .returned (.int .i64 (s.size f)) ∧ w = w' := by
  have c0 := h.c0
  have hl := h.files.look hf
  obtain ⟨ad, c, hv⟩ := row_form (h.now f)
  rw [hv] at hl
  unfold St.size
  clear h
  go_enter Tryd.func24, Tryd.ntmps24
  go_wp2
  go_ret
  exact ⟨rfl, rfl⟩
/-- A slice of ints that a call is handed: it lies in no block of the disk but its own list of what is kept. -/
def KeepAt (w : World) (p : Nat) (q : Parts) (v : Value) (l : List Int) : Prop :=
  SrcAt w v l.length (intCells l) ∧ ∀ b, v.ownBlock = some b → l ≠ [] → Mine p q b → q.vk.ownBlock = some b
theorem IntRow.nil (w : World) : IntRow w nilS [] := nilRow _ _ _
theorem ge_of_base {w : World} {base : Nat} {e : TypeId} {size n : Nat} {v : Value} {xs : List Value} (h : w.ownsRow base e size v n xs) {k : Nat} (hk : v.ownBlock = some k) : base ≤ k := (h.lt k hk).1
/-- The list of what is kept is laid anew. -/
theorem Dk0.setVk {w : World} {p : Nat} {s : St} {q : Parts} (h : Dk0 w p s q) (l : List Int) (v : Value) (hv : IntRow w v l) : Dk0 (w.setCell ⟨p, 7, none⟩ v) p { s with keep := l } { q with vk := v } :=
  h.turn { s with keep := l } { q with vk := v } 7 v rfl h.files h.dur h.now h.last h.pend h.list hv h.ne h.nlf h.nld h.ap h.aq h.apq
theorem mine_vk {p : Nat} {q : Parts} {v : Value} {b : Nat} (h : Mine p { q with vk := v } b) : Mine p q b ∨ v.ownBlock = some b := by
  rcases h with h | h | h | h | h | h | h | h
  · exact .inl (.inl h)
  · exact .inl (.inr (.inl h))
  · exact .inl (.inr (.inr (.inl h)))
  · exact .inl (.inr (.inr (.inr (.inl h))))
  · exact .inl (.inr (.inr (.inr (.inr (.inl h)))))
  · exact .inr h
  · exact .inl (.inr (.inr (.inr (.inr (.inr (.inr (.inl h)))))))
  · exact .inl (.inr (.inr (.inr (.inr (.inr (.inr (.inr h)))))))
set_option maxHeartbeats 1000000 in
/-- Arm, at a disk whose state need not keep the rules. -/
theorem arm0 {w : World} {p : Nat} {s : St} {q : Parts} (h : Dk0 w p s q) (n : Int) (v : Value) (l : List Int) (hv : SrcAt w v l.length (intCells l)) (hp : l ≠ [] → v.ownBlock ≠ some p) (hl : l.length ≤ 1099511627776) :
    Calls Tryd.prog 15 #[.pointer (some ⟨p, 0, none⟩), .int .i64 n, v] w fun e w' => e = .returned (.tuple #[]) ∧ ∃ q', Dk0 w' p (s.arm n l) q' ∧ (∀ b, Mine p q' b → Mine p q b ∨ w.heap.size ≤ b) ∧ Chg (Mine p q) w w' := by
  have c6 := h.c6
  have f6 := h.fz 6
  have KEY := Lib.hid (show ∀ (m : Int), m = ((n.toNat : Nat) : Int) → (w.setCell ⟨p, 6, none⟩ (.int .i64 m)).frozen? ⟨p, 7, none⟩ = false ∧ (∃ x, (w.setCell ⟨p, 6, none⟩ (.int .i64 m)).cell? ⟨p, 7, none⟩ = some x) ∧ SrcAt (w.setCell ⟨p, 6, none⟩ (.int .i64 m)) v l.length (intCells l) ∧
      ∀ v' w2, w2.ownsRow (w.setCell ⟨p, 6, none⟩ (.int .i64 m)).heap.size 3 1 v' l.length (intCells l) → Below (w.setCell ⟨p, 6, none⟩ (.int .i64 m)).heap.size (w.setCell ⟨p, 6, none⟩ (.int .i64 m)) w2 →
        w2.frozen? ⟨p, 7, none⟩ = false ∧ (∃ x, w2.cell? ⟨p, 7, none⟩ = some x) ∧ ∃ q', Dk0 (w2.setCell ⟨p, 7, none⟩ v') p (s.arm n l) q' ∧ (∀ b, Mine p q' b → Mine p q b ∨ w.heap.size ≤ b) ∧ Chg (Mine p q) w (w2.setCell ⟨p, 7, none⟩ v') from fun m hm => by
    have h1 := h.field0 { s with armed := n.toNat } 6 (.int .i64 m) (by rw [hm]; rfl) rfl rfl rfl rfl
    refine ⟨h1.fz 7, ⟨_, h1.c7⟩, ?_, fun v' w2 hr hb => ?_⟩
    · rcases hv with hv | ⟨b, off, c, rfl, hc⟩
      · exact .inl hv
      · refine .inr ⟨b, off, c, rfl, fun j u hj => ?_⟩
        have hne : b ≠ p := fun e => hp (fun e2 => by rw [e2] at hj; simp [intCells] at hj) (by rw [e]; rfl)
        rw [← hc j u hj]
        exact World.cell?_of_block (Below.heap_setCell _ _ _ _ hne)
    · have h2 := h1.below hb
      have hsz : (w.setCell ⟨p, 6, none⟩ (.int .i64 m)).heap.size = w.heap.size := by simp [World.setCell]
      refine ⟨h2.fz 7, ⟨_, h2.c7⟩, { q with vk := v' }, h2.setVk l v' (row_base hr), fun b hb => ?_, ?_⟩
      · rcases mine_vk hb with hb | hb
        · exact .inl hb
        · exact .inr (by have := ge_of_base hr hb; omega)
      · exact ((Chg.set w 6 _ (.inl (.inl rfl))).trans (Chg.of_below (S := Mine p q) hb) (fun i hi => .inl hi)).trans (Chg.set (S := Mine p q) w2 7 v' (.inl (.inl rfl))) (fun i hi => .inl hi))
  have hone := Lib.hid (intCells_one l)
  have hlen := Lib.hid (intCells_len l)
  have hL := Lib.hid hl
  clear hv h hp hl
  go_enter Tryd.func15, Tryd.ntmps15
  obtain ⟨k1, ⟨x, k2⟩, k3, k4⟩ := KEY.out (if n < 0 then 0 else n) (by split <;> omega)
  have K4 := Lib.hid k4
  have K3 := Lib.hid (cloneI_any k3 (by rw [hlen.out]; omega) hL.out hone.out)
  clear k3 k4
  go_wp2_with (go_at_call 36; refine K3.out.mono ?_; rintro e w2 ⟨v', rfl, hr, hb⟩; obtain ⟨ad, cc, rfl⟩ := row_form hr; obtain ⟨r1, ⟨x2, r2⟩, R⟩ := K4.out _ w2 hr hb; have R0 := Lib.hid R; clear R hr hb K4 K3)
  all_goals (go_end0; exact ⟨rfl, R0.out⟩)
theorem arm_any {w : World} {p : Nat} {s : St} {q : Parts} (h : DiskIs w p s q) (n : Int) (hn : n ≤ 9223372036854775807) (v : Value) (l : List Int) (hv : SrcAt w v l.length (intCells l)) (hp : l ≠ [] → v.ownBlock ≠ some p) (hl : l.length ≤ 1099511627776) :
    Calls Tryd.prog 15 #[.pointer (some ⟨p, 0, none⟩), .int .i64 n, v] w fun e w' => e = .returned (.tuple #[]) ∧ Turn w p q (s.arm n l) w' := by
  refine (arm0 h.toDk0 n v l hv hp hl).mono ?_
  rintro e w' ⟨rfl, q', h1, h2, h3⟩
  exact ⟨rfl, q', ⟨h1, inv_arm h.inv hn l⟩, h2, h3⟩

theorem bytes_convert {w : World} {a : Option Addr} {c : Nat} (M : List UInt8) (hM : M = [] ∨ ∃ ad, a = some ad ∧ ∀ j u, M[j]? = some u → w.cell? (ad.add j) = some (.int .u8 u.toNat)) : (convert 70 9 (.slice a M.length c)).run Tryd.prog w = .ok (.string (bs M)) w := by
  cases a with
  | none =>
    rcases hM with rfl | ⟨ad, h, _⟩
    · exact run_convert_bytes_nil (P := Tryd.prog) (w := w) 70 5 Tryd.underlying70 Tryd.underlying5 0 c 9 Tryd.underlying9
    · cases h
  | some ad =>
    refine run_convert_bytes_back (P := Tryd.prog) w 70 9 5 ad c M Tryd.underlying70 Tryd.underlying5 Tryd.underlying9 ?_
    intro j hj
    rcases hM with rfl | ⟨ad', h, h2⟩
    · simp at hj
    · cases h
      exact h2 j _ (by rw [List.getElem?_eq_getElem hj])
/-- A slice of bytes that is only read: an address with the bytes behind it, or nothing to read. -/
def RdAt (w : World) (v : Value) (M : List UInt8) : Prop := ∃ a c, v = .slice a M.length c ∧ M.length ≤ c ∧ (M = [] ∨ ∃ b o, a = some ⟨b, o, none⟩ ∧ ∀ j u, M[j]? = some u → w.cell? ⟨b, o + j, none⟩ = some (.int .u8 u.toNat))
theorem rdAt_row {w : World} {v : Value} {L : List UInt8} (h : ByteRow w v L) : RdAt w v L := by
  rcases h.2 with ⟨rfl, h0⟩ | ⟨g, cap, cur, rfl, hb, hg, hnc, hcm, hcs, htake⟩
  · have : L = [] := List.eq_nil_of_length_eq_zero h0
    subst this
    exact ⟨none, 0, rfl, Nat.le_refl _, .inl rfl⟩
  · exact ⟨_, cap, rfl, hnc, .inr ⟨g, 0, rfl, fun j u hj => by rw [← Addr.add_lit]; exact h.cells (g := g) rfl j _ (by simp [Lib.byteCells, hj])⟩⟩
theorem elemB : Tryd.prog.elem 70 = 5 := by kernel_rfl
theorem sizeB (w : World) : (sizeOf 5).run Tryd.prog w = .ok 1 w := by kernel_rfl
theorem undB : Tryd.prog.underlying 70 = some (.slice (Tryd.prog.elem 70)) := by rw [elemB]; exact Tryd.underlying70
theorem rd_from {w : World} {v : Value} {M : List UInt8} (h : RdAt w v M) (x : Nat) (hx : x ≤ M.length) : ∃ v', (Instr.slice 70 v (some (.int .i64 x)) none none).run Tryd.prog w = .ok v' w ∧ RdAt w v' (M.drop x) := by
  obtain ⟨a, c, rfl, hc, hM⟩ := h
  refine ⟨_, by rw [run_slice_l (P := Tryd.prog) w 70 a M.length c undB .i64 x (by omega) (by omega), elemB, sizeB]; rfl, ?_⟩
  refine ⟨_, _, by rw [List.length_drop]; rfl, by simp only [List.length_drop, Int.toNat_natCast]; omega, ?_⟩
  rcases hM with rfl | ⟨b, o, rfl, hcell⟩
  · exact .inl (by simp)
  · by_cases e : c = x
    · refine .inl (List.drop_of_length_le (by omega))
    · refine .inr ⟨b, o + x, by rw [Int.toNat_natCast, if_neg e]; simp [Addr.add_lit], fun j u hj => ?_⟩
      rw [List.getElem?_drop] at hj
      have := hcell (x + j) u hj
      rwa [Nat.add_assoc]
theorem rd_to {w : World} {v : Value} {M : List UInt8} (h : RdAt w v M) (y : Nat) (hy : y ≤ M.length) : ∃ v', (Instr.slice 70 v none (some (.int .i64 y)) none).run Tryd.prog w = .ok v' w ∧ RdAt w v' (M.take y) := by
  obtain ⟨a, c, rfl, hc, hM⟩ := h
  refine ⟨_, by rw [run_slice_h (P := Tryd.prog) w 70 a M.length c undB .i64 y (by omega) (by omega), elemB, sizeB]; rfl, ?_⟩
  have hl : (M.take y).length = y := by rw [List.length_take]; omega
  refine ⟨if c = 0 then a else a.map (·.add (0 * 1)), c - 0, by rw [hl]; rfl, by rw [hl]; omega, ?_⟩
  rcases hM with rfl | ⟨b, o, rfl, hcell⟩
  · exact .inl (by simp)
  · refine .inr ⟨b, o, by split <;> simp [Addr.add_lit], fun j u hj => ?_⟩
    rw [List.getElem?_take] at hj
    split at hj
    · exact hcell j u hj
    · cases hj
theorem rd_string {w : World} {v : Value} {M : List UInt8} (h : RdAt w v M) : (convert 70 9 v).run Tryd.prog w = .ok (.string (bs M)) w := by
  obtain ⟨a, c, rfl, hc, hM⟩ := h
  exact bytes_convert M (hM.imp id (fun ⟨b, o, e, h⟩ => ⟨_, e, fun j u hj => by rw [Addr.add_lit]; exact h j u hj⟩))
set_option maxHeartbeats 2000000 in
theorem read_any {w : World} {p : Nat} {s : St} {q : Parts} (h : DiskIs w p s q) (f a n : Int) (hf : InI f) (ha : InI a) (hn : InI n) :
    Calls Tryd.prog 25 #[.pointer (some ⟨p, 0, none⟩), .int .i64 f, .int .i64 a, .int .i64 n] w fun e w' => e = .returned (.tuple #[.string (bs (s.read f a n).1), .int .i64 (s.read f a n).2]) ∧ w = w' := by
  have c0 := h.c0
  have c4 := h.c4
  have hnew : ∀ r, s.read f a n = r → bs r.1 = bs (s.read f a n).1 := fun r hr => by rw [hr]
  by_cases hd : s.down = true
  · have R : s.read f a n = ([], 9) := by unfold St.read; rw [if_pos hd]
    rw [R]
    rw [hd] at c4
    clear R hnew h
    go_enter Tryd.func25, Tryd.ntmps25
    go_wp2
    go_ret2
    exact ⟨rfl, rfl⟩
  have hd0 : s.down = false := by simpa using hd
  rw [hd0] at c4
  by_cases hi : isF f
  · have hdec : decide (isF f) = true := by simp [hi]
    by_cases h0 : a < 0
    · have R : s.read f a n = ([], 1) := by unfold St.read; rw [if_neg hd, if_pos (.inr (.inl h0))]
      rw [R]
      clear R hnew h hd hi
      go_enter Tryd.func25, Tryd.ntmps25
      go_wp2_with (go_at_call 40; refine (isFile_any f _).mono ?_; rintro e w' ⟨rfl, rfl⟩; rw [hdec])
      go_ret2
      exact ⟨rfl, rfl⟩
    by_cases h1 : n < 0
    · have R : s.read f a n = ([], 1) := by unfold St.read; rw [if_neg hd, if_pos (.inr (.inr h1))]
      rw [R]
      clear R hnew h hd hi
      go_enter Tryd.func25, Tryd.ntmps25
      go_wp2_with (go_at_call 40; refine (isFile_any f _).mono ?_; rintro e w' ⟨rfl, rfl⟩; rw [hdec])
      go_ret2
      exact ⟨rfl, rfl⟩
    have R : s.read f a n = (((s.now f).drop a.toNat).take n.toNat, 0) := by unfold St.read; rw [if_neg hd, if_neg (fun h => h.elim (fun h => h hi) (fun h => h.elim h0 h1))]
    rw [R]
    have hl := h.files.look hf
    have hrow := h.now f
    clear R hnew h hd hi
    generalize s.now f = L at hrow ⊢
    obtain ⟨x, rfl⟩ : ∃ x : Nat, a = x := ⟨a.toNat, by omega⟩
    obtain ⟨y, rfl⟩ : ∃ y : Nat, n = y := ⟨n.toNat, by omega⟩
    rw [Int.toNat_natCast, Int.toNat_natCast]
    obtain ⟨v1, r1, h1⟩ := rd_from (rdAt_row hrow) (min x L.length) (by omega)
    obtain ⟨v2, r2, h2⟩ := rd_to h1 (min y (L.drop (min x L.length)).length) (by omega)
    have r3 := rd_string h2
    have e : (L.drop (min x L.length)).take (min y (L.drop (min x L.length)).length) = (L.drop x).take y := by
      have e1 : L.drop (min x L.length) = L.drop x := by
        rcases Nat.le_total x L.length with hx | hx
        · rw [Nat.min_eq_left hx]
        · rw [Nat.min_eq_right hx, List.drop_of_length_le (Nat.le_refl _), List.drop_of_length_le hx]
      rw [e1]
      rcases Nat.le_total y (L.drop x).length with hy | hy
      · rw [Nat.min_eq_left hy]
      · rw [Nat.min_eq_right hy, List.take_of_length_le (Nat.le_refl _), List.take_of_length_le hy]
    rw [e] at r3
    generalize (L.drop x).take y = OUT at r3 ⊢
    obtain ⟨ad, c, hv, hc, hz1⟩ := rdAt_row hrow
    obtain ⟨ad1, c1, hv1, hc1, hz2⟩ := h1
    obtain ⟨ad2, c2, hv2, hc2, hz3⟩ := h2
    clear hz1 hz2 hz3
    rw [hv] at hl r1
    rw [hv1] at r1 r2
    rw [hv2] at r2 r3
    clear hv hv1 hv2 hrow e
    have m1 : (if (L.length : Int) < (x : Int) then (L.length : Int) else (x : Int)) = ((min x L.length : Nat) : Int) := by split <;> omega
    have m2 : (if ((L.drop (min x L.length)).length : Int) < (y : Int) then ((L.drop (min x L.length)).length : Int) else (y : Int)) = ((min y (L.drop (min x L.length)).length : Nat) : Int) := by split <;> omega
    have m3 : (if L.length < x then (L.length : Int) else (x : Int)) = ((min x L.length : Nat) : Int) := by split <;> omega
    have m4 : (if (L.drop (min x L.length)).length < y then ((L.drop (min x L.length)).length : Int) else (y : Int)) = ((min y (L.drop (min x L.length)).length : Nat) : Int) := by split <;> omega
    generalize hK2 : ((L.drop (min x L.length)).take (min y (L.drop (min x L.length)).length)).length = K2 at *
    generalize hM2 : min y (L.drop (min x L.length)).length = M2 at *
    generalize hK : (L.drop (min x L.length)).length = K at *
    generalize hM : min x L.length = M at *
    have z1 : ¬ (x : Int) < 0 := by omega
    have z2 : ¬ (y : Int) < 0 := by omega
    clear hK2 hM2 hK hM hc hc1 hc2 h0 h1
    go_enter Tryd.func25, Tryd.ntmps25
    go_wp2_with (go_at_call 40; refine (isFile_any f _).mono ?_; rintro e w' ⟨rfl, rfl⟩; rw [hdec])
    go_ret2
    exact ⟨rfl, rfl⟩
  · have hdec : decide (isF f) = false := by simp [hi]
    have R : s.read f a n = ([], 1) := by unfold St.read; rw [if_neg hd, if_pos (.inl hi)]
    rw [R]
    clear R hnew h hd hi
    go_enter Tryd.func25, Tryd.ntmps25
    go_wp2_with (go_at_call 40; refine (isFile_any f _).mono ?_; rintro e w' ⟨rfl, rfl⟩; rw [hdec])
    go_ret2
    exact ⟨rfl, rfl⟩
end Go.Proofs.YtdejajpmebgidaaDoor
