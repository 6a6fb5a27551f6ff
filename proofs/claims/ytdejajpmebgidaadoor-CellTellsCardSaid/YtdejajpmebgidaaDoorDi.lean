/-
  PACKAGE disk: slices.Clone at its three types; New, Size, Read, Arm, put.
-/
import Derived.Test.YtdejajpmebgidaaDoorDh
import Derived.Lib.AppendZerosOnto
import Derived.Lib.BufferWrite
import Derived.OwnWalk
import Derived.Deep.RegionLaw
import Derived.Deep.AppendLies
namespace Go.Proofs.YtdejajpmebgidaaDoor
open Go.RowKit Go.Maps WireM DiskM
set_option linter.unusedVariables false
set_option linter.unusedSimpArgs false
set_option maxRecDepth 100000

theorem infoB : (Tryd.prog.info? 5).map (fun i => (i.zero, i.size, i.bytes)) = some (some (.int .u8 0), 1, 1) := by kernel_rfl
theorem infoI : (Tryd.prog.info? 3).map (fun i => (i.zero, i.size, i.bytes)) = some (some (.int .i64 0), 1, 8) := by kernel_rfl
theorem infoS : (Tryd.prog.info? 78).map (fun i => (i.zero, i.size, i.bytes)) = some (some (.agg #[.int .i64 0, .int .i64 0]), 2, 16) := by kernel_rfl

/-- A slice that reads as cells: no element, or an address with the cells behind it. -/
def SrcAt (w : World) (v : Value) (n : Nat) (xs : List Value) : Prop :=
  ((∃ a c, v = .slice a 0 c) ∧ n = 0 ∧ xs = []) ∨ ∃ b off c, v = .slice (some ⟨b, off, none⟩) n c ∧ ∀ j u, xs[j]? = some u → w.cell? ⟨b, off + j, none⟩ = some u
theorem srcAt_row {w : World} {base : Nat} {e : TypeId} {size n : Nat} {v : Value} {xs : List Value} (h : w.ownsRow base e size v n xs) : SrcAt w v n xs := by
  rcases h.2 with ⟨rfl, rfl⟩ | ⟨g, cap, cur, rfl, hb, hg, hnc, hcm, hcs, htake⟩
  · exact .inl ⟨⟨none, 0, rfl⟩, rfl, List.eq_nil_of_length_eq_zero (by simpa using h.1)⟩
  · refine .inr ⟨g, 0, cap, rfl, fun j u hj => ?_⟩
    have h2 := h.cells (g := g) rfl j u hj
    have hadd : (⟨g, 0, none⟩ : Addr).add j = ⟨g, 0 + j, none⟩ := by unfold Addr.add; split <;> simp_all
    rw [← hadd]; exact h2
theorem row_base {w : World} {base : Nat} {e : TypeId} {size n : Nat} {v : Value} {xs : List Value} (h : w.ownsRow base e size v n xs) : w.ownsRow 0 e size v n xs := by
  refine ⟨h.1, ?_⟩
  rcases h.2 with h2 | ⟨g, cap, cur, hv, hb, r⟩
  · exact .inl h2
  · exact .inr ⟨g, cap, cur, hv, Nat.zero_le _, r⟩
theorem intCells_one (l : List Int) : ∀ u ∈ intCells l, u.oneCell' = true := by
  intro u hu
  simp only [intCells, List.mem_map] at hu
  obtain ⟨b, _, rfl⟩ := hu
  rfl
theorem secCells_one (p : List Sec) : ∀ u ∈ secCells p, u.oneCell' = true := by
  intro u hu
  simp only [secCells, List.mem_flatMap, List.mem_cons, List.not_mem_nil, or_false] at hu
  obtain ⟨b, _, rfl | rfl⟩ := hu <;> rfl

set_option maxHeartbeats 1000000 in
theorem cloneB_any {w : World} {v : Value} {n : Nat} {xs : List Value} (h : SrcAt w v n xs) (hl : xs.length = n * 1) (hn : n ≤ 1099511627776) (h1 : ∀ u ∈ xs, u.oneCell' = true) :
    Calls Tryd.prog 56 #[v] w fun e w' => ∃ v', e = .returned v' ∧ w'.ownsRow w.heap.size 5 1 v' n xs ∧ Below w.heap.size w w' := by
  have q22 : ∀ (w : World) (a : Option Addr) (n c n' c' : Nat), (binOp .eql 70 (.slice a n c) (.slice none n' c')).run Tryd.prog w = .ok (.bool a.isNone) w := fun w a n c n' c' => Lib.run_eql_slice_nil w _ _ a n c n' c' Tryd.underlying70
  have main : ∀ (ad : Addr) (c : Nat), v = .slice (some ad) n c → (∀ j u, xs[j]? = some u → w.cell? (ad.add j) = some u) → Calls Tryd.prog 56 #[v] w fun e w' => ∃ v', e = .returned v' ∧ w'.ownsRow w.heap.size 5 1 v' n xs ∧ Below w.heap.size w w' := by
    rintro ad c rfl hc
    obtain ⟨i0, hi, hz0, hz1, hz2⟩ := info_parts infoB
    have A := Lib.hid hc
    clear hc h
    go_enter Tryd.func56, Tryd.ntmps56
    go_wp2_with (at_builtin; refine wpList_append_own _ rfl _ _ 70 rfl w.heap.size 5 i0 (.int .u8 0) 1 1 Tryd.underlying70 hi hz0 hz1 hz2 rfl (by decide) _ _ _ rfl (World.ownsRow_made w #[] 0 (Nat.le_refl _) (Nat.zero_le _) (by simp)) ad n c xs rfl ?qc1 ?qc2 ?qc3 ?qc4 ?qc5 ?qc6 ?_)
    case qc1 => exact hl
    case qc2 =>
      intro j u hj
      exact Lib.cell?_alloc_some _ (A.out j u hj)
    case qc3 => exact h1
    case qc4 => unfold maxLen; omega
    case qc5 => omega
    case qc6 => simp
    intro v' w1 hown hgrow hnil
    go_wp2
    go_ret
    exact ⟨v', rfl, by simpa using hown, ((Below.refl _ w).alloc (Nat.le_refl _) _).grown hgrow (by simp) (by intro k hk; simp [Value.ownBlock] at hk; omega)⟩
  rcases h with ⟨⟨a, c, rfl⟩, rfl, rfl⟩ | ⟨b, off, c, hv, hc⟩
  · cases a with
    | none =>
      clear main
      go_enter Tryd.func56, Tryd.ntmps56
      go_wp2
      go_ret
      exact ⟨_, rfl, World.ownsRow_nil w _ _ _, Below.refl _ _⟩
    | some ad => exact main ad c rfl (fun j u hj => by simp at hj)
  · exact main _ c hv (fun j u hj => by rw [Addr.add_lit]; exact hc j u hj)

set_option maxHeartbeats 1000000 in
theorem cloneI_any {w : World} {v : Value} {n : Nat} {xs : List Value} (h : SrcAt w v n xs) (hl : xs.length = n * 1) (hn : n ≤ 1099511627776) (h1 : ∀ u ∈ xs, u.oneCell' = true) :
    Calls Tryd.prog 36 #[v] w fun e w' => ∃ v', e = .returned v' ∧ w'.ownsRow w.heap.size 3 1 v' n xs ∧ Below w.heap.size w w' := by
  have q22 : ∀ (w : World) (a : Option Addr) (n c n' c' : Nat), (binOp .eql 36 (.slice a n c) (.slice none n' c')).run Tryd.prog w = .ok (.bool a.isNone) w := fun w a n c n' c' => Lib.run_eql_slice_nil w _ _ a n c n' c' Tryd.underlying36
  have main : ∀ (ad : Addr) (c : Nat), v = .slice (some ad) n c → (∀ j u, xs[j]? = some u → w.cell? (ad.add j) = some u) → Calls Tryd.prog 36 #[v] w fun e w' => ∃ v', e = .returned v' ∧ w'.ownsRow w.heap.size 3 1 v' n xs ∧ Below w.heap.size w w' := by
    rintro ad c rfl hc
    obtain ⟨i0, hi, hz0, hz1, hz2⟩ := info_parts infoI
    have A := Lib.hid hc
    clear hc h
    go_enter Tryd.func36, Tryd.ntmps36
    go_wp2_with (at_builtin; refine wpList_append_own _ rfl _ _ 36 rfl w.heap.size 3 i0 (.int .i64 0) 1 8 Tryd.underlying36 hi hz0 hz1 hz2 rfl (by decide) _ _ _ rfl (World.ownsRow_made w #[] 0 (Nat.le_refl _) (Nat.zero_le _) (by simp)) ad n c xs rfl ?qc1 ?qc2 ?qc3 ?qc4 ?qc5 ?qc6 ?_)
    case qc1 => exact hl
    case qc2 =>
      intro j u hj
      exact Lib.cell?_alloc_some _ (A.out j u hj)
    case qc3 => exact h1
    case qc4 => unfold maxLen; omega
    case qc5 => omega
    case qc6 => simp
    intro v' w1 hown hgrow hnil
    go_wp2
    go_ret
    exact ⟨v', rfl, by simpa using hown, ((Below.refl _ w).alloc (Nat.le_refl _) _).grown hgrow (by simp) (by intro k hk; simp [Value.ownBlock] at hk; omega)⟩
  rcases h with ⟨⟨a, c, rfl⟩, rfl, rfl⟩ | ⟨b, off, c, hv, hc⟩
  · cases a with
    | none =>
      clear main
      go_enter Tryd.func36, Tryd.ntmps36
      go_wp2
      go_ret
      exact ⟨_, rfl, World.ownsRow_nil w _ _ _, Below.refl _ _⟩
    | some ad => exact main ad c rfl (fun j u hj => by simp at hj)
  · exact main _ c hv (fun j u hj => by rw [Addr.add_lit]; exact hc j u hj)

theorem byteCells_append (l m : List UInt8) : Lib.byteCells (l ++ m) = Lib.byteCells l ++ Lib.byteCells m := by simp [Lib.byteCells]
theorem byteCells_zeros (k : Nat) : Lib.byteCells (List.replicate k 0) = List.replicate k (.int .u8 0) := by simp [Lib.byteCells]
theorem zeroCells_one (k : Nat) : (Builtin.zeroCells #[.int .u8 0] k).toList = List.replicate k (.int .u8 0) := by
  unfold Builtin.zeroCells
  apply List.ext_getElem?
  intro i
  simp [List.getElem?_replicate]
  by_cases h : i < k
  · simp [h, Nat.mod_one]
  · simp [h]
theorem append_zeros {w : World} {v : Value} {L : List UInt8} (h : ByteRow w v L) (k : Nat) (hk : 0 < k) (hlen : L.length + k ≤ 1099511627776) (ty : TypeId) :
    ∃ g cap w', (Builtin.append_ #[ 70, 3 ] ty #[v, .int .i64 k]).run Tryd.prog w = .ok (.slice (some ⟨g, 0, none⟩) (L.length + k) cap) w' ∧ ByteRow w' (.slice (some ⟨g, 0, none⟩) (L.length + k) cap) (L ++ List.replicate k 0) ∧ w.grownBy w' v.ownBlock ∧
      (v.ownBlock = some g ∨ g = w.heap.size) := by
  obtain ⟨i0, hi, hz0, hz1, hz2⟩ := info_parts infoB
  have hlen2 : (L ++ List.replicate k 0).length = L.length + k := by simp
  have grown : ∀ (old : Nat), old < L.length + k →
      ByteRow (w.drew.alloc (.cells ((Lib.byteCells L).toArray ++ Builtin.zeroCells #[.int .u8 0] k ++ Builtin.zeroCells #[.int .u8 0] (grownCap w (L.length + k) old 5 - (L.length + k))) 5)) (.slice (some ⟨w.heap.size, 0, none⟩) (L.length + k) (grownCap w (L.length + k) old 5)) (L ++ List.replicate k 0) := by
    intro old ho
    have hge := grownCap_ge w (L.length + k) old 5
    have hcm := grownCap_le_maxLen w (L.length + k) old 5 (by unfold maxLen; omega)
    unfold ByteRow
    rw [hlen2]
    refine ⟨by rw [Lib.byteCells_length]; simp, .inr ⟨w.heap.size, _, _, rfl, Nat.zero_le _, heap_alloc_new w.drew _, hge, hcm, ?_, ?_⟩⟩
    · simp [size_zeroCells, Lib.byteCells_length]; omega
    · simp only [Array.toList_append, zeroCells_one, byteCells_append, byteCells_zeros]
      rw [Nat.mul_one]
      exact List.take_left' (by simp [Lib.byteCells_length])
  rcases h.2 with ⟨rfl, h0⟩ | ⟨g, cap, cur, rfl, hb, hg, hnc, hcm, hcs, htake⟩
  · have hL : L = [] := List.eq_nil_of_length_eq_zero h0
    subst hL
    have hr := Lib.run_append_nil_zeros (P := Tryd.prog) w 70 3 ty 5 i0 (.int .u8 0) .i64 .i64 Tryd.underlying70 Tryd.underlying3 hi hz0 k hk (by omega) (by simp at hlen; omega) (by rw [hz2]; simp at hlen; omega)
    have hgr := grown 0 (by simp; exact hk)
    simp only [List.length_nil, Nat.zero_add] at hgr hr ⊢
    exact ⟨_, _, _, hr, by simpa [Lib.byteCells, Value.cells] using hgr, ⟨rfl, rfl, rfl, by simp, fun j hj _ => Below.heap_alloc w.drew _ j hj⟩, .inr rfl⟩
  · by_cases hroom : L.length + k ≤ cap
    · have hst := run_storeCells_at Tryd.prog g L.length 5 (List.replicate k (.int .u8 0)) 0 cur w hg (by simp; omega) (fun u hu => by rw [List.eq_of_mem_replicate hu]; rfl)
      simp only [Nat.add_zero, List.length_replicate] at hst
      have hw : IntKind.i64.wrap (k : Int) = k := by rw [IntKind.wrap_i64]; omega
      have hk0 : k ≠ 0 := by omega
      have hneg : ¬ ((k : Int) < 0) := by omega
      have h48 : ¬ (281474976710656 < (k : Int)) := by omega
      refine ⟨g, cap, w.setRow g (cur.toList.take L.length ++ List.replicate k (Value.int .u8 0) ++ cur.toList.drop (L.length + k)).toArray, ?_, ?_, ⟨rfl, rfl, rfl, by simp, fun j _ hj => setRow_other w g j _ (fun e => hj (by simp [Value.ownBlock, e]))⟩, .inl rfl⟩
      · simp [Builtin.append_, run_underlying Tryd.underlying70, run_underlying Tryd.underlying3, sizeOf, typeInfo, zeroValue, hi, hz0, hz1, hz2, asInt, asIntOf, hw, hneg, hk0, h48, hroom, Value.cells, zeroCells_one, Addr.add_lit, hst]
      · unfold ByteRow
        rw [hlen2]
        refine ⟨by rw [Lib.byteCells_length]; simp, .inr ⟨g, cap, _, rfl, Nat.zero_le _, setRow_heap w g cur _ 5 _ hg, hroom, hcm, ?_, ?_⟩⟩
        · simp; omega
        · rw [Nat.mul_one] at htake
          rw [htake, byteCells_append, byteCells_zeros, Nat.mul_one]
          exact List.take_left' (by simp [Lib.byteCells_length])
    · have hold := run_firstCells_some (P := Tryd.prog) w.drew i0.size L.length ⟨g, 0, none⟩ L.length cap (Lib.byteCells L) (by rw [hz1, Lib.byteCells_length]; omega) (fun j u hj => h.cells (g := g) rfl j u hj)
      have hr := Lib.run_append_grow_zeros (P := Tryd.prog) w 70 3 ty 5 i0 (.int .u8 0) .i64 .i64 Tryd.underlying70 Tryd.underlying3 hi hz0 (some ⟨g, 0, none⟩) L.length cap (Lib.byteCells L) hold k hk (by omega) (by omega) (by omega) (by rw [hz2]; omega) (growslice_fits (by omega) (by rw [hz2]; omega))
      exact ⟨_, _, _, hr, grown cap (by omega), ⟨rfl, rfl, rfl, by simp, fun j hj _ => Below.heap_alloc w.drew _ j hj⟩, .inr rfl⟩

/-- What put leaves. -/
def PutOut (w : World) (v : Value) (L : List UInt8) (e : Ending) (w' : World) : Prop :=
  ∃ v', e = .returned v' ∧ ByteRow w' v' L ∧ w.grownBy w' v.ownBlock ∧ (v'.ownBlock = v.ownBlock ∨ v'.ownBlock = some w.heap.size)
/-- copy(b[a:], t) behind the growth. -/
theorem put_copy {w : World} {g cap a : Nat} {L : List UInt8} {t : ByteArray} (h : ByteRow w (.slice (some ⟨g, 0, none⟩) L.length cap) L) (hfit : a + t.size ≤ L.length) (ty : TypeId) :
    ∃ w', (Builtin.copy_ #[ 70, 9 ] ty #[.slice (some ⟨g, a, none⟩) (L.length - a) (cap - a), .string t]).run Tryd.prog w = .ok (goInt t.size) w' ∧ ByteRow w' (.slice (some ⟨g, 0, none⟩) L.length cap) (L.take a ++ t.data.toList ++ L.drop (a + t.size)) ∧ w.grownBy w' (some g) ∧ L.length ≤ cap ∧ cap ≤ maxLen := by
  rcases h.2 with ⟨h0, _⟩ | ⟨g', cap', cur, hv, hb, hg, hnc, hcm, hcs, htake⟩
  · simp at h0
  · simp at hv
    obtain ⟨rfl, rfl⟩ := hv
    have hin : (Tryd.prog.info? 5).map (·.size) = some 1 := by kernel_rfl
    have hcp := Lib.run_copy_row_string (P := Tryd.prog) w 70 9 ty 5 g a (L.length - a) (cap - a) t cur 5 Tryd.underlying70 hin hg (by omega) (by omega)
    refine ⟨_, hcp, ?_, ⟨rfl, rfl, rfl, by simp, fun j _ hj => setRow_other w g j _ (fun e => hj (by simp [e]))⟩, hnc, hcm⟩
    have htl : t.data.toList.length = t.size := rfl
    have hlen : (L.take a ++ t.data.toList ++ L.drop (a + t.size)).length = L.length := by simp only [List.length_append, List.length_take, List.length_drop, htl]; omega
    unfold ByteRow
    rw [hlen]
    refine ⟨by rw [Lib.byteCells_length, hlen]; omega, .inr ⟨g, cap, _, rfl, Nat.zero_le _, setRow_heap w g cur _ 5 _ hg, hnc, hcm, ?_, ?_⟩⟩
    · simp [Lib.byteCells_length, htl]; omega
    · rw [Nat.mul_one] at htake ⊢
      have e1 : cur.toList.take a = Lib.byteCells (L.take a) := by
        rw [show cur.toList.take a = (cur.toList.take L.length).take a by rw [List.take_take, Nat.min_eq_left (by omega)], htake]
        simp [Lib.byteCells]
      have e2 : (cur.toList.drop (a + t.size)).take (L.length - (a + t.size)) = Lib.byteCells (L.drop (a + t.size)) := by
        rw [← List.drop_take, htake]
        simp [Lib.byteCells]
      simp only [e1]
      rw [byteCells_append, byteCells_append, ← e2, List.take_append]
      have e3 : (Lib.byteCells (L.take a) ++ Lib.byteCells t.data.toList).length = a + t.size := by simp only [List.length_append, Lib.byteCells_length, List.length_take, htl]; omega
      rw [e3, List.take_of_length_le (by rw [e3]; omega)]
set_option maxHeartbeats 2000000 in
theorem put_any {w : World} {v : Value} {L : List UInt8} (h : ByteRow w v L) (a : Nat) (t : ByteArray) (ht : 0 < t.size) (hcap : a + t.size ≤ 268435456) (hL : L.length ≤ 268435456) :
    Calls Tryd.prog 44 #[v, .int .i64 a, .string t] w (PutOut w v (put L a t.data.toList)) := by
  have htl : t.data.toList.length = t.size := rfl
  have hval : ∃ ad c, v = .slice ad L.length c := by
    rcases h.2 with ⟨rfl, h0⟩ | ⟨g, cap, cur, rfl, _⟩
    · exact ⟨none, 0, by rw [h0]⟩
    · exact ⟨_, cap, rfl⟩
  by_cases hgr : L.length < a + t.size
  · obtain ⟨k, hk⟩ : ∃ k, a + t.size = L.length + k := ⟨a + t.size - L.length, by omega⟩
    obtain ⟨g, cap, w1, hr, h1, hg1, hloc⟩ := append_zeros h k (by omega) (by omega) 70
    have hl1 : (L ++ List.replicate k 0).length = L.length + k := by simp
    rw [← hl1] at h1 hr
    obtain ⟨w2, hcp, h2, hg2, hnc, hcm⟩ := put_copy (a := a) (t := t) h1 (by omega) 3
    have hE : (L ++ List.replicate k 0).take a ++ t.data.toList ++ (L ++ List.replicate k 0).drop (a + t.size) = put L a t.data.toList := by
      unfold put DiskM.ext
      rw [htl, show a + t.size - L.length = k by omega]
    rw [hE] at h2
    rw [hl1] at hcp hr h2 hnc
    have OUT := Lib.hid (show PutOut w v (put L a t.data.toList) (.returned (.slice (some ⟨g, 0, none⟩) (L.length + k) cap)) w2 from
      ⟨_, rfl, h2, (⟨hg1.os, hg1.tape, hg1.output, hg1.size, hg1.block⟩ : w.grownBy w1 v.ownBlock).andThen hg2 (fun j hj => by
        cases hj
        rcases hloc with h' | h'
        · exact .inr h'
        · exact .inl (by omega)), by
        rcases hloc with h' | h'
        · exact .inl h'.symm
        · exact .inr (by rw [h']; rfl)⟩)
    rw [show ((k : Nat) : Int) = (a : Int) + (t.size : Int) - (L.length : Int) by omega] at hr
    have HR := Lib.hid hr
    have b1 : wrap64 ((a : Int) + (t.size : Int)) = (a : Int) + (t.size : Int) := by unfold wrap64; omega
    have b2 : wrap64 ((a : Int) + (t.size : Int) - (L.length : Int)) = (a : Int) + (t.size : Int) - (L.length : Int) := by unfold wrap64; omega
    have b3 : (L.length : Int) < (a : Int) + (t.size : Int) := by omega
    have b4 : a ≤ L.length + k := by omega
    have b5 : ¬ cap = a := by omega
    have b6 : L.length + k ≤ cap := hnc
    unfold maxLen at hcm
    obtain ⟨ad, c, rfl⟩ := hval
    clear hE hg1 hg2 hloc h1 h2 h hl1 hk hnc htl hgr hr
    go_enter Tryd.func44, Tryd.ntmps44
    go_wp2_with (at_builtin; go_loud (refine Lib.wpList_append_run _ rfl _ _ _ _ rfl _ _ rfl rfl _ _ HR.out ?_))
    go_wp2
    go_ret
    exact OUT.out
  · have hv2 : ∃ g cap, v = .slice (some ⟨g, 0, none⟩) L.length cap := by
      rcases h.2 with ⟨rfl, h0⟩ | ⟨g, cap, cur, rfl, _⟩
      · omega
      · exact ⟨g, cap, rfl⟩
    obtain ⟨g, cap, rfl⟩ := hv2
    obtain ⟨w2, hcp, h2, hg2, hnc, hcm⟩ := put_copy (a := a) (t := t) h (by omega) 3
    have hE : L.take a ++ t.data.toList ++ L.drop (a + t.size) = put L a t.data.toList := by
      unfold put DiskM.ext
      rw [htl, show a + t.size - L.length = 0 by omega]
      simp
    rw [hE] at h2
    have OUT := Lib.hid (show PutOut w (.slice (some ⟨g, 0, none⟩) L.length cap) (put L a t.data.toList) (.returned (.slice (some ⟨g, 0, none⟩) L.length cap)) w2 from
      ⟨_, rfl, by unfold ByteRow; rw [put_len, htl, show max L.length (a + t.size) = L.length by omega]; have h3 := h2; unfold ByteRow at h3; rw [put_len, htl, show max L.length (a + t.size) = L.length by omega] at h3; exact h3, hg2, .inl rfl⟩)
    have b1 : wrap64 ((a : Int) + (t.size : Int)) = (a : Int) + (t.size : Int) := by unfold wrap64; omega
    have b2 : wrap64 ((a : Int) + (t.size : Int) - (L.length : Int)) = (a : Int) + (t.size : Int) - (L.length : Int) := by unfold wrap64; omega
    have b3 : ¬ ((L.length : Int) < (a : Int) + (t.size : Int)) := by omega
    have b4 : a ≤ L.length := by omega
    have b5 : ¬ cap = a := by omega
    unfold maxLen at hcm
    clear hE hg2 h2 h htl hgr
    go_enter Tryd.func44, Tryd.ntmps44
    go_wp2
    go_ret
    exact OUT.out
end Go.Proofs.YtdejajpmebgidaaDoor
