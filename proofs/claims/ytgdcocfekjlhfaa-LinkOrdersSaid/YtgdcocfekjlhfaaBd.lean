/-
  slices.Delete OF ONE PACKET; slices.Clone.
-/
import Derived.Test.YtgdcocfekjlhfaaBc
namespace Go.Proofs.Ytgdcocfekjlhfaa
open Go.RowKit
set_option linter.unusedVariables false
set_option linter.unusedSimpArgs false
set_option maxRecDepth 100000

def zCells : List Value := [.int .i64 0, .string .empty]
theorem zeroP (w : World) : (zeroValue 30).run Try.prog w = .ok (.agg #[.int .i64 0, .string .empty]) w := by kernel_rfl
theorem clear_one {W : World} {g k c : Nat} {cur : Array Value} (h : W.heap[g]? = some (.cells cur 30 (0, 0))) (hk : k * 2 + 2 ≤ cur.size) (ty : TypeId) :
    (Builtin.clear_ #[ 38 ] ty #[.slice (some ⟨g, k * 2, none⟩) 1 c]).run Try.prog W = .ok (.tuple #[]) (W.setRow g (cur.toList.take (k * 2) ++ zCells ++ cur.toList.drop (k * 2 + 2)).toArray) := by
  have hst := run_storeCells_at Try.prog g (k * 2) 30 zCells 0 cur W h (by simp [zCells]; omega) (by intro u hu; simp [zCells] at hu; rcases hu with rfl | rfl <;> rfl)
  simp only [Nat.add_zero] at hst
  have hz : (Builtin.zeroCells #[.int .i64 0, .string ⟨#[]⟩] 1).toList = zCells := by kernel_rfl
  have hz2 : zCells.length = 2 := rfl
  rw [hz2] at hst
  simp [Builtin.clear_, run_underlying Try.underlying38, zeroP, Value.cells, hz, hst]
/-- append within the room of a row, as a step of a region that draws its order. -/
theorem step_room {ops : Array Oper} {o : Oper} {act : Act} {K : Act → World → Prop} {Q : Exit → Act → World → Prop} {F : Prop} (hgd : o.guard = none) (s x : Operand) (ho : o.op = .call { callee := .builtin .append, args := #[s, x], argTypes := #[ 38, 38 ] })
    {w : World} {g n cap : Nat} {cur : Array Value} (hw : w.heap[g]? = some (.cells cur 30 (0, 0))) (hv : act.eval s = .slice (some ⟨g, 0, none⟩) n cap) {ad : Addr} {m c : Nat} {L : List Pk} (hx : act.eval x = .slice (some ad) m c) (hm : m = L.length) (hc : ∀ j u, (pkCells L)[j]? = some u → w.cell? (ad.add j) = some u)
    (h1 : n + m ≤ cap) (h2 : cap * 2 = cur.size)
    (hK : ∀ w', w' = w.setRow g (cur.toList.take (n * 2) ++ pkCells L ++ cur.toList.drop (n * 2 + (pkCells L).length)).toArray → K (act.put o.dst (.slice (some ⟨g, 0, none⟩) (n + m) cap)) w') : if Region.wanted o (yielded ops act.tmps) = true then Oper.wp Try.prog o act w K Q else F := by
  have hwt : Region.wanted o (yielded ops act.tmps) = true := by simp [Region.wanted, hgd]
  rw [if_pos hwt]
  subst hm
  obtain ⟨i0, hi, hz0, hz1, hz2⟩ := info_parts elP.info
  have hr := run_append_room (P := Try.prog) w 38 o.type 30 i0 elP.und hi g n cap cur hw ad L.length c (pkCells L) (by rw [hz1]; exact pkCells_len L) hc (pkCells_one L) h1 (by rw [hz1, pkCells_len]; omega)
  rw [hz1] at hr
  unfold Oper.wp execOp
  simp only [ho, resolve, invoke, builtin, Sem.run_bind, Sem.run_pure, Result.andThen_ok, List.map_toArray, List.map_cons, List.map_nil, hv, hx, hr]
  exact hK _ rfl
theorem erase_split (L : List Pk) (i : Nat) : L.eraseIdx i = L.take i ++ L.drop (i + 1) := List.eraseIdx_eq_take_drop_succ L i
theorem setRow_chg {S : Nat → Prop} (w : World) (g : Nat) (cs : Array Value) (hS : S g) : Chg S w (w.setRow g cs) :=
  ⟨rfl, rfl, rfl, by simp [World.setRow], fun k hk hn => setRow_other w g k cs (fun e => hn (e ▸ hS))⟩
set_option maxHeartbeats 4000000 in
theorem Tog.xdelete {w0 w : World} {S : Nat → Prop} {l : List Kd} (h : Tog w0 S w l) {j : Nat} {a : Option Addr} {c : Nat} {L : List Pk} (hj : l[j]? = some (kPks (.slice a L.length c) L)) (i : Nat) (hi : i < L.length) (hL : L.length ≤ 100000) :
    Calls Try.prog 35 #[.slice a L.length c, .int .i64 i, .int .i64 ((i : Int) + 1)] w fun e w' => e = .returned (.slice a (L.length - 1) c) ∧ Tog w0 S w' (l.set j (kPks (.slice a (L.length - 1) c) (L.eraseIdx i))) := by
  obtain ⟨M, ⟨m1, m2⟩, _, CL⟩ := h.focus hj
  have hm2 := m2
  rcases m2.2 with ⟨_, h0⟩ | ⟨g, cap, cur, hv, _, hg, hnc, hcm, hcs, htake⟩
  · omega
  obtain ⟨rfl, rfl⟩ : a = some ⟨g, 0, none⟩ ∧ c = cap := by simpa using hv
  have hMg : M g := (m1 g).2 rfl
  have hnc2 : c * 2 = cur.size := hcs.symm
  have hE1 : (L.eraseIdx i).length = L.length - 1 := by rw [List.length_eraseIdx_of_lt hi]
  have hd : (L.drop (i + 1)).length = L.length - (i + 1) := by simp
  have hcur : cur.toList.length = cur.size := by simp
  -- the cells behind the append
  obtain ⟨cur1, hcur1⟩ : ∃ cur1, cur1 = (cur.toList.take (i * 2) ++ pkCells (L.drop (i + 1)) ++ cur.toList.drop (i * 2 + (pkCells (L.drop (i + 1))).length)).toArray := ⟨_, rfl⟩
  have hs1 : cur1.size = cur.size := by
    rw [hcur1]
    simp [pkCells_len]; omega
  have ht : ∀ X : List Value, (cur.toList.take (i * 2) ++ pkCells (L.drop (i + 1)) ++ X).take ((L.length - 1) * 2) = pkCells (L.eraseIdx i) := by
    intro X
    have e1 : cur.toList.take (i * 2) = pkCells (L.take i) := by
      have e : cur.toList.take (i * 2) = (pkCells L).take (i * 2) := by rw [← htake, List.take_take, Nat.min_eq_left (by omega)]
      rw [e]
      conv => lhs; rw [← List.take_append_drop i L, pkCells_app]
      exact List.take_left' (by rw [pkCells_len]; simp; omega)
    rw [e1, ← pkCells_app, ← erase_split]
    exact List.take_left' (by rw [pkCells_len, hE1])
  -- the end
  have FIN := Lib.hid (show ∀ w3, w3 = w.setRow g cur1 ∨ w3 = w.drew.setRow g cur1 → ∀ w4, w4 = w3.setRow g (cur1.toList.take ((L.length - 1) * 2) ++ zCells ++ cur1.toList.drop ((L.length - 1) * 2 + 2)).toArray → Tog w0 S w4 (l.set j (kPks (.slice (some ⟨g, 0, none⟩) (L.length - 1) c) (L.eraseIdx i))) from by
    rintro w3 h3 w4 rfl
    have c3 : Chg M w w3 ∧ w3.heap[g]? = some (.cells cur1 30 (0, 0)) := by
      rcases h3 with rfl | rfl
      · exact ⟨setRow_chg _ _ _ hMg, setRow_heap w g cur cur1 _ _ hg⟩
      · exact ⟨(Chg.refl M w).drew.trans (setRow_chg _ _ _ hMg) (fun _ h => .inl h), setRow_heap w.drew g cur cur1 _ _ hg⟩
    refine CL _ _ ⟨M, ⟨m1, ?_⟩, fun b hb => .inl hb, c3.1.trans (setRow_chg _ _ _ hMg) (fun _ h => .inl h)⟩
    rw [hE1]
    refine ⟨by rw [pkCells_len, hE1], .inr ⟨g, c, _, rfl, Nat.zero_le _, setRow_heap w3 g cur1 _ _ _ c3.2, by omega, hcm, ?_, ?_⟩⟩
    · simp [zCells]; omega
    · simp only []
      rw [List.append_assoc, List.take_append_of_le_length (by simp; omega), List.take_take, Nat.min_self, hcur1]
      exact ht _)
  have CELL := Lib.hid (show ∀ t u, (pkCells (L.drop (i + 1)))[t]? = some u → w.drew.cell? ((⟨g, (i + 1) * 2, none⟩ : Addr).add t) = some u from by
    intro t u hu
    have hl : t < (pkCells (L.drop (i + 1))).length := (List.getElem?_eq_some_iff.1 hu).1
    have e : (pkCells L)[(i + 1) * 2 + t]? = some u := by
      conv => lhs; rw [← List.take_append_drop (i + 1) L, pkCells_app]
      rw [List.getElem?_append_right (by rw [pkCells_len]; simp; omega), pkCells_len, List.length_take, Nat.min_eq_left (by omega), Nat.add_sub_cancel_left]
      exact hu
    have h1 := hm2.cells (g := g) rfl _ _ e
    rw [addr_add, Nat.zero_add] at h1
    rw [addr_add]; exact h1)
  have NIL := Lib.hid (show L.length = i + 1 → pkCells (L.drop (i + 1)) = [] from fun e => by rw [List.drop_of_length_le (by omega)]; rfl)
  have HG := Lib.hid (show w.drew.heap[g]? = some (.cells cur 30 (0, 0)) from hg)
  have HD := Lib.hid hd
  have HN := Lib.hid hnc2
  have CLR := Lib.hid (show ∀ w3, w3 = w.drew.setRow g cur1 → ∀ ty, (Builtin.clear_ #[ 38 ] ty #[.slice (some ⟨g, (L.length - 1) * 2, none⟩) 1 (c - (L.length - 1))]).run Try.prog w3 = .ok (.tuple #[]) (w3.setRow g (cur1.toList.take ((L.length - 1) * 2) ++ zCells ++ cur1.toList.drop ((L.length - 1) * 2 + 2)).toArray) from by
    rintro w3 rfl ty
    exact clear_one (setRow_heap w.drew g cur cur1 _ _ hg) (by omega) ty)
  have HC1 := Lib.hid hcur1
  obtain ⟨n, hn⟩ : ∃ n, L.length = n + 1 := ⟨L.length - 1, by omega⟩
  have hin : i ≤ n := by omega
  have hnc' : n + 1 ≤ c := by omega
  have hn100 : n ≤ 100000 := by omega
  have hc100 : c ≤ 9223372036854775807 := by unfold maxLen at hcm; omega
  rw [hn] at FIN HD NIL CLR ⊢
  simp only [Nat.add_sub_cancel] at FIN CLR ⊢
  clear h hj m1 m2 hm2 CL hv htake hg hcs hE1 hd hcur hs1 ht hcur1 hnc hcm hnc2 hL hi hn
  go_enter Try.func35, Try.ntmps35
  have q1 : ((i : Int) == (i : Int) + 1) = false := beq_eq_false_iff_ne.2 (by omega)
  have g0 : (0 : Int) ≤ (i : Int) := by omega
  have g1 : (i : Int) ≤ (n : Int) := by omega
  have g2 : (n : Int) + 1 ≤ (c : Int) := by omega
  have EC : ∀ w' : World, w' = w.drew.setRow g (cur.toList.take (i * 2) ++ pkCells (L.drop (i + 1)) ++ cur.toList.drop (i * 2 + (pkCells (L.drop (i + 1))).length)).toArray → w' = w.drew.setRow g cur1 := fun w' e => by rw [e, HC1.out]
  have EH := Lib.hid EC
  clear EC
  have hic : i ≤ c := by omega
  have hic1 : i + 1 ≤ c := by omega
  have hnc3 : n ≤ c := by omega
  have g3 : (0 : Int) ≤ (i : Int) + 1 := by omega
  have g4 : (0 : Int) ≤ (n : Int) := by omega
  by_cases e1 : i < n
  · have h1 : ¬ c = i + 1 := by omega
    have en : i + (n - i) = n := by omega
    have en2 : n + 1 - n = 1 := by omega
    have en3 : ¬ c = n := by omega
    have h1' : ¬ (c : Int) = (i : Int) + 1 := by omega
    go_wp2_with fail
    go_region_law ((refine step_room (by rfl) _ _ (by rfl) HG.out (by rfl) (L := L.drop (i + 1)) (by rfl) (by rw [HD.out]; omega) CELL.out (by omega) HN.out ?_; intro w3 h3; have W3 := EH.out w3 h3; have C3 := CLR.out w3 W3 0; have WH := Lib.hid W3; clear h3 W3))
    all_goals
      go_wp2
      go_ret
      exact ⟨rfl, FIN.out _ (.inr WH.out) _ (by rw [List.append_assoc])⟩
  · obtain rfl : n = i := by omega
    have NN : ∀ A : Addr, ∀ t u, (pkCells (L.drop (n + 1)))[t]? = some u → w.drew.cell? (A.add t) = some u := fun A t u hu => by rw [NIL.out rfl] at hu; simp at hu
    have NH := Lib.hid NN
    clear NN
    have en2 : n + 1 - n = 1 := by omega
    have en3 : ¬ c = n := by omega
    by_cases e2 : c = n + 1
    · subst e2
      have e3 : (n : Int) ≤ (n : Int) + 1 := by omega
      have e4 : n + 1 - n = 1 := by omega
      go_wp2_with fail
      go_region_law ((refine step_room (by rfl) _ _ (by rfl) HG.out (by rfl) (L := L.drop (n + 1)) (by rfl) (by rw [HD.out]; omega) (NH.out _) (by omega) HN.out ?_; intro w3 h3; have W3 := EH.out w3 h3; have C3 := CLR.out w3 W3 0; rw [Nat.add_sub_cancel_left] at C3; have WH := Lib.hid W3; clear h3 W3))
      all_goals
        go_wp2
        go_ret
        exact ⟨rfl, FIN.out _ (.inr WH.out) _ (by rw [List.append_assoc])⟩
    · have e2' : ¬ (c : Int) = (n : Int) + 1 := by omega
      go_wp2_with fail
      go_region_law ((refine step_room (by rfl) _ _ (by rfl) HG.out (by rfl) (L := L.drop (n + 1)) (by rfl) (by rw [HD.out]; omega) (NH.out _) (by omega) HN.out ?_; intro w3 h3; have W3 := EH.out w3 h3; have C3 := CLR.out w3 W3 0; have WH := Lib.hid W3; clear h3 W3))
      all_goals
        go_wp2
        go_ret
        exact ⟨rfl, FIN.out _ (.inr WH.out) _ (by rw [List.append_assoc])⟩
end Go.Proofs.Ytgdcocfekjlhfaa
