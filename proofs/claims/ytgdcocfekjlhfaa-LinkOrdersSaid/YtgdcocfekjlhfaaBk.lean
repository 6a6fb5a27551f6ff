/-
  THE REFERENCE: Copy, Same. The law's count.
-/
import Derived.Test.YtgdcocfekjlhfaaBj
namespace Go.Proofs.Ytgdcocfekjlhfaa
open Go.RowKit
set_option linter.unusedVariables false
set_option linter.unusedSimpArgs false
set_option maxRecDepth 100000
theorem bytes_ne {s t : ByteArray} : (s.toList == t.toList) = decide (s = t) := by
  by_cases e : s = t
  · subst e; simp
  · have : ¬ s.toList = t.toList := fun h => e (by rw [ByteArray.toList_eq, ByteArray.toList_eq] at h; cases s; cases t; congr 1; exact Array.toList_inj.1 h)
    rw [decide_eq_false e]
    exact beq_eq_false_iff_ne.2 this
theorem pk_eqIn (a b : Int) (s t : ByteArray) (W : World) : (Op.equalIn 10000 30 (.agg #[.int .i64 a, .string s]) (.agg #[.int .i64 b, .string t])).run Try.prog W = .ok (decide (((a, s) : Pk) = (b, t))) W := by
  have hd : (decide (((a, s) : Pk) = (b, t))) = (decide (a = b) && decide (s = t)) := by simp [Bool.decide_and]
  rw [hd]
  rw [run_equalIn_struct (P := Try.prog) W 9999 30 _ _ Try.underlying30 (by kernel_rfl)]
  have hfo : (Try.prog.fieldsOf 30).toList = [(Try.prog.fieldsOf 30)[0]!, (Try.prog.fieldsOf 30)[1]!] := by kernel_rfl
  have n0 : ((Try.prog.fieldsOf 30)[0]!.name == "_") = false := by kernel_rfl
  have n1 : ((Try.prog.fieldsOf 30)[1]!.name == "_") = false := by kernel_rfl
  have t0 : (Try.prog.fieldsOf 30)[0]!.type = 3 := by kernel_rfl
  have t1 : (Try.prog.fieldsOf 30)[1]!.type = 9 := by kernel_rfl
  have o0 : (Try.prog.fieldsOf 30)[0]!.offset = 0 := by kernel_rfl
  have o1 : (Try.prog.fieldsOf 30)[1]!.offset = 1 := by kernel_rfl
  rw [beq_eq_false_iff_ne] at n0 n1
  rw [hfo]
  generalize (Try.prog.fieldsOf 30)[0]! = f0 at *
  generalize (Try.prog.fieldsOf 30)[1]! = f1 at *
  have p0 : ∀ (x y : Value) w, (part 3 #[x, y] 0).run Try.prog w = .ok x w := by intro x y w; simp [go_sem, part, Try.underlying3]
  have p1 : ∀ (x y : Value) w, (part 9 #[x, y] 1).run Try.prog w = .ok y w := by intro x y w; simp [go_sem, part, Try.underlying9]
  by_cases e : a = b
  · simp [Op.eqFields, n0, n1, t0, t1, o0, o1, p0, p1, run_equalIn_int (P := Try.prog) W 9998 3 _ _ _ _ Try.underlying3, run_equalIn_string (P := Try.prog) W 9998 9 _ _ Try.underlying9, bytes_ne, e]
    by_cases e2 : s = t <;> simp [e2]
  · simp [Op.eqFields, n0, n1, t0, t1, o0, o1, p0, p1, run_equalIn_int (P := Try.prog) W 9998 3 _ _ _ _ Try.underlying3, run_equalIn_string (P := Try.prog) W 9998 9 _ _ Try.underlying9, bytes_ne, e]
theorem pk_neq (a b : Int) (s t : ByteArray) (W : World) : (binOp .neq 30 (.agg #[.int .i64 a, .string s]) (.agg #[.int .i64 b, .string t])).run Try.prog W = .ok (.bool (!decide (((a, s) : Pk) = (b, t)))) W := by
  rw [run_neq_struct (P := Try.prog) W 30 #[.int .i64 a, .string s] #[.int .i64 b, .string t], pk_eqIn]; rfl
theorem pk_eql (a b : Int) (s t : ByteArray) (W : World) : (binOp .eql 30 (.agg #[.int .i64 a, .string s]) (.agg #[.int .i64 b, .string t])).run Try.prog W = .ok (.bool (decide (((a, s) : Pk) = (b, t)))) W := by
  rw [run_eql_struct (P := Try.prog) W 30 #[.int .i64 a, .string s] #[.int .i64 b, .string t], pk_eqIn]; rfl
theorem src_pk {w : World} {a : Option Addr} {n c : Nat} {L : List Pk} (h : SrcAt w (.slice a n c) n (pkCells L)) {j : Nat} {q : Pk} (hq : L[j]? = some q) : ∃ b o, a = some ⟨b, o, none⟩ ∧ w.cell? ⟨b, o + j * 2, none⟩ = some (.int .i64 q.1) ∧ w.cell? ⟨b, o + j * 2 + 1, none⟩ = some (.string q.2) := by
  obtain ⟨e1, e2⟩ := pkCells_at L j q hq
  rcases h with ⟨_, _, h0⟩ | ⟨b, o, c2, hv, hc⟩
  · rw [h0] at e1; simp at e1
  · obtain ⟨rfl, rfl⟩ : a = some ⟨b, o, none⟩ ∧ c = c2 := by simpa using hv
    exact ⟨b, o, rfl, hc _ _ e1, by rw [Nat.add_assoc]; exact hc _ _ e2⟩
section
variable {w0 w : World} {S : Nat → Prop} {l : List Kd}
set_option maxHeartbeats 1000000 in
theorem Tog.rcopy (h : Tog w0 S w l) {i p : Nat} {s : LS} (hi : l[i]? = some (kLink 40 p s)) : Calls Try.prog 12 #[.pointer (some ⟨p, 0, none⟩)] w fun e w' => ∃ p', e = .returned (.pointer (some ⟨p', 0, none⟩)) ∧ Tog w0 S w' (l ++ [kLink 40 p' s]) := by
  have hle := h.linkLe hi
  obtain ⟨a, c, c0, c1, sr⟩ := h.linkAt hi
  have il : i < l.length := (List.getElem?_eq_some_iff.1 hi).1
  have T1 := (h.made 30 2 0 #[] (by simp) (by unfold maxLen; omega))
  have hi1 : (l ++ [kPks (.slice (some ⟨w.heap.size, 0, none⟩) 0 0) []])[i]? = some (kLink 40 p s) := by rw [List.getElem?_append_left il]; exact hi
  have x0 := Lib.cell?_alloc_some (.cells #[] 30) c0
  have x1 := Lib.cell?_alloc_some (.cells #[] 30) c1
  have HT1 := Lib.hid (show Tog w0 S (w.alloc (.cells #[] 30)).drew (l ++ [kPks (.slice (some ⟨w.heap.size, 0, none⟩) 0 0) []]) from T1.drew)
  have HS := Lib.hid (show SrcAt (w.alloc (.cells #[] 30)).drew (.slice a s.L.length c) s.L.length (pkCells s.L) from by
    rcases sr with h1 | ⟨b, o, c, hv, hc⟩
    · exact .inl h1
    · exact .inr ⟨b, o, c, hv, fun j u hj => Lib.cell?_alloc_some _ (hc j u hj)⟩)
  have HB := Lib.hid (show s.L.length ≤ 100000 by omega)
  have HI := Lib.hid (show (l ++ [kPks (.slice (some ⟨w.heap.size, 0, none⟩) 0 0) []])[l.length]? = some (kPks (.slice (some ⟨w.heap.size, 0, none⟩) 0 0) []) by simp)
  have FIN := Lib.hid (show ∀ w3 a3 c3, Tog w0 S w3 ((l ++ [kPks (.slice (some ⟨w.heap.size, 0, none⟩) 0 0) []]).set l.length (kPks (.slice a3 s.L.length c3) ([] ++ s.L))) → w3.cell? ⟨p, 1, none⟩ = some (.bool s.cut) ∧ Tog w0 S (w3.alloc (.cells #[.slice a3 s.L.length c3, .bool s.cut] 40)) (l ++ [kLink 40 w3.heap.size s]) from fun w3 a3 c3 T => by
    have e : (l ++ [kPks (.slice (some ⟨w.heap.size, 0, none⟩) 0 0) []]).set l.length (kPks (.slice a3 s.L.length c3) ([] ++ s.L)) = l ++ [kPks (.slice a3 s.L.length c3) s.L] := by
      rw [List.set_append_right _ _ (Nat.le_refl _)]; simp
    rw [e] at T
    obtain ⟨_, _, _, k1, _⟩ := T.linkAt (i := i) (p := p) (s := s) (by rw [List.getElem?_append_left il]; exact hi)
    refine ⟨k1, T.boxLink hle⟩)
  clear h hi T1 hi1 sr
  go_enter Try.func12, Try.ntmps12
  go_wp2_with fail
  go_region_law (refine HT1.out.step_pks (by rfl) _ _ (by rfl) l.length HI.out (M := s.L) HS.out (by rfl) (by rfl) s.L.length (by simp) HB.out ?_; intro a3 c3 w3 T3 hs3; obtain ⟨z0, fin⟩ := FIN.out _ _ _ T3; have T := Lib.hid fin; clear T3 hs3 fin)
  all_goals
    go_wp2
    go_ret
    exact ⟨_, rfl, T.out⟩
set_option maxHeartbeats 1000000 in
theorem same_any {w : World} {a b : Option Addr} {ca cb : Nat} {L M : List Pk} (ha : SrcAt w (.slice a L.length ca) L.length (pkCells L)) (hb : SrcAt w (.slice b M.length cb) M.length (pkCells M)) (hL : L.length ≤ 1000) (hM : M.length ≤ 1000) :
    Calls Try.prog 17 #[.slice a L.length ca, .slice b M.length cb] w fun e w' => e = .returned (.bool (decide (L = M))) ∧ Below w.heap.size w w' := by
  by_cases hlen : L.length = M.length
  · have hlenI : ((L.length : Int) == (M.length : Int)) = true := by rw [beq_iff_eq]; omega
    have CE := Lib.hid (fun (wr : World) (hw : wr.heap = w.heap) j (q : Pk) (hq : L[j]? = some q) => show ∃ b o, a = some ⟨b, o, none⟩ ∧ wr.cell? ⟨b, o + j * 2, none⟩ = some (.int .i64 q.1) ∧ wr.cell? ⟨b, o + j * 2 + 1, none⟩ = some (.string q.2) from by
      obtain ⟨b, o, e, h1, h2⟩ := src_pk ha hq
      exact ⟨b, o, e, by rw [← h1]; exact World.cell?_of_block (by rw [hw]), by rw [← h2]; exact World.cell?_of_block (by rw [hw])⟩)
    have CF := Lib.hid (fun (wr : World) (hw : wr.heap = w.heap) j (q : Pk) (hq : M[j]? = some q) => show ∃ a o, b = some ⟨a, o, none⟩ ∧ wr.cell? ⟨a, o + j * 2, none⟩ = some (.int .i64 q.1) ∧ wr.cell? ⟨a, o + j * 2 + 1, none⟩ = some (.string q.2) from by
      obtain ⟨b, o, e, h1, h2⟩ := src_pk hb hq
      exact ⟨b, o, e, by rw [← h1]; exact World.cell?_of_block (by rw [hw]), by rw [← h2]; exact World.cell?_of_block (by rw [hw])⟩)
    have HLEN := Lib.hid hlen
    clear ha hb
    go_enter Try.func17, Try.ntmps17
    go_wp2_with fail
    go_loopw [5] (fun i wr => ∃ j : Nat, j ≤ L.length ∧ i = .int .i64 (j : Int) ∧ Hid (∀ m, m < j → L[m]? = M[m]?) ∧ Hid (wr.heap = w.heap ∧ Below w.heap.size w wr)) (fun i _ => L.length - (intOf i).toNat)
    case atStart => exact ⟨0, Nat.zero_le _, rfl, Lib.hid (fun m hm => by omega), Lib.hid ⟨rfl, Below.refl _ _⟩⟩
    case round =>
      obtain ⟨j, hj, rfl, HO, HW⟩ := hrel
      by_cases hlt : j < L.length
      · obtain ⟨x1, x2, hx⟩ : ∃ x1 x2, L[j]? = some (x1, x2) := ⟨L[j].1, L[j].2, List.getElem?_eq_getElem hlt⟩
        have hlt2 : j < M.length := by omega
        obtain ⟨y1, y2, hy⟩ : ∃ y1 y2, M[j]? = some (y1, y2) := ⟨M[j].1, M[j].2, List.getElem?_eq_getElem hlt2⟩
        obtain ⟨ba, oa, rfl, a1, a2⟩ := CE.out _ HW.out.1 j _ hx
        obtain ⟨bb, ob, rfl, b1, b2⟩ := CF.out _ HW.out.1 j _ hy
        have g0 : (0 : Int) ≤ (j : Int) := by omega
        have g1 : (j : Int) < (L.length : Int) := by omega
        have g2 : (j : Int) < (M.length : Int) := by omega
        have w1 : wrap64 ((j : Int) + 1) = (j : Int) + 1 := by unfold wrap64; omega
        have W1 := Lib.hid w1
        have MEAS := Lib.hid (show L.length - (intOf (.int .i64 ((j : Int) + 1))).toNat < L.length - (intOf (.int .i64 (j : Int))).toNat by simp [intOf]; omega)
        have HD := Lib.hid (show (wr.drew.heap = w.heap ∧ Below w.heap.size w wr.drew) from ⟨HW.out.1, HW.out.2.drew⟩)
        have q0 := fun W => pk_neq x1 y1 x2 y2 W
        by_cases e : ((x1, x2) : Pk) = (y1, y2)
        · rw [decide_eq_true e] at q0
          have G := Lib.hid (show ∀ wz, (wz.heap = w.heap ∧ Below w.heap.size w wz) → ∃ j' : Nat, j' ≤ L.length ∧ Value.int .i64 ((j : Int) + 1) = .int .i64 (j' : Int) ∧ Hid (∀ m, m < j' → L[m]? = M[m]?) ∧ Hid (wz.heap = w.heap ∧ Below w.heap.size w wz) from fun wz hz => ⟨j + 1, hlt, rfl, Lib.hid (fun m hm => by
            by_cases e2 : m = j
            · subst e2; rw [hx, hy, e]
            · exact HO.out m (by omega)), Lib.hid hz⟩)
          clear hx hy hlt hlt2 hj w1 e HO hlen
          go_wp2_with fail
          go_region
          go_wp2
          go_roundw
          case rel => first | exact G.out _ HD.out | (rw [W1.out]; exact G.out _ HD.out)
          case measure => first | exact MEAS.out | (rw [W1.out]; exact MEAS.out)
        · rw [decide_eq_false e] at q0
          have E := Lib.hid (show decide (L = M) = false from decide_eq_false (fun h => e (by rw [h, hy] at hx; exact (Option.some.inj hx).symm)))
          clear hx hy hlt hlt2 hj w1 e HO hlen
          go_wp2_with fail
          go_region
          go_wp2
          go_ret
          exact ⟨by rw [E.out]; rfl, HD.out.2⟩
      · have g1 : ¬ (j : Int) < (L.length : Int) := by omega
        have E := Lib.hid (show decide (L = M) = true from decide_eq_true (by
          apply List.ext_getElem?
          intro m
          by_cases hm : m < j
          · exact HO.out m hm
          · rw [List.getElem?_eq_none (by omega), List.getElem?_eq_none (by have := HLEN.out; omega)]))
        clear hlt hj HO
        go_wp2
        go_ret
        exact ⟨by rw [E.out]; rfl, HW.out.2⟩
  · have E := Lib.hid (show decide (L = M) = false from decide_eq_false (fun h => hlen (by rw [h])))
    have hlenI : ((L.length : Int) == (M.length : Int)) = false := beq_eq_false_iff_ne.2 (by omega)
    have hlenI2 : ((L.length : Int) != (M.length : Int)) = true := by simp [bne, hlenI]
    clear ha hb hlen
    go_enter Try.func17, Try.ntmps17
    go_wp2
    go_ret
    exact ⟨by rw [E.out]; rfl, Below.refl _ _⟩
end
end Go.Proofs.Ytgdcocfekjlhfaa
