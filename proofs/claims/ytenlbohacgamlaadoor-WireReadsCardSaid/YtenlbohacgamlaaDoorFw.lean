/-
  THE STATEMENTS' OWN HELPERS, continued: few.
-/
import Derived.Test.YtenlbohacgamlaaDoorEv
namespace Go.Proofs.YtenlbohacgamlaaDoor
open Go.RowKit WireM
set_option linter.unusedVariables false
set_option linter.unusedSimpArgs false

/-- A slice of values: the five cells of each. -/
def ValsIn (B : Nat) (w : World) (a : Option Addr) (vs : List V) : Prop :=
  vs = [] ∨ ∃ b o, a = some ⟨b, o, none⟩ ∧ b < B ∧ (∀ (i : Nat) (h : i < vs.length) (j : Nat), j < 5 → w.cell? ⟨b, o + i * 5 + j, none⟩ = vs[i].cells[j]?) ∧ ∀ v ∈ vs, v.Ok B w

def sumT (l : List ByteArray) : Nat := (l.map (·.size)).sum
def bulk (v : V) : Nat := v.S.size + v.L.length + v.T.length + sumT v.T
def total (vs : List V) : Nat := (vs.map bulk).sum
def Few (vs : List V) : Prop := vs.length ≤ 20 ∧ (∀ v ∈ vs, v.Small) ∧ total vs ≤ 400

theorem total_succ (vs : List V) (k : Nat) (h : k < vs.length) : total (vs.take (k + 1)) = total (vs.take k) + bulk vs[k] := by
  unfold total; rw [List.take_succ_eq_append_getElem h, List.map_append, List.sum_append]; simp
theorem sumT_succ (l : List ByteArray) (k : Nat) (h : k < l.length) : sumT (l.take (k + 1)) = sumT (l.take k) + l[k].size := by
  unfold sumT; rw [List.take_succ_eq_append_getElem h, List.map_append, List.sum_append]; simp
theorem sumT_le (l : List ByteArray) (h : ∀ x ∈ l, x.size ≤ 400) : sumT l ≤ 400 * l.length := by
  unfold sumT
  induction l with
  | nil => simp
  | cons a l ih =>
    have h1 := ih fun x hx => h x (List.mem_cons_of_mem _ hx)
    have h2 := h a List.mem_cons_self
    simp only [List.map_cons, List.sum_cons, List.length_cons]
    omega
theorem bulk_le (v : V) (h : v.Small) : bulk v ≤ 161200 := by
  have h1 := sumT_le v.T h.t
  have h2 := h.s; have h3 := h.l; have h4 := h.tl
  unfold bulk; omega
theorem total_le (vs : List V) (h : ∀ v ∈ vs, v.Small) : total vs ≤ 161200 * vs.length := by
  unfold total
  induction vs with
  | nil => simp
  | cons a l ih =>
    have h1 := ih fun x hx => h x (List.mem_cons_of_mem _ hx)
    have h2 := bulk_le a (h a List.mem_cons_self)
    simp only [List.map_cons, List.sum_cons, List.length_cons]
    omega
theorem small_take {vs : List V} {k : Nat} (h : ∀ v ∈ vs.take k, v.Small) (hk : k < vs.length) (hv : vs[k].Small) : ∀ v ∈ vs.take (k + 1), v.Small := by
  rw [List.take_succ_eq_append_getElem hk]
  intro v hm
  rcases List.mem_append.1 hm with h1 | h1
  · exact h v h1
  · simp at h1; rw [h1]; exact hv

def FewPost (vs : List V) (w : World) (e : Ending) (w' : World) : Prop := ∃ r : Bool, e = .returned (.bool r) ∧ (r = true ↔ Few vs) ∧ ∃ q, w' = w.drewN q
theorem fewPost_no {vs : List V} {w : World} {q : Nat} (h : ¬ Few vs) : FewPost vs w (.returned (.bool false)) (w.drewN q) := ⟨false, rfl, by simp [h], q, rfl⟩
theorem not_small {vs : List V} {k : Nat} (hk : k < vs.length) (h : ¬ vs[k].Small) : ¬ Few vs := fun h' => h (h'.2.1 _ (List.getElem_mem hk))

set_option maxHeartbeats 4000000 in
set_option maxRecDepth 100000 in
theorem few_any (B : Nat) (a : Option Addr) (cap : Nat) (vs : List V) (w : World) (hB : B ≤ w.heap.size) (hm : vs.length ≤ 9223372036854775807) (hc : ValsIn B w a vs) :
    Calls Tryd.prog 10 #[.slice a vs.length cap] w (FewPost vs w) := by
  have HC := Lib.hid hc
  clear hc
  by_cases hl : vs.length ≤ 20
  · go_enter Tryd.func10, Tryd.ntmps10
    go_wp2_with fail
    go_loopw [4, 3] (fun i n wr => ∃ k q m : Nat, k ≤ vs.length ∧ i = .int .i64 k ∧ n = .int .i64 m ∧ m = total (vs.take k) ∧ wr = w.drewN q ∧ (∀ v ∈ vs.take k, v.Small)) (fun i _ _ => vs.length - (intOf i).toNat)
    case atStart => exact ⟨0, 0, 0, Nat.zero_le _, rfl, rfl, rfl, by rw [World.drewN_zero], by simp⟩
    case round =>
      obtain ⟨k, q, m, hk, rfl, rfl, hmt, rfl, hsm⟩ := hrel
      have hmb : m ≤ 4000000 := by have h1 := total_le _ hsm; rw [List.length_take] at h1; omega
      have HM := Lib.hid hmt
      have HS := Lib.hid hsm
      clear hmt hsm
      by_cases hlt : k < vs.length
      · rcases HC.out with h1 | ⟨b, o, rfl, hb, hcells, hok⟩
        · subst h1; simp at hlt
        · obtain ⟨v, hv⟩ : ∃ v, v = vs[k] := ⟨_, rfl⟩
          have c2 : w.cell? ⟨b, o + k * 5 + 2, none⟩ = some (.string v.S) := by rw [hcells k hlt 2 (by omega), hv]; rfl
          have c3 : w.cell? ⟨b, o + k * 5 + 3, none⟩ = some (.slice v.la v.L.length v.lc) := by rw [hcells k hlt 3 (by omega), hv]; rfl
          have c4 : w.cell? ⟨b, o + k * 5 + 4, none⟩ = some (.slice v.ta v.T.length v.tc) := by rw [hcells k hlt 4 (by omega), hv]; rfl
          obtain ⟨K, N, S, la, lc, L, ta, tc, T⟩ := v
          have HV := Lib.hid hv
          have hct0 : CellsIn B w ta (T.map Value.string) := (show V.Ok B w ⟨K, N, S, la, lc, L, ta, tc, T⟩ by rw [hv]; exact hok _ (List.getElem_mem hlt)).ct
          simp only at c2 c3 c4
          clear hcells hok hv
          rcases hct0 with hTn | ⟨bt, ot, rfl, hbt, hct'⟩
          · have HTN := Lib.hid (show T = [] by simpa using hTn)
            clear hTn
            by_cases hbig : L.length ≤ 400 ∧ T.length ≤ 400 ∧ S.size ≤ 400
            · obtain ⟨gl, gt, gs⟩ := hbig
              have d1 : decide (400 < (L.length : Int)) = false := by simp; omega
              have d2 : decide (400 < (T.length : Int)) = false := by simp; omega
              have d3 : decide (400 < (S.size : Int)) = false := by simp; omega
              have s1 : IntKind.i64.wrap ((m : Int) + (S.size : Int)) = (m : Int) + (S.size : Int) := IntWalk.i64_in _ (by omega)
              have s2 : IntKind.i64.wrap ((m : Int) + (S.size : Int) + (L.length : Int)) = (m : Int) + (S.size : Int) + (L.length : Int) := IntWalk.i64_in _ (by omega)
              have s3 : IntKind.i64.wrap ((m : Int) + (S.size : Int) + (L.length : Int) + (T.length : Int)) = (m : Int) + (S.size : Int) + (L.length : Int) + (T.length : Int) := IntWalk.i64_in _ (by omega)
              go_wp2_with fail
              go_quiet (fail)
              clear s1 s2 s3
              go_wp2_with fail
              go_loop [5, 3] (fun i n => ∃ j z : Nat, j ≤ T.length ∧ i = .int .i64 j ∧ n = .int .i64 z ∧ z = m + S.size + L.length + T.length + sumT (T.take j) ∧ ∀ x ∈ T.take j, x.size ≤ 400) (fun i _ => T.length - (intOf i).toNat)
              case atStart => exact ⟨0, m + S.size + L.length + T.length, Nat.zero_le _, rfl, congrArg _ (by omega), by simp [sumT], by simp⟩
              case round =>
                obtain ⟨j, z0, hj, rfl, rfl, rfl, hst⟩ := hrel
                have HJ := Lib.hid hst
                clear hst
                by_cases hjt : j < T.length
                · exfalso
                  have h0 := congrArg List.length HTN.out
                  simp only [List.length_nil] at h0
                  omega
                · obtain rfl : j = T.length := by omega
                  have hsl : sumT (T.take T.length) ≤ 160000 := by have h1 := sumT_le _ HJ.out; rw [List.length_take] at h1; omega
                  have HE := Lib.hid (show m + S.size + L.length + T.length + sumT (T.take T.length) = total (vs.take (k + 1)) by rw [total_succ vs k hlt, ← HM.out, ← HV.out, List.take_length]; unfold bulk; simp only; omega)
                  have HSM := Lib.hid (small_take HS.out hlt (by rw [← HV.out]; exact ⟨gs, gl, gt, by have := HJ.out; rwa [List.take_length] at this⟩))
                  generalize hz : m + S.size + L.length + T.length + sumT (T.take T.length) = z at *
                  clear hz
                  go_wp2_with fail
                  go_roundw
                  case rel => exact ⟨k + 1, _, z, by omega, by go_num, rfl, HE.out, rfl, HSM.out⟩
                  case measure => simp [intOf]; omega
            · go_wp2_with fail
              all_goals
                go_ret
                exact fewPost_no (not_small hlt (fun h => by rw [← HV.out] at h; have h1 : S.size ≤ 400 := h.s; have h2 : L.length ≤ 400 := h.l; have h3 : T.length ≤ 400 := h.tl; omega))
          · have hct := Lib.hid hct'
            clear hct'
            by_cases hbig : L.length ≤ 400 ∧ T.length ≤ 400 ∧ S.size ≤ 400
            · obtain ⟨gl, gt, gs⟩ := hbig
              have d1 : decide (400 < (L.length : Int)) = false := by simp; omega
              have d2 : decide (400 < (T.length : Int)) = false := by simp; omega
              have d3 : decide (400 < (S.size : Int)) = false := by simp; omega
              have s1 : IntKind.i64.wrap ((m : Int) + (S.size : Int)) = (m : Int) + (S.size : Int) := IntWalk.i64_in _ (by omega)
              have s2 : IntKind.i64.wrap ((m : Int) + (S.size : Int) + (L.length : Int)) = (m : Int) + (S.size : Int) + (L.length : Int) := IntWalk.i64_in _ (by omega)
              have s3 : IntKind.i64.wrap ((m : Int) + (S.size : Int) + (L.length : Int) + (T.length : Int)) = (m : Int) + (S.size : Int) + (L.length : Int) + (T.length : Int) := IntWalk.i64_in _ (by omega)
              go_wp2_with fail
              go_quiet (fail)
              clear s1 s2 s3
              go_wp2_with fail
              go_loop [5, 3] (fun i n => ∃ j z : Nat, j ≤ T.length ∧ i = .int .i64 j ∧ n = .int .i64 z ∧ z = m + S.size + L.length + T.length + sumT (T.take j) ∧ ∀ x ∈ T.take j, x.size ≤ 400) (fun i _ => T.length - (intOf i).toNat)
              case atStart => exact ⟨0, m + S.size + L.length + T.length, Nat.zero_le _, rfl, congrArg _ (by omega), by simp [sumT], by simp⟩
              case round =>
                obtain ⟨j, z0, hj, rfl, rfl, rfl, hst⟩ := hrel
                have HJ := Lib.hid hst
                clear hst
                by_cases hjt : j < T.length
                · have cT : w.cell? ⟨bt, ot + j, none⟩ = some (.string T[j]) := by
                    rw [hct.out j (by simpa using hjt)]; simp [hjt]
                  have HT := Lib.hid (show ∀ (hq : j < T.length), T[j] = T[j] from fun _ => rfl)
                  obtain ⟨x, hx⟩ : ∃ x, x = T[j] := ⟨_, rfl⟩
                  rw [← hx] at cT
                  have HX := Lib.hid hx
                  clear hx HT
                  have hsl : sumT (T.take j) ≤ 160000 := by have h1 := sumT_le _ HJ.out; rw [List.length_take] at h1; omega
                  generalize hz : sumT (T.take j) = z at *
                  have HZ := Lib.hid hz
                  clear hz
                  by_cases hxs : x.size ≤ 400
                  · go_wp2_with fail
                    go_round
                    case rel =>
                      have HY := Lib.hid (show ∀ y ∈ T.take (j + 1), y.size ≤ 400 by
                        rw [List.take_succ_eq_append_getElem hjt]
                        intro y hy
                        rcases List.mem_append.1 hy with h1 | h1
                        · exact HJ.out y h1
                        · simp at h1; rw [h1, ← HX.out]; exact hxs)
                      exact ⟨_, _, _, ⟨j + 1, by omega, rfl, m + S.size + L.length + T.length + sumT (T.take (j + 1)), rfl, rfl, HY.out⟩, rfl, congrArg _ (by rw [sumT_succ T j hjt, HZ.out, ← HX.out]; omega), by go_num⟩
                    case measure => simp [intOf]; omega
                  · go_wp2_with fail
                    go_ret
                    exact fewPost_no (not_small hlt (fun h => by rw [← HV.out] at h; exact hxs (h.t x (by rw [HX.out]; exact List.getElem_mem hjt))))
                · obtain rfl : j = T.length := by omega
                  have hsl : sumT (T.take T.length) ≤ 160000 := by have h1 := sumT_le _ HJ.out; rw [List.length_take] at h1; omega
                  have HE := Lib.hid (show m + S.size + L.length + T.length + sumT (T.take T.length) = total (vs.take (k + 1)) by rw [total_succ vs k hlt, ← HM.out, ← HV.out, List.take_length]; unfold bulk; simp only; omega)
                  have HSM := Lib.hid (small_take HS.out hlt (by rw [← HV.out]; exact ⟨gs, gl, gt, by have := HJ.out; rwa [List.take_length] at this⟩))
                  generalize hz : m + S.size + L.length + T.length + sumT (T.take T.length) = z at *
                  clear hz
                  go_wp2_with fail
                  go_roundw
                  case rel => exact ⟨k + 1, _, z, by omega, by go_num, rfl, HE.out, rfl, HSM.out⟩
                  case measure => simp [intOf]; omega
            · go_wp2_with fail
              all_goals
                go_ret
                exact fewPost_no (not_small hlt (fun h => by rw [← HV.out] at h; have h1 : S.size ≤ 400 := h.s; have h2 : L.length ≤ 400 := h.l; have h3 : T.length ≤ 400 := h.tl; omega))
      · obtain rfl : k = vs.length := by omega
        have HE := Lib.hid (show m = total vs by rw [HM.out, List.take_length])
        have HSM := Lib.hid (show ∀ v ∈ vs, v.Small by have := HS.out; rwa [List.take_length] at this)
        go_wp2_with fail
        go_ret
        exact ⟨decide ((m : Int) ≤ 400), rfl, by rw [decide_eq_true_iff]; exact ⟨fun h => ⟨hl, HSM.out, by rw [← HE.out]; omega⟩, fun h => by have := h.2.2; rw [← HE.out] at this; omega⟩, q, rfl⟩
  · go_enter Tryd.func10, Tryd.ntmps10
    go_wp2_with fail
    go_ret
    exact fewPost_no (q := 0) (fun h => hl h.1)
end Go.Proofs.YtenlbohacgamlaaDoor
