/-
  THE REFERENCE: Unlines.
-/
import Derived.Test.YteccccpjhpbebaaGreatDoorUf
import Derived.BigRegion
namespace Go.Proofs.YteccccpjhpbebaaGreatDoor
open Go.RowKit WireM
set_option linter.unusedVariables false
set_option linter.unusedSimpArgs false

theorem one_string_at (W : World) (g : Nat) (c : UInt8) (h : W.cell? ⟨g, 0, none⟩ = some (.int .u8 c.toNat)) :
    (convert 42 9 (.slice (some ⟨g, 0, none⟩) 1 1)).run Tryz.prog W = .ok (.string (bs [c])) W := by
  refine run_convert_bytes_back (P := Tryz.prog) W 42 9 5 ⟨g, 0, none⟩ 1 [c] Tryz.underlying42 Tryz.underlying5 Tryz.underlying9 ?_
  intro j hj
  match j, hj with
  | 0, _ => simpa [Addr.add] using h
set_option maxHeartbeats 2000000 in
set_option maxRecDepth 100000 in
theorem runlines_any (a : Option Addr) (cap : Nat) (L : List ByteArray) (w : World) (hr : (unl (L.map (·.data.toList))).length ≤ 1000000000)
    (hc : CellsAt w a (L.map Value.string)) :
    Calls Tryz.prog 17 #[.slice a L.length cap] w fun e w' => e = .returned (.string (bs (unl (L.map (·.data.toList))))) ∧ Below w.heap.size w w' := by
  have hll : L.length ≤ 1000000000 := by
    have := lines_sum (L.map (·.data.toList))
    rw [List.length_map] at this
    omega
  have hm : (L.length : Int) ≤ 1000000000 := by omega
  have HL := Lib.hid (fun k => Nat.le_trans (unlTo_mono L k) hr)
  have HA := Lib.hid (unlTo_all L)
  clear hr
  go_enter Tryz.func17, Tryz.ntmps17
  go_wp2_with fail
  go_loopw [4, 3] (fun i x wr => ∃ (k : Nat) (N : ByteArray), k ≤ L.length ∧ i = .int .i64 k ∧ x = .string N ∧ N.data.toList = unlTo L k ∧ Below w.heap.size w wr) (fun i _ _ => L.length - (intOf i).toNat)
  case atStart => exact ⟨0, ⟨#[]⟩, Nat.zero_le _, rfl, rfl, rfl, Below.refl _ _⟩
  case round =>
    obtain ⟨k, N, hk, rfl, rfl, hN, bw⟩ := hrel
    have hNl : N.size ≤ 1000000000 := by
      have h1 := HL.out k
      have h2 : N.data.toList.length = N.size := by simp
      rw [← hN] at h1; omega
    have HN := Lib.hid hN
    clear hN
    by_cases hlt : k < L.length
    · have hlz : (k : Int) < L.length := by omega
      have HS := Lib.hid (unlTo_succ L k hlt)
      rcases hc.below bw with hc' | ⟨b, o, rfl, hbs, hcells⟩
      · simp at hc'; subst hc'; simp at hlt
      have hcell : wr.cell? ⟨b, o + k, none⟩ = some (.string (L.getD k .empty)) := by
        rw [hcells k (by simpa using hlt)]; simp [List.getD, hlt]
      have hxs : (L.getD k .empty).size ≤ 1000000000 := by
        have h1 := HL.out (k + 1)
        rw [HS.out, List.length_append, List.length_append] at h1
        have h2 : (L.getD k .empty).data.toList.length = (L.getD k .empty).size := by simp
        omega
      generalize L.getD k .empty = X at *
      clear hcells hc
      have hone := one_string_at (wr.alloc (.cells #[.int .u8 10] 5)).drew wr.heap.size 10 (by simp)
      have hG : (bs [10]).size ≤ 1 := by decide
      have HG := Lib.hid (bs_data [10])
      generalize bs [10] = G at *
      have z1 : ¬ 9223372036854775807 < N.size + X.size := by omega
      have z2 : ¬ 9223372036854775807 < N.size + X.size + G.size := by omega
      have bw' : Below w.heap.size w (wr.alloc (.cells #[.int .u8 10] 5)).drew := (bw.alloc bw.size _).drew
      have HR := Lib.hid (show ((N ++ X) ++ G).data.toList = unlTo L (k + 1) by
        rw [HS.out, show ((N ++ X) ++ G).data.toList = (N.data.toList ++ X.data.toList) ++ G.data.toList by simp, HN.out, HG.out])
      go_wp2_with fail
      go_region
      all_goals
        go_wp2_with fail
        go_roundw
        case rel => exact ⟨k + 1, (N ++ X) ++ G, by omega, by go_num, rfl, HR.out, bw'⟩
        case measure => simp [intOf]; omega
    · obtain rfl : k = L.length := by omega
      have hlz : ¬ ((L.length : Nat) : Int) < L.length := by omega
      have HE := Lib.hid (show N = bs (unl (L.map (·.data.toList))) from ext (by rw [HN.out, HA.out, bs_data]))
      go_wp2_with fail
      go_ret
      exact ⟨by rw [← HE.out]; rfl, bw⟩
end Go.Proofs.YteccccpjhpbebaaGreatDoor
