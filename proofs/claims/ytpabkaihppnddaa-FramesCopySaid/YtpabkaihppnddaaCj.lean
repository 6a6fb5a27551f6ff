/-
  THE REFERENCE: Set, Fill.
-/
import Derived.Test.YtpabkaihppnddaaCi
namespace Go.Proofs.Ytpabkaihppnddaa
open Go.RowKit
set_option linter.unusedVariables false
set_option linter.unusedSimpArgs false
set_option maxRecDepth 100000
theorem data_ext {a b : ByteArray} (h : a.data.toList = b.data.toList) : a = b := by
  cases a; cases b; simp at h; rw [h]
theorem set_string (q : List UInt8) (k : Nat) (b : UInt8) (hk : k < q.length) : (bs q).extract 0 k ++ (⟨#[b]⟩ : ByteArray) ++ (bs q).extract (k + 1) q.length = bs (q.set k b) := by
  apply data_ext
  rw [List.set_eq_take_append_cons_drop, if_pos hk]
  simp [bs, ByteArray.data_append, ByteArray.data_extract, List.extract_eq_take_drop]
  exact List.take_of_length_le (by rw [List.length_drop]; omega)
theorem fill_string (s : ByteArray) : s.extract 0 (min s.size 64) ++ bs (List.replicate (64 - min s.size 64) 0) = bs (fillOf s) := by
  apply data_ext
  unfold fillOf
  have h : s.data.toList.take (min s.size 64) = s.data.toList.take 64 := by
    rcases Nat.le_total s.size 64 with h | h
    · rw [Nat.min_eq_left h, List.take_of_length_le (by simp), List.take_of_length_le (by simpa using h)]
    · rw [Nat.min_eq_right h]
  simp only [ByteArray.data_append, ByteArray.data_extract, Array.toList_append, Array.toList_extract, List.extract_eq_take_drop, List.drop_zero, Nat.sub_zero, h]
  rfl
section
variable {w0 w : World} {S : Nat → Prop} {l : List Kd}
set_option maxHeartbeats 1000000 in
theorem Tog.rset (h : Tog w0 S w l) {i p : Nat} {L : Fm} (hi : l[i]? = some (kRef p L)) (f at' : Int) (b : UInt8) (hf : InI f) : Calls Try.prog 32 #[.pointer (some ⟨p, 0, none⟩), .int .i64 f, .int .i64 at', .int .u8 (b.toNat : Int)] w fun e w' => e = .returned (.int .i64 (L.put f at' b).2) ∧ Tog w0 S w' (l.set i (kRef p (L.put f at' b).1)) := by
  have HAS := Lib.hid (h.rhas hi f hf)
  have hle := (h.okRef hi).len
  cases hp : L.pg f with
  | none =>
    have E : L.put f at' b = (L, 4) := by unfold Fm.put; rw [hp]
    have FIN := Lib.hid (show Tog w0 S w (l.set i (kRef p L)) by rw [Tog.sameAt hi]; exact h)
    have e1 : L.has f = false := by unfold Fm.has; rw [hp]; rfl
    rw [E]
    rw [e1] at HAS
    clear h hi E e1 hp
    go_enter Try.func32, Try.ntmps32
    go_wp2_with (go_at_call 16; refine HAS.out.mono ?_; rintro e w' ⟨rfl, rfl⟩)
    go_ret
    exact ⟨rfl, FIN.out⟩
  | some q =>
    have e1 : L.has f = true := by unfold Fm.has; rw [hp]; rfl
    rw [e1] at HAS
    obtain ⟨m, rfl, hm, hq⟩ := Fm.pg_some hp
    by_cases hin : 0 ≤ at' ∧ at' < 64
    · obtain ⟨h0, h1⟩ := hin
      obtain ⟨k, rfl⟩ : ∃ k : Nat, at' = k := ⟨at'.toNat, by omega⟩
      have E : L.put (m : Int) (k : Int) b = (L.set m (some (q.set k b)), 0) := by unfold Fm.put; rw [hp]; simp only [Int.toNat_natCast]; rw [if_pos ⟨h0, h1⟩]
      have ok2 := (h.okRef hi).put (m : Int) (k : Int) b
      have hql := (h.okRef hi).sz m q hq
      rw [E] at ok2 ⊢
      have hd := h.drew
      have HA := (h.alloc (.cells #[.int .u8 (b.toNat : Int)] 5)).drew
      obtain ⟨a, c, c0, H⟩ := h.refAt hi
      obtain ⟨g, rfl, cb, fb, _⟩ := H m _ hq
      obtain ⟨a2, c2, d0, H2⟩ := HA.refAt hi
      obtain ⟨g2, rfl, d1, f1, ST⟩ := H2 m _ hq
      have dd0 : (w.alloc (.cells #[.int .u8 (b.toNat : Int)] 5)).drew.cell? ⟨p, 0, none⟩ = w.cell? ⟨p, 0, none⟩ := (Lib.cell?_alloc_some _ c0).trans c0.symm
      rw [dd0, c0] at d0
      simp at d0
      obtain ⟨rfl, rfl⟩ := d0
      rw [c0] at dd0
      have CV : (convert 46 9 (.slice (some ⟨w.heap.size, 0, none⟩) 1 1)).run Try.prog (w.alloc (.cells #[.int .u8 (b.toNat : Int)] 5)).drew = .ok (.string ⟨#[b]⟩) (w.alloc (.cells #[.int .u8 (b.toNat : Int)] 5)).drew := freshString w [b]
      have sz : (bs q).size = 64 := hql
      have ss := set_string q k b (by omega)
      rw [hql] at ss
      have FIN := ST (some (q.set k b)) ok2
      rw [Option.getD_some, ← ss] at FIN
      have FIN := Lib.hid FIN
      have cb' : w.cell? ⟨g, m, none⟩ = some (.string (bs q)) := cb
      have d1' : (w.alloc (.cells #[.int .u8 (b.toNat : Int)] 5)).drew.cell? ⟨g, m, none⟩ = some (.string (bs q)) := d1
      generalize bs q = s at *
      have g0 : (0 : Int) ≤ (m : Int) := by omega
      have g1 : (m : Int) < (L.length : Int) := by omega
      have w1 : wrap64 ((k : Int) + 1) = (k : Int) + 1 := by unfold wrap64; omega
      have hk64 : (k : Int) ≤ 64 := by omega
      have hk65 : (k : Int) + 1 ≤ 64 := by omega
      have hk66 : (0 : Int) ≤ (k : Int) + 1 := by omega
      have hk67 : ((k : Int) + 1).toNat = k + 1 := by omega
      clear h hi hp hq E e1 ok2 HA H H2 ST cb d1 ss hd
      go_enter Try.func32, Try.ntmps32
      go_upto_region 5 with (go_at_call 16; refine HAS.out.mono ?_; rintro e w' ⟨rfl, hw⟩; subst w')
      go_region
      go_wp2
      go_ret
      exact ⟨rfl, FIN.out⟩
    · have E : L.put (m : Int) at' b = (L, 3) := by unfold Fm.put; rw [hp]; exact if_neg hin
      have FIN := Lib.hid (show Tog w0 S w (l.set i (kRef p L)) by rw [Tog.sameAt hi]; exact h)
      rw [E]
      clear h hi E e1 hp hq
      by_cases h0 : 0 ≤ at'
      · have h1 : ¬ at' < 64 := fun e => hin ⟨h0, e⟩
        clear hin
        go_enter Try.func32, Try.ntmps32
        go_wp2_with (go_at_call 16; refine HAS.out.mono ?_; rintro e w' ⟨rfl, rfl⟩)
        go_ret
        exact ⟨rfl, FIN.out⟩
      · clear hin
        go_enter Try.func32, Try.ntmps32
        go_wp2_with (go_at_call 16; refine HAS.out.mono ?_; rintro e w' ⟨rfl, rfl⟩)
        go_ret
        exact ⟨rfl, FIN.out⟩
end
end Go.Proofs.Ytpabkaihppnddaa
