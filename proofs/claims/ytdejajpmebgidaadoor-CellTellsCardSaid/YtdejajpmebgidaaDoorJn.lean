/-
  A CELL, WORKED: the states of the documented example (no program in this text).
-/
import Derived.Test.YtdejajpmebgidaaDoorJm
namespace Go.Proofs.YtdejajpmebgidaaDoor.CellM
open DiskM
set_option linter.unusedVariables false
set_option linter.unusedSimpArgs false

theorem write_now {s : St} {f : Int} (hd : s.down = false) (hf : isF f) (ha : s.armed = 0) {a : Nat} {t : List UInt8} (ht : t ≠ []) (h1 : a + t.length ≤ 16777216) : (s.write f a t).1.now f = put (s.now f) a t := by
  rw [write_is hd hf (by omega) (by omega), if_neg (by omega)]
  show (CellM.put1 s f a t).now f = _
  rw [put1_now _ _ ht, Int.toNat_natCast]
theorem sync_now {s : St} {f : Int} (hd : s.down = false) (hf : isF f) (ha : s.armed = 0) : (s.sync f).1.now = s.now := by
  rw [sync_is hd hf, if_neg (by omega)]
  split <;> rfl
/-- Set without failures, to the end. -/
theorem set_run {s : St} {f : Int} {c : CS} (hd : s.down = false) (hf : isF f) (ha : s.armed = 0) (hl : s.lost = 0) (hc : c.slot = 0 ∨ c.sure = true) {t : List UInt8} (ht : t.length ≤ 65536) (hne : t ≠ []) :
    (setS s f c t).2 = (⟨other c.slot, t, true⟩, 0) ∧ (setS s f c t).1.down = false ∧ (setS s f c t).1.armed = 0 ∧ (setS s f c t).1.lost = 0 ∧ (setS s f c t).1.now f = put (put (s.now f) (slotAt (other c.slot)) t) 0 (hdr (other c.slot) t.length) := by
  have hsl := slotAt_pos (other c.slot)
  unfold setS
  rw [if_neg (by omega), if_neg (by rintro ⟨h1, h2⟩; rcases hc with e | e; exact h1 e; rw [h2] at e; cases e)]
  obtain ⟨a1, a2, a3, a4⟩ := write_ok hd hf ha (a := (slotAt (other c.slot) : Int)) (t := t) (by omega) (by omega)
  have an := write_now hd hf ha (a := slotAt (other c.slot)) hne (by omega)
  unfold set2
  rw [if_neg (by simp [a1])]
  generalize (s.write f (slotAt (other c.slot) : Int) t).1 = s1 at *
  obtain ⟨b1, b2, b3, b4⟩ := sync_ok a2 hf a3 (a4.trans hl)
  have bn := sync_now a2 hf a3
  rw [if_neg (by simp [b1])]
  generalize (s1.sync f).1 = s2 at *
  obtain ⟨c1, c2, c3, c4⟩ := write_ok b2 hf b3 (a := 0) (t := hdr (other c.slot) t.length) (by omega) (by rw [hdr_len]; decide)
  have cn := write_now b2 hf b3 (a := 0) (t := hdr (other c.slot) t.length) (by simp [hdr]) (by rw [hdr_len]; decide)
  rw [if_neg (by simp [c1])]
  have e0 : ((0 : Nat) : Int) = 0 := rfl
  rw [e0] at cn
  generalize (s2.write f 0 (hdr (other c.slot) t.length)).1 = s3 at *
  obtain ⟨d1, d2, d3, d4⟩ := sync_ok c2 hf c3 (c4.trans b4)
  have dn := sync_now c2 hf c3
  refine ⟨by rw [d1]; rfl, d2, d3, d4, ?_⟩
  rw [dn, cn, bn, an]
def ex1 : St := (setS St.new 3 ⟨0, [], false⟩ [97]).1
def ex2 : St := (setS ex1 3 ⟨1, [97], true⟩ [98, 99]).1
theorem f3 : isF 3 := by unfold isF; omega
theorem ex1_is : (setS St.new 3 ⟨0, [], false⟩ [97]).2 = (⟨1, [97], true⟩, 0) ∧ ex1.down = false ∧ ex1.armed = 0 ∧ ex1.lost = 0 ∧ ex1.now 3 = put (put [] 64 [97]) 0 (hdr 1 1) :=
  set_run (s := St.new) (f := 3) (c := ⟨0, [], false⟩) (t := [97]) rfl f3 rfl rfl (.inl rfl) (by decide) (by simp)
theorem ex2_is : (setS ex1 3 ⟨1, [97], true⟩ [98, 99]).2 = (⟨2, [98, 99], true⟩, 0) ∧ ex2.down = false ∧ ex2.armed = 0 ∧ ex2.lost = 0 ∧ ex2.now 3 = put (put (put (put [] 64 [97]) 0 (hdr 1 1)) 131072 [98, 99]) 0 (hdr 2 2) := by
  obtain ⟨h1, h2, h3, h4, h5⟩ := ex1_is
  have := set_run (s := ex1) (f := 3) (c := ⟨1, [97], true⟩) (t := [98, 99]) h2 f3 h3 h4 (.inr rfl) (by decide) (by simp)
  rw [h5] at this
  exact this
theorem exN_at (i : Nat) : at0 (put (put (put (put [] 64 [97]) 0 (hdr 1 1)) 131072 [98, 99]) 0 (hdr 2 2)) i = if i < 5 then at0 (hdr 2 2) i else if i = 131072 then 98 else if i = 131073 then 99 else if i = 64 then 97 else 0 := by
  rw [put_at, hdr_len, put_at, put_at, hdr_len, put_at]
  by_cases h1 : i < 5
  · rw [if_pos ⟨by omega, by omega⟩, if_pos h1, Nat.sub_zero]
  · rw [if_neg (by omega), if_neg h1]
    by_cases h2 : i = 131072
    · subst h2; rfl
    · rw [if_neg h2]
      by_cases h3 : i = 131073
      · subst h3; rfl
      · rw [if_neg h3, if_neg (by simp only [List.length_cons, List.length_nil]; omega), if_neg (by omega)]
        by_cases h4 : i = 64
        · subst h4; rfl
        · rw [if_neg h4, if_neg (by simp only [List.length_cons, List.length_nil]; omega)]
          simp [at0]
theorem exN_len : (put (put (put (put [] 64 [97]) 0 (hdr 1 1)) 131072 [98, 99]) 0 (hdr 2 2)).length = 131074 := by
  rw [put_len, put_len, put_len, put_len, hdr_len, hdr_len]
  simp only [List.length_cons, List.length_nil]
  omega
theorem ex_reads : (ex2.now 3).take 6 = [2, 2, 0, 0, 0, 0] ∧ ((ex2.now 3).drop 64).take 1 = [97] ∧ ((ex2.now 3).drop 131072).take 9 = [98, 99] := by
  rw [ex2_is.2.2.2.2]
  have hl := exN_len
  have ha := exN_at
  generalize put (put (put (put [] 64 [97]) 0 (hdr 1 1)) 131072 [98, 99]) 0 (hdr 2 2) = N at *
  refine ⟨ext_at (by rw [List.length_take, hl]; decide) (fun i => ?_), ext_at (by rw [List.length_take, List.length_drop, hl]; decide) (fun i => ?_), ext_at (by rw [List.length_take, List.length_drop, hl]; decide) (fun i => ?_)⟩
  · rw [at0_take]
    split
    · rw [ha]
      have c : i = 0 ∨ i = 1 ∨ i = 2 ∨ i = 3 ∨ i = 4 ∨ i = 5 := by omega
      rcases c with rfl | rfl | rfl | rfl | rfl | rfl <;> rfl
    · rw [at0_ge (by simp only [List.length_cons, List.length_nil]; omega)]
  · rw [at0_take]
    split
    · rw [at0_drop, ha]
      have c : i = 0 := by omega
      subst c; rfl
    · rw [at0_ge (by simp only [List.length_cons, List.length_nil]; omega)]
  · rw [at0_take]
    split
    · rw [at0_drop, ha]
      by_cases h0 : i = 0
      · subst h0; rfl
      · by_cases h1 : i = 1
        · subst h1; rfl
        · rw [if_neg (by omega), if_neg (by omega), if_neg (by omega), if_neg (by omega), at0_ge (by simp only [List.length_cons, List.length_nil]; omega)]
    · rw [at0_ge (by simp only [List.length_cons, List.length_nil]; omega)]
end Go.Proofs.YtdejajpmebgidaaDoor.CellM
