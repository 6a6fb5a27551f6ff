/-
  DiskArms: the armed disk beside the other one.
-/
import Derived.Test.YtgebfhikahjahaaEc
namespace Go.Proofs.Ytgebfhikahjahaa
open Go.RowKit Go.Maps WireM DiskM
set_option linter.unusedVariables false
set_option linter.unusedSimpArgs false

/-- The scheduled crash is to come. -/
def Before (n : Int) (k : List Int) (cnt : Int) (d c : St) : Prop := cnt < n ∧ c.armed = 0 ∧ c.down = false ∧ d = c.arm (n - cnt) k
/-- It has come. -/
def Behind (n : Int) (cnt : Int) (d c : St) : Prop := n ≤ cnt ∧ d.down = true ∧ c.down = true ∧ d.now = c.now
theorem arm_tick (c : St) (m : Int) (k : List Int) (hm : 1 ≤ m) : (c.arm m k).tick = c.arm (m - 1) k := by
  have : m.toNat - 1 = (m - 1).toNat := by omega
  show ({ now := c.now, last := c.last, pend := c.pend, down := c.down, lost := c.lost, armed := m.toNat - 1, keep := k } : St) = _
  rw [this]; rfl
theorem tick_zero {c : St} (h : c.armed = 0) : c.tick = c := by
  obtain ⟨a1, a2, a3, a4, a5, a6, a7⟩ := c
  simp only at h
  subst h; rfl
theorem strike_arm (c : St) (m : Int) (k : List Int) (hm : 2 ≤ m) (h0 : c.armed = 0) (e : Int) : (c.arm m k).strike e = ((c.strike e).1.arm (m - 1) k, (c.strike e).2) := by
  have h1 : c.strike e = (c, e) := by unfold St.strike; rw [if_neg (by omega), tick_zero h0]
  have h2 : (c.arm m k).strike e = ((c.arm m k).tick, e) := by
    unfold St.strike
    rw [if_neg (by show ¬ m.toNat = 1; omega)]
  rw [h1, h2, arm_tick c m k (by omega)]
theorem strike_zero {c : St} (h0 : c.armed = 0) (e : Int) : c.strike e = (c, e) := by unfold St.strike; rw [if_neg (by omega), tick_zero h0]
theorem strike_one (c : St) (k : List Int) (e : Int) : (c.arm 1 k).strike e = ((c.arm 0 k).crash k, 9) := by
  unfold St.strike
  rw [if_pos (by rfl), arm_tick c 1 k (by omega)]
  rfl
theorem begin_up {c : St} (hd : c.down = false) (f : Int) : c.begin f = c.strike (if isF f then 0 else 1) := by
  unfold St.begin
  rw [if_neg (show ¬ c.down = true by simp [hd])]
theorem begin_arm (c : St) (m : Int) (k : List Int) (hm : 2 ≤ m) (h0 : c.armed = 0) (hd : c.down = false) (f : Int) : (c.arm m k).begin f = ((c.begin f).1.arm (m - 1) k, (c.begin f).2) := by
  rw [begin_up (c := c.arm m k) hd, begin_up hd, strike_arm c m k hm h0]
theorem begin_zero {c : St} (h0 : c.armed = 0) (hd : c.down = false) (f : Int) : c.begin f = (c, if isF f then 0 else 1) := by
  rw [begin_up hd, strike_zero h0]
theorem begin_one (c : St) (k : List Int) (hd : c.down = false) (f : Int) : (c.arm 1 k).begin f = ((c.arm 0 k).crash k, 9) := by
  rw [begin_up (c := c.arm 1 k) hd, strike_one]
/-- The part that a write puts into the file. -/
def put1 (c : St) (f a : Int) (t : List UInt8) : St := if chk f a t.length = 0 ∧ t ≠ [] then c.add f a.toNat t else c
theorem put1_arm (c : St) (f a : Int) (t : List UInt8) (m : Int) (k : List Int) : put1 (c.arm m k) f a t = (put1 c f a t).arm m k := by unfold put1; split <;> rfl
theorem put1_armed (c : St) (f a : Int) (t : List UInt8) : (put1 c f a t).armed = c.armed := by unfold put1; split <;> rfl
theorem put1_down (c : St) (f a : Int) (t : List UInt8) : (put1 c f a t).down = c.down := by unfold put1; split <;> rfl
theorem write_put1 {c : St} (hd : c.down = false) (f a : Int) (t : List UInt8) : c.write f a t = (put1 c f a t).strike (chk f a t.length) := by
  unfold St.write; rw [if_neg (by simp [hd])]; rfl
theorem arm_down (c : St) (m : Int) (k : List Int) : (c.arm m k).down = c.down := rfl
/-- An act ahead of the crash. -/
theorem act_before {c : St} {m : Int} {k : List Int} (h0 : c.armed = 0) (hd : c.down = false) {A : ActV} (hA : A.d % 8 < 4) (hm : 2 ≤ m) :
    actS (c.arm m k) A = ((actS c A).1.arm (m - 1) k, (actS c A).2) ∧ (actS c A).1.armed = 0 ∧ (actS c A).1.down = false := by
  have hk : A.d % 8 = 0 ∨ A.d % 8 = 1 ∨ A.d % 8 = 2 ∨ A.d % 8 = 3 := by omega
  have W : (c.arm m k).write A.f A.n A.s.data.toList = ((c.write A.f A.n A.s.data.toList).1.arm (m - 1) k, (c.write A.f A.n A.s.data.toList).2) ∧ (c.write A.f A.n A.s.data.toList).1.armed = 0 ∧ (c.write A.f A.n A.s.data.toList).1.down = false := by
    rw [write_put1 (c := c.arm m k) hd, write_put1 hd, put1_arm]
    have ha := (put1_armed c A.f A.n A.s.data.toList).trans h0
    rw [strike_arm _ m k hm ha, strike_zero ha]
    exact ⟨rfl, ha, (put1_down c _ _ _).trans hd⟩
  rcases hk with e | e | e | e
  · unfold actS; simp only [e]; exact W
  · unfold actS; simp only [e]; exact W
  · unfold actS; simp only [e]
    simp only [if_true]
    unfold St.sync
    rw [begin_arm c m k hm h0 hd, begin_zero h0 hd]
    by_cases hf : isF A.f
    · simp only [if_pos hf, ne_eq, not_true_eq_false, if_false]
      by_cases hl : 0 < c.lost
      · rw [if_pos (show 0 < (c.arm (m - 1) k).lost from hl), if_pos hl]
        exact ⟨rfl, h0, hd⟩
      · rw [if_neg (show ¬ 0 < (c.arm (m - 1) k).lost from hl), if_neg hl]
        exact ⟨rfl, h0, hd⟩
    · simp only [if_neg hf, ne_eq, Int.reduceEq, not_false_eq_true, if_true]
      exact ⟨trivial, h0, hd⟩
  · unfold actS; simp only [e]
    simp only [if_true, Int.reduceEq, if_false]
    unfold St.trunc
    rw [begin_arm c m k hm h0 hd, begin_zero h0 hd]
    by_cases hf : isF A.f
    · simp only [if_pos hf, ne_eq, not_true_eq_false, if_false]
      by_cases hl : A.n < 0 ∨ (c.size A.f : Int) < A.n
      · rw [if_pos (show A.n < 0 ∨ ((c.arm (m - 1) k).size A.f : Int) < A.n from hl), if_pos hl]
        exact ⟨rfl, h0, hd⟩
      · rw [if_neg (show ¬ (A.n < 0 ∨ ((c.arm (m - 1) k).size A.f : Int) < A.n) from hl), if_neg hl]
        exact ⟨rfl, h0, hd⟩
    · simp only [if_neg hf, ne_eq, Int.reduceEq, not_false_eq_true, if_true]
      exact ⟨trivial, h0, hd⟩
theorem crash_now {c d : St} (k : List Int) (h1 : d.now = c.now) (h2 : d.last = c.last) (h3 : d.pend = c.pend) (h4 : d.down = false) (h5 : c.down = false) : (d.crash k).now = (c.crash k).now ∧ (d.crash k).down = true ∧ (c.crash k).down = true := by
  unfold St.crash
  rw [if_neg (by simp [h4]), if_neg (by simp [h5]), h1, h2, h3]
  exact ⟨rfl, rfl, rfl⟩
/-- The act with which the crash comes, a write. -/
theorem act_write {c : St} {k : List Int} (h0 : c.armed = 0) (hd : c.down = false) {A : ActV} (hA : A.d % 8 < 2) :
    (actS (c.arm 1 k) A).2 = 9 ∧ (actS (c.arm 1 k) A).1.down = true ∧ ((actS c A).1.crash k).down = true ∧ (actS (c.arm 1 k) A).1.now = ((actS c A).1.crash k).now := by
  have hk : A.d % 8 = 0 ∨ A.d % 8 = 1 := by omega
  have W : ((c.arm 1 k).write A.f A.n A.s.data.toList).2 = 9 ∧ ((c.arm 1 k).write A.f A.n A.s.data.toList).1.down = true ∧ ((c.write A.f A.n A.s.data.toList).1.crash k).down = true ∧ ((c.arm 1 k).write A.f A.n A.s.data.toList).1.now = ((c.write A.f A.n A.s.data.toList).1.crash k).now := by
    rw [write_put1 (c := c.arm 1 k) hd, write_put1 hd, put1_arm, strike_one]
    have ha := (put1_armed c A.f A.n A.s.data.toList).trans h0
    have hdd := (put1_down c A.f A.n A.s.data.toList).trans hd
    rw [strike_zero ha]
    obtain ⟨x1, x2, x3⟩ := crash_now (c := put1 c A.f A.n A.s.data.toList) (d := (put1 c A.f A.n A.s.data.toList).arm 0 k) k rfl rfl rfl hdd hdd
    exact ⟨rfl, x2, x3, x1⟩
  rcases hk with e | e
  · unfold actS; simp only [e]; exact W
  · unfold actS; simp only [e]; exact W
/-- Another one. -/
theorem act_other {c : St} {k : List Int} (hd : c.down = false) {A : ActV} (hA : A.d % 8 = 2 ∨ A.d % 8 = 3) :
    (actS (c.arm 1 k) A).2 = 9 ∧ (actS (c.arm 1 k) A).1.down = true ∧ (c.crash k).down = true ∧ (actS (c.arm 1 k) A).1.now = (c.crash k).now := by
  obtain ⟨x1, x2, x3⟩ := crash_now (c := c) (d := c.arm 0 k) k rfl rfl rfl hd hd
  rcases hA with e | e
  · unfold actS; simp only [e]
    simp only [if_true]
    unfold St.sync
    rw [begin_one c k hd]
    exact ⟨rfl, x2, x3, x1⟩
  · unfold actS; simp only [e]
    simp only [if_true, Int.reduceEq, if_false]
    unfold St.trunc
    rw [begin_one c k hd]
    exact ⟨rfl, x2, x3, x1⟩
/-- An act of a machine that is down. -/
theorem act_behind {d : St} (hd : d.down = true) {A : ActV} (hA : A.d % 8 < 4) : actS d A = (d, 9) := by
  have hk : A.d % 8 = 0 ∨ A.d % 8 = 1 ∨ A.d % 8 = 2 ∨ A.d % 8 = 3 := by omega
  have hb : d.begin A.f = (d, 9) := by unfold St.begin; rw [if_pos hd]
  rcases hk with e | e | e | e
  · unfold actS; simp only [e]; unfold St.write; rw [if_pos hd]; rfl
  · unfold actS; simp only [e]; unfold St.write; rw [if_pos hd]; rfl
  · unfold actS; simp only [e]; simp only [if_true]; unfold St.sync; rw [hb]; rfl
  · unfold actS; simp only [e]; simp only [if_true, Int.reduceEq, if_false]; unfold St.trunc; rw [hb]; rfl
theorem act_lose {A : ActV} (s : St) (hA : A.d % 8 = 4) : actS s A = (s.lose (A.n % 4), 0) := by
  unfold actS; simp only [hA]; rfl
end Go.Proofs.Ytgebfhikahjahaa
