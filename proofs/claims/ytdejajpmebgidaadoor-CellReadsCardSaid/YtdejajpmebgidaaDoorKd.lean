/-
  PACKAGE cell: Set.
-/
import Derived.Test.YtdejajpmebgidaaDoorKc
namespace Go.Proofs.YtdejajpmebgidaaDoor
open Go.RowKit Go.Maps WireM DiskM CellM
set_option linter.unusedVariables false
set_option linter.unusedSimpArgs false
set_option maxRecDepth 100000

/-- A disk and a cell on it, among other things. -/
def DC (T : TypeId) (l : List Kd) (i j p z : Nat) (f : Int) (s : St) (c : CS) : List Kd := (l.set i (kDisk p s)).set j (kCell T z p f c)
section
variable {T : TypeId} {l : List Kd} {i j p z : Nat} {f : Int} {s s' : St} {c c' : CS}
theorem DC_i (hij : i ≠ j) (hi : i < l.length) : (DC T l i j p z f s c)[i]? = some (kDisk p s) := by
  unfold DC; rw [List.getElem?_set_ne (fun h => hij h.symm), List.getElem?_set_self hi]
theorem DC_j (hj : j < l.length) : (DC T l i j p z f s c)[j]? = some (kCell T z p f c) := by
  unfold DC; rw [List.getElem?_set_self (by rw [List.length_set]; exact hj)]
theorem DC_set_i (hij : i ≠ j) : (DC T l i j p z f s c).set i (kDisk p s') = DC T l i j p z f s' c := by
  unfold DC; rw [List.set_comm _ _ (fun h => hij h.symm), List.set_set]
theorem DC_set_j : (DC T l i j p z f s c).set j (kCell T z p f c') = DC T l i j p z f s c' := by
  unfold DC; rw [List.set_set]
end
theorem bs_len (t : List UInt8) : (bs t).size = t.length := rfl
theorem DC.write {w0 w : World} {T : TypeId} {l : List Kd} {i j p z : Nat} {f : Int} {s : St} {c : CS} (hij : i ≠ j) (hi : i < l.length) (h : Tog w0 w (DC T l i j p z f s c)) (g a : Int) (t : List UInt8) (ht : t.length ≤ 1099511627776) :
    Calls Tryd.prog 28 #[.pointer (some ⟨p, 0, none⟩), .int .i64 g, .int .i64 a, .string (bs t)] w fun e w' => e = .returned (.int .i64 (s.write g a t).2) ∧ Tog w0 w' (DC T l i j p z f (s.write g a t).1 c) := by
  have := h.write (DC_i hij hi) g a (bs t) (by rw [bs_len]; exact ht)
  rw [DC_set_i hij] at this
  exact this
theorem DC.sync {w0 w : World} {T : TypeId} {l : List Kd} {i j p z : Nat} {f : Int} {s : St} {c : CS} (hij : i ≠ j) (hi : i < l.length) (h : Tog w0 w (DC T l i j p z f s c)) (g : Int) :
    Calls Tryd.prog 33 #[.pointer (some ⟨p, 0, none⟩), .int .i64 g] w fun e w' => e = .returned (.int .i64 (s.sync g).2) ∧ Tog w0 w' (DC T l i j p z f (s.sync g).1 c) := by
  have := h.sync (DC_i hij hi) g
  rw [DC_set_i hij] at this
  exact this
theorem DC.secure {w0 w : World} {l : List Kd} {i j p z : Nat} {f : Int} {s : St} {c : CS} (hij : i ≠ j) (hi : i < l.length) (hj : j < l.length) (h : Tog w0 w (DC 61 l i j p z f s c)) :
    Calls Tryd.prog 32 #[.pointer (some ⟨z, 0, none⟩)] w fun e w' => e = .returned (.int .i64 (s.sync f).2) ∧ Tog w0 w' (DC 61 l i j p z f (s.sync f).1 { c with sure := decide ((s.sync f).2 = 0) }) := by
  have := secure_any h (DC_i hij hi) (DC_j hj) hij
  rw [DC_set_i hij, DC_set_j] at this
  exact this
theorem tog_drew {w0 w : World} {l : List Kd} (h : Tog w0 w l) : Tog w0 w.drew l := h.on ⟨rfl, rfl, rfl, Nat.le_refl _, fun _ _ => rfl⟩
/-- What the calls of Set are told of the cell. -/
structure CF3 (W : World) (z p : Nat) (f : Int) : Prop where
  c0 : W.cell? ⟨z, 0, none⟩ = some (.pointer (some ⟨p, 0, none⟩))
  c1 : W.cell? ⟨z, 1, none⟩ = some (.int .i64 f)
theorem cf3 {W : World} {z p : Nat} {f : Int} {c : CS} (h : CellF W z p f c) : CF3 W z p f := ⟨h.c0, h.c1⟩
/-- The last three stores of Set. -/
theorem DC.store3 {w0 w : World} {T : TypeId} {l : List Kd} {i j p z : Nat} {f : Int} {s : St} {c : CS} (hj : j < l.length) (h : Tog w0 w (DC T l i j p z f s c)) (k : Nat) (t : List UInt8) :
    Tog w0 (((w.setCell ⟨z, 2, none⟩ (.int .i64 (k : Int))).setCell ⟨z, 3, none⟩ (.string (bs t))).setCell ⟨z, 4, none⟩ (.bool false)) (DC T l i j p z f s ⟨k, t, false⟩) := by
  have h1 := h.cset (DC_j hj) 2 (.int .i64 (k : Int)) { c with slot := k } rfl
  rw [DC_set_j] at h1
  have h2 := h1.cset (DC_j hj) 3 (.string (bs t)) { c with slot := k, val := t } rfl
  rw [DC_set_j] at h2
  have h3 := h2.cset (DC_j hj) 4 (.bool false) { c with slot := k, val := t, sure := false } rfl
  rw [DC_set_j] at h3
  exact h3
set_option maxHeartbeats 16000000 in
theorem set2_walk {w0 w : World} {l : List Kd} {i j p z : Nat} {f : Int} {s0 s : St} {c0 c : CS} (hij : i ≠ j) (hi : i < l.length) (hj : j < l.length) (h0 : Tog w0 w (DC 61 l i j p z f s0 c0)) (hS : Slots w0) (t : List UInt8) (ht : t.length ≤ 65536)
    (hpre : (c0.slot = 0 ∧ s = s0 ∧ c = c0) ∨ (c0.slot ≠ 0 ∧ c0.sure = true ∧ s = s0 ∧ c = c0) ∨ (c0.slot ≠ 0 ∧ c0.sure = false ∧ (s0.sync f).2 = 0 ∧ s = (s0.sync f).1 ∧ c = { c0 with sure := true })) :
    Calls Tryd.prog 11 #[.pointer (some ⟨z, 0, none⟩), .string (bs t)] w fun e w' => e = .returned (.int .i64 (set2 s f c t).2.2) ∧ Tog w0 w' (DC 61 l i j p z f (set2 s f c t).1 (set2 s f c t).2.1) := by
  have F := h0.cellF (DC_j hj)
  have y2 := F.c2
  have y4 := F.c4
  have hsl : c.slot = c0.slot := by
    rcases hpre with h | h | h
    · rw [h.2.2]
    · rw [h.2.2.2]
    · rw [h.2.2.2.2]
  have SEC := Lib.hid (DC.secure hij hi hj h0)
  have hlen : (bs t).size = t.length := rfl
  have g0 : ¬ (65536 : Int) < ((bs t).size : Int) := by rw [hlen]; omega
  have WR := Lib.hid (fun W (hW : Tog w0 W (DC 61 l i j p z f s c)) => DC.write hij hi hW f (slotAt (other c.slot)) t (by omega))
  obtain ⟨k, hk⟩ : ∃ k, k = other c.slot := ⟨_, rfl⟩
  have hk12 := other_k c.slot
  rw [← hk] at hk12 WR
  obtain ⟨s1, hs1⟩ : ∃ s1, s1 = (s.write f (slotAt k) t).1 := ⟨_, rfl⟩
  obtain ⟨r1, hr1⟩ : ∃ r1, r1 = (s.write f (slotAt k) t).2 := ⟨_, rfl⟩
  rw [← hs1, ← hr1] at WR
  have SY := Lib.hid (fun W (hW : Tog w0 W (DC 61 l i j p z f s1 c)) => DC.sync hij hi hW f)
  obtain ⟨s2, hs2⟩ : ∃ s2, s2 = (s1.sync f).1 := ⟨_, rfl⟩
  obtain ⟨r2, hr2⟩ : ∃ r2, r2 = (s1.sync f).2 := ⟨_, rfl⟩
  rw [← hs2, ← hr2] at SY
  have WH := Lib.hid (fun W (hW : Tog w0 W (DC 61 l i j p z f s2 c)) => DC.write hij hi hW f 0 (hdr k t.length) (by rw [hdr_len]; decide))
  obtain ⟨s3, hs3⟩ : ∃ s3, s3 = (s2.write f 0 (hdr k t.length)).1 := ⟨_, rfl⟩
  obtain ⟨r3, hr3⟩ : ∃ r3, r3 = (s2.write f 0 (hdr k t.length)).2 := ⟨_, rfl⟩
  rw [← hs3, ← hr3] at WH
  have S3 := Lib.hid (fun W (hW : Tog w0 W (DC 61 l i j p z f s3 c)) => And.intro (hW.cellF (DC_j hj)) (Lib.hid (DC.store3 hj hW k t)))
  have SE := Lib.hid (fun W (hW : Tog w0 W (DC 61 l i j p z f s3 ⟨k, t, false⟩)) => DC.secure hij hi hj hW)
  have HD := Lib.hid (fun W => show Calls Tryd.prog 34 #[.int .i64 (k : Int), .int .i64 ((bs t).size : Int)] W (fun e w' => e = .returned (.string (bs (hdr k t.length))) ∧ Below W.heap.size W w') from formatHeader_any k t.length hk12 ht W)
  have E : set2 s f c t = if r1 ≠ 0 then (s1, c, r1) else if r2 ≠ 0 then (s2, c, r2) else if r3 ≠ 0 then (s3, c, r3) else ((s3.sync f).1, ⟨k, t, decide ((s3.sync f).2 = 0)⟩, (s3.sync f).2) := by
    unfold set2
    rw [← hk, ← hr1, ← hs1, ← hr2, ← hs2, ← hr3, ← hs3]
  rw [E]
  have FF := Lib.hid (fun W s (c : CS) (hW : Tog w0 W (DC 61 l i j p z f s c)) => hW.cellF (DC_j hj))
  have GL := Lib.hid (fun W (l' : List Kd) (hW : Tog w0 W l') => hS.below hW.bel)
  have H0 := Lib.hid h0
  clear E hs1 hr1 hs2 hr2 hs3 hr3 F h0 hS hij hi hj
  have wz0 : IntKind.i64.wrap 0 = 0 := by rfl
  have wz1 : IntKind.i64.wrap 1 = 1 := by rfl
  have hcase : (c0.slot = 1 ∧ k = 2) ∨ (c0.slot ≠ 1 ∧ k = 1) := by
    rw [hk, hsl]; unfold other
    by_cases e : c0.slot = 1
    · exact .inl ⟨e, if_pos e⟩
    · exact .inr ⟨e, if_neg e⟩
  clear hk hsl hk12
  rcases hpre with ⟨hp, rfl, rfl⟩ | ⟨hp, hsu, rfl, rfl⟩ | ⟨hp, hsu, hsy, rfl, rfl⟩
  · rcases hcase with ⟨hc1, rfl⟩ | ⟨hc1, rfl⟩
    · omega
    · have eA : slotAt 1 = 64 := rfl
      rw [eA] at WR
      rw [hp] at y2
      by_cases q1 : r1 = 0
      · rw [if_neg (fun h => h q1)]
        have n1 : (r1 != 0) = false := by simp [q1]
        by_cases q2 : r2 = 0
        · rw [if_neg (fun h => h q2)]
          have n2 : (r2 != 0) = false := by simp [q2]
          by_cases q3 : r3 = 0
          · rw [if_neg (fun h => h q3)]
            have n3 : (r3 != 0) = false := by simp [q3]
            clear q1 q2 q3
            go_enter Tryd.func11, Tryd.ntmps11
            have FA := cf3 (FF.out _ _ _ H0.out)
            have a0 := FA.c0
            have a1 := FA.c1
            have ga := GL.out _ _ H0.out
            have ga1 := ga.one
            have ga2 := ga.two
            clear FA ga
            go_wp2
            have sA : w.drew.cell? ⟨z, 0, none⟩ = some (.pointer (some ⟨p, 0, none⟩)) ∧ w.drew.cell? ⟨z, 1, none⟩ = some (.int .i64 f) ∧ w.drew.cell? ⟨0, 0, none⟩ = some (.int .i64 64) := ⟨a0, a1, ga1⟩
            go_region_held3 (fun w' => w'.cell? ⟨z, 0, none⟩ = some (.pointer (some ⟨p, 0, none⟩)) ∧ w'.cell? ⟨z, 1, none⟩ = some (.int .i64 f) ∧ w'.cell? ⟨0, 0, none⟩ = some (.int .i64 64)) (first | exact sA | exact sB) (first | (go_at_call 28; refine (WR.out _ (by exact tog_drew H0.out)).mono ?_; rintro e w1 ⟨rfl, t1⟩; have sB := (show w1.cell? ⟨z, 0, none⟩ = some (.pointer (some ⟨p, 0, none⟩)) ∧ w1.cell? ⟨z, 1, none⟩ = some (.int .i64 f) ∧ w1.cell? ⟨0, 0, none⟩ = some (.int .i64 64) from ⟨(FF.out _ _ _ t1).c0, (FF.out _ _ _ t1).c1, (GL.out _ _ t1).one⟩); have T1 := Lib.hid t1; clear t1))
            go_wp2
            have sC : w1.drew.cell? ⟨z, 0, none⟩ = some (.pointer (some ⟨p, 0, none⟩)) ∧ w1.drew.cell? ⟨z, 1, none⟩ = some (.int .i64 f) := ⟨sB.1, sB.2.1⟩
            go_region_held3 (fun w' => w'.cell? ⟨z, 0, none⟩ = some (.pointer (some ⟨p, 0, none⟩)) ∧ w'.cell? ⟨z, 1, none⟩ = some (.int .i64 f)) (first | exact sC | exact sD) (first | (go_at_call 33; refine (SY.out _ (by exact tog_drew T1.out)).mono ?_; rintro e w2 ⟨rfl, t2⟩; have sD := (show w2.cell? ⟨z, 0, none⟩ = some (.pointer (some ⟨p, 0, none⟩)) ∧ w2.cell? ⟨z, 1, none⟩ = some (.int .i64 f) from ⟨(FF.out _ _ _ t2).c0, (FF.out _ _ _ t2).c1⟩); have d0 := sD.1; have d1 := sD.2; have T2 := Lib.hid t2; clear t2))
            go_wp2
            have d0d : w2.drew.cell? ⟨z, 0, none⟩ = some (.pointer (some ⟨p, 0, none⟩)) ∧ w2.drew.cell? ⟨z, 1, none⟩ = some (.int .i64 f) := ⟨d0, d1⟩
            go_region_held3 (fun w' => w'.cell? ⟨z, 0, none⟩ = some (.pointer (some ⟨p, 0, none⟩)) ∧ w'.cell? ⟨z, 1, none⟩ = some (.int .i64 f)) (first | exact d0d | exact d3 | exact d4) (first | (go_at_call 34; refine (HD.out _).mono ?_; rintro e w3 ⟨rfl, b3⟩; have T3 := Lib.hid ((tog_drew T2.out).on b3); have d3 := (show w3.cell? ⟨z, 0, none⟩ = some (.pointer (some ⟨p, 0, none⟩)) ∧ w3.cell? ⟨z, 1, none⟩ = some (.int .i64 f) from ⟨(FF.out _ _ _ T3.out).c0, (FF.out _ _ _ T3.out).c1⟩); clear b3) | (go_at_call 28; refine (WH.out _ T3.out).mono ?_; rintro e w4 ⟨rfl, t4⟩; have d4 := (show w4.cell? ⟨z, 0, none⟩ = some (.pointer (some ⟨p, 0, none⟩)) ∧ w4.cell? ⟨z, 1, none⟩ = some (.int .i64 f) from ⟨(FF.out _ _ _ t4).c0, (FF.out _ _ _ t4).c1⟩); have T4 := Lib.hid t4; clear t4))
            obtain ⟨F4, S4⟩ := S3.out _ T4.out
            have e2 := F4.c2
            have e3 := F4.c3
            have e4 := F4.c4
            have z2 := F4.fz 2
            have z3 := F4.fz 3
            have z4 := F4.fz 4
            clear F4 S3
            go_wp2_with (go_at_call 32; refine (SE.out _ S4.out).mono ?_; rintro e w5 ⟨rfl, t5⟩; have T5 := Lib.hid t5; clear t5)
            go_ret
            exact ⟨rfl, T5.out⟩
          · rw [if_pos q3]
            have n3 : (r3 != 0) = true := by simpa using q3
            clear q1 q2 q3
            go_enter Tryd.func11, Tryd.ntmps11
            have FA := cf3 (FF.out _ _ _ H0.out)
            have a0 := FA.c0
            have a1 := FA.c1
            have ga := GL.out _ _ H0.out
            have ga1 := ga.one
            have ga2 := ga.two
            clear FA ga
            go_wp2
            have sA : w.drew.cell? ⟨z, 0, none⟩ = some (.pointer (some ⟨p, 0, none⟩)) ∧ w.drew.cell? ⟨z, 1, none⟩ = some (.int .i64 f) ∧ w.drew.cell? ⟨0, 0, none⟩ = some (.int .i64 64) := ⟨a0, a1, ga1⟩
            go_region_held3 (fun w' => w'.cell? ⟨z, 0, none⟩ = some (.pointer (some ⟨p, 0, none⟩)) ∧ w'.cell? ⟨z, 1, none⟩ = some (.int .i64 f) ∧ w'.cell? ⟨0, 0, none⟩ = some (.int .i64 64)) (first | exact sA | exact sB) (first | (go_at_call 28; refine (WR.out _ (by exact tog_drew H0.out)).mono ?_; rintro e w1 ⟨rfl, t1⟩; have sB := (show w1.cell? ⟨z, 0, none⟩ = some (.pointer (some ⟨p, 0, none⟩)) ∧ w1.cell? ⟨z, 1, none⟩ = some (.int .i64 f) ∧ w1.cell? ⟨0, 0, none⟩ = some (.int .i64 64) from ⟨(FF.out _ _ _ t1).c0, (FF.out _ _ _ t1).c1, (GL.out _ _ t1).one⟩); have T1 := Lib.hid t1; clear t1))
            go_wp2
            have sC : w1.drew.cell? ⟨z, 0, none⟩ = some (.pointer (some ⟨p, 0, none⟩)) ∧ w1.drew.cell? ⟨z, 1, none⟩ = some (.int .i64 f) := ⟨sB.1, sB.2.1⟩
            go_region_held3 (fun w' => w'.cell? ⟨z, 0, none⟩ = some (.pointer (some ⟨p, 0, none⟩)) ∧ w'.cell? ⟨z, 1, none⟩ = some (.int .i64 f)) (first | exact sC | exact sD) (first | (go_at_call 33; refine (SY.out _ (by exact tog_drew T1.out)).mono ?_; rintro e w2 ⟨rfl, t2⟩; have sD := (show w2.cell? ⟨z, 0, none⟩ = some (.pointer (some ⟨p, 0, none⟩)) ∧ w2.cell? ⟨z, 1, none⟩ = some (.int .i64 f) from ⟨(FF.out _ _ _ t2).c0, (FF.out _ _ _ t2).c1⟩); have d0 := sD.1; have d1 := sD.2; have T2 := Lib.hid t2; clear t2))
            go_wp2
            have d0d : w2.drew.cell? ⟨z, 0, none⟩ = some (.pointer (some ⟨p, 0, none⟩)) ∧ w2.drew.cell? ⟨z, 1, none⟩ = some (.int .i64 f) := ⟨d0, d1⟩
            go_region_held3 (fun w' => w'.cell? ⟨z, 0, none⟩ = some (.pointer (some ⟨p, 0, none⟩)) ∧ w'.cell? ⟨z, 1, none⟩ = some (.int .i64 f)) (first | exact d0d | exact d3 | exact d4) (first | (go_at_call 34; refine (HD.out _).mono ?_; rintro e w3 ⟨rfl, b3⟩; have T3 := Lib.hid ((tog_drew T2.out).on b3); have d3 := (show w3.cell? ⟨z, 0, none⟩ = some (.pointer (some ⟨p, 0, none⟩)) ∧ w3.cell? ⟨z, 1, none⟩ = some (.int .i64 f) from ⟨(FF.out _ _ _ T3.out).c0, (FF.out _ _ _ T3.out).c1⟩); clear b3) | (go_at_call 28; refine (WH.out _ T3.out).mono ?_; rintro e w4 ⟨rfl, t4⟩; have d4 := (show w4.cell? ⟨z, 0, none⟩ = some (.pointer (some ⟨p, 0, none⟩)) ∧ w4.cell? ⟨z, 1, none⟩ = some (.int .i64 f) from ⟨(FF.out _ _ _ t4).c0, (FF.out _ _ _ t4).c1⟩); have T4 := Lib.hid t4; clear t4))
            go_wp2
            go_ret
            exact ⟨rfl, T4.out⟩
        · rw [if_pos q2]
          have n2 : (r2 != 0) = true := by simpa using q2
          clear q1 q2
          go_enter Tryd.func11, Tryd.ntmps11
          have FA := cf3 (FF.out _ _ _ H0.out)
          have a0 := FA.c0
          have a1 := FA.c1
          have ga := GL.out _ _ H0.out
          have ga1 := ga.one
          have ga2 := ga.two
          clear FA ga
          go_wp2
          have sA : w.drew.cell? ⟨z, 0, none⟩ = some (.pointer (some ⟨p, 0, none⟩)) ∧ w.drew.cell? ⟨z, 1, none⟩ = some (.int .i64 f) ∧ w.drew.cell? ⟨0, 0, none⟩ = some (.int .i64 64) := ⟨a0, a1, ga1⟩
          go_region_held3 (fun w' => w'.cell? ⟨z, 0, none⟩ = some (.pointer (some ⟨p, 0, none⟩)) ∧ w'.cell? ⟨z, 1, none⟩ = some (.int .i64 f) ∧ w'.cell? ⟨0, 0, none⟩ = some (.int .i64 64)) (first | exact sA | exact sB) (first | (go_at_call 28; refine (WR.out _ (by exact tog_drew H0.out)).mono ?_; rintro e w1 ⟨rfl, t1⟩; have sB := (show w1.cell? ⟨z, 0, none⟩ = some (.pointer (some ⟨p, 0, none⟩)) ∧ w1.cell? ⟨z, 1, none⟩ = some (.int .i64 f) ∧ w1.cell? ⟨0, 0, none⟩ = some (.int .i64 64) from ⟨(FF.out _ _ _ t1).c0, (FF.out _ _ _ t1).c1, (GL.out _ _ t1).one⟩); have T1 := Lib.hid t1; clear t1))
          go_wp2
          have sC : w1.drew.cell? ⟨z, 0, none⟩ = some (.pointer (some ⟨p, 0, none⟩)) ∧ w1.drew.cell? ⟨z, 1, none⟩ = some (.int .i64 f) := ⟨sB.1, sB.2.1⟩
          go_region_held3 (fun w' => w'.cell? ⟨z, 0, none⟩ = some (.pointer (some ⟨p, 0, none⟩)) ∧ w'.cell? ⟨z, 1, none⟩ = some (.int .i64 f)) (first | exact sC | exact sD) (first | (go_at_call 33; refine (SY.out _ (by exact tog_drew T1.out)).mono ?_; rintro e w2 ⟨rfl, t2⟩; have sD := (show w2.cell? ⟨z, 0, none⟩ = some (.pointer (some ⟨p, 0, none⟩)) ∧ w2.cell? ⟨z, 1, none⟩ = some (.int .i64 f) from ⟨(FF.out _ _ _ t2).c0, (FF.out _ _ _ t2).c1⟩); have d0 := sD.1; have d1 := sD.2; have T2 := Lib.hid t2; clear t2))
          go_wp2
          go_ret
          exact ⟨rfl, T2.out⟩
      · rw [if_pos q1]
        have n1 : (r1 != 0) = true := by simpa using q1
        clear q1
        go_enter Tryd.func11, Tryd.ntmps11
        have FA := cf3 (FF.out _ _ _ H0.out)
        have a0 := FA.c0
        have a1 := FA.c1
        have ga := GL.out _ _ H0.out
        have ga1 := ga.one
        have ga2 := ga.two
        clear FA ga
        go_wp2
        have sA : w.drew.cell? ⟨z, 0, none⟩ = some (.pointer (some ⟨p, 0, none⟩)) ∧ w.drew.cell? ⟨z, 1, none⟩ = some (.int .i64 f) ∧ w.drew.cell? ⟨0, 0, none⟩ = some (.int .i64 64) := ⟨a0, a1, ga1⟩
        go_region_held3 (fun w' => w'.cell? ⟨z, 0, none⟩ = some (.pointer (some ⟨p, 0, none⟩)) ∧ w'.cell? ⟨z, 1, none⟩ = some (.int .i64 f) ∧ w'.cell? ⟨0, 0, none⟩ = some (.int .i64 64)) (first | exact sA | exact sB) (first | (go_at_call 28; refine (WR.out _ (by exact tog_drew H0.out)).mono ?_; rintro e w1 ⟨rfl, t1⟩; have sB := (show w1.cell? ⟨z, 0, none⟩ = some (.pointer (some ⟨p, 0, none⟩)) ∧ w1.cell? ⟨z, 1, none⟩ = some (.int .i64 f) ∧ w1.cell? ⟨0, 0, none⟩ = some (.int .i64 64) from ⟨(FF.out _ _ _ t1).c0, (FF.out _ _ _ t1).c1, (GL.out _ _ t1).one⟩); have T1 := Lib.hid t1; clear t1))
        go_wp2
        go_ret
        exact ⟨rfl, T1.out⟩
  · rcases hcase with ⟨hc1, rfl⟩ | ⟨hc1, rfl⟩
    · have eA : slotAt 2 = 131072 := rfl
      rw [eA] at WR
      rw [hc1] at y2
      rw [hsu] at y4
      by_cases q1 : r1 = 0
      · rw [if_neg (fun h => h q1)]
        have n1 : (r1 != 0) = false := by simp [q1]
        by_cases q2 : r2 = 0
        · rw [if_neg (fun h => h q2)]
          have n2 : (r2 != 0) = false := by simp [q2]
          by_cases q3 : r3 = 0
          · rw [if_neg (fun h => h q3)]
            have n3 : (r3 != 0) = false := by simp [q3]
            clear q1 q2 q3
            go_enter Tryd.func11, Tryd.ntmps11
            have FA := cf3 (FF.out _ _ _ H0.out)
            have a0 := FA.c0
            have a1 := FA.c1
            have ga := GL.out _ _ H0.out
            have ga1 := ga.one
            have ga2 := ga.two
            clear FA ga
            go_wp2
            have sA : w.drew.cell? ⟨z, 0, none⟩ = some (.pointer (some ⟨p, 0, none⟩)) ∧ w.drew.cell? ⟨z, 1, none⟩ = some (.int .i64 f) ∧ w.drew.cell? ⟨0, 1, none⟩ = some (.int .i64 131072) := ⟨a0, a1, ga2⟩
            go_region_held3 (fun w' => w'.cell? ⟨z, 0, none⟩ = some (.pointer (some ⟨p, 0, none⟩)) ∧ w'.cell? ⟨z, 1, none⟩ = some (.int .i64 f) ∧ w'.cell? ⟨0, 1, none⟩ = some (.int .i64 131072)) (first | exact sA | exact sB) (first | (go_at_call 28; refine (WR.out _ (by exact tog_drew H0.out)).mono ?_; rintro e w1 ⟨rfl, t1⟩; have sB := (show w1.cell? ⟨z, 0, none⟩ = some (.pointer (some ⟨p, 0, none⟩)) ∧ w1.cell? ⟨z, 1, none⟩ = some (.int .i64 f) ∧ w1.cell? ⟨0, 1, none⟩ = some (.int .i64 131072) from ⟨(FF.out _ _ _ t1).c0, (FF.out _ _ _ t1).c1, (GL.out _ _ t1).two⟩); have T1 := Lib.hid t1; clear t1))
            go_wp2
            have sC : w1.drew.cell? ⟨z, 0, none⟩ = some (.pointer (some ⟨p, 0, none⟩)) ∧ w1.drew.cell? ⟨z, 1, none⟩ = some (.int .i64 f) := ⟨sB.1, sB.2.1⟩
            go_region_held3 (fun w' => w'.cell? ⟨z, 0, none⟩ = some (.pointer (some ⟨p, 0, none⟩)) ∧ w'.cell? ⟨z, 1, none⟩ = some (.int .i64 f)) (first | exact sC | exact sD) (first | (go_at_call 33; refine (SY.out _ (by exact tog_drew T1.out)).mono ?_; rintro e w2 ⟨rfl, t2⟩; have sD := (show w2.cell? ⟨z, 0, none⟩ = some (.pointer (some ⟨p, 0, none⟩)) ∧ w2.cell? ⟨z, 1, none⟩ = some (.int .i64 f) from ⟨(FF.out _ _ _ t2).c0, (FF.out _ _ _ t2).c1⟩); have d0 := sD.1; have d1 := sD.2; have T2 := Lib.hid t2; clear t2))
            go_wp2
            have d0d : w2.drew.cell? ⟨z, 0, none⟩ = some (.pointer (some ⟨p, 0, none⟩)) ∧ w2.drew.cell? ⟨z, 1, none⟩ = some (.int .i64 f) := ⟨d0, d1⟩
            go_region_held3 (fun w' => w'.cell? ⟨z, 0, none⟩ = some (.pointer (some ⟨p, 0, none⟩)) ∧ w'.cell? ⟨z, 1, none⟩ = some (.int .i64 f)) (first | exact d0d | exact d3 | exact d4) (first | (go_at_call 34; refine (HD.out _).mono ?_; rintro e w3 ⟨rfl, b3⟩; have T3 := Lib.hid ((tog_drew T2.out).on b3); have d3 := (show w3.cell? ⟨z, 0, none⟩ = some (.pointer (some ⟨p, 0, none⟩)) ∧ w3.cell? ⟨z, 1, none⟩ = some (.int .i64 f) from ⟨(FF.out _ _ _ T3.out).c0, (FF.out _ _ _ T3.out).c1⟩); clear b3) | (go_at_call 28; refine (WH.out _ T3.out).mono ?_; rintro e w4 ⟨rfl, t4⟩; have d4 := (show w4.cell? ⟨z, 0, none⟩ = some (.pointer (some ⟨p, 0, none⟩)) ∧ w4.cell? ⟨z, 1, none⟩ = some (.int .i64 f) from ⟨(FF.out _ _ _ t4).c0, (FF.out _ _ _ t4).c1⟩); have T4 := Lib.hid t4; clear t4))
            obtain ⟨F4, S4⟩ := S3.out _ T4.out
            have e2 := F4.c2
            have e3 := F4.c3
            have e4 := F4.c4
            have z2 := F4.fz 2
            have z3 := F4.fz 3
            have z4 := F4.fz 4
            clear F4 S3
            go_wp2_with (go_at_call 32; refine (SE.out _ S4.out).mono ?_; rintro e w5 ⟨rfl, t5⟩; have T5 := Lib.hid t5; clear t5)
            go_ret
            exact ⟨rfl, T5.out⟩
          · rw [if_pos q3]
            have n3 : (r3 != 0) = true := by simpa using q3
            clear q1 q2 q3
            go_enter Tryd.func11, Tryd.ntmps11
            have FA := cf3 (FF.out _ _ _ H0.out)
            have a0 := FA.c0
            have a1 := FA.c1
            have ga := GL.out _ _ H0.out
            have ga1 := ga.one
            have ga2 := ga.two
            clear FA ga
            go_wp2
            have sA : w.drew.cell? ⟨z, 0, none⟩ = some (.pointer (some ⟨p, 0, none⟩)) ∧ w.drew.cell? ⟨z, 1, none⟩ = some (.int .i64 f) ∧ w.drew.cell? ⟨0, 1, none⟩ = some (.int .i64 131072) := ⟨a0, a1, ga2⟩
            go_region_held3 (fun w' => w'.cell? ⟨z, 0, none⟩ = some (.pointer (some ⟨p, 0, none⟩)) ∧ w'.cell? ⟨z, 1, none⟩ = some (.int .i64 f) ∧ w'.cell? ⟨0, 1, none⟩ = some (.int .i64 131072)) (first | exact sA | exact sB) (first | (go_at_call 28; refine (WR.out _ (by exact tog_drew H0.out)).mono ?_; rintro e w1 ⟨rfl, t1⟩; have sB := (show w1.cell? ⟨z, 0, none⟩ = some (.pointer (some ⟨p, 0, none⟩)) ∧ w1.cell? ⟨z, 1, none⟩ = some (.int .i64 f) ∧ w1.cell? ⟨0, 1, none⟩ = some (.int .i64 131072) from ⟨(FF.out _ _ _ t1).c0, (FF.out _ _ _ t1).c1, (GL.out _ _ t1).two⟩); have T1 := Lib.hid t1; clear t1))
            go_wp2
            have sC : w1.drew.cell? ⟨z, 0, none⟩ = some (.pointer (some ⟨p, 0, none⟩)) ∧ w1.drew.cell? ⟨z, 1, none⟩ = some (.int .i64 f) := ⟨sB.1, sB.2.1⟩
            go_region_held3 (fun w' => w'.cell? ⟨z, 0, none⟩ = some (.pointer (some ⟨p, 0, none⟩)) ∧ w'.cell? ⟨z, 1, none⟩ = some (.int .i64 f)) (first | exact sC | exact sD) (first | (go_at_call 33; refine (SY.out _ (by exact tog_drew T1.out)).mono ?_; rintro e w2 ⟨rfl, t2⟩; have sD := (show w2.cell? ⟨z, 0, none⟩ = some (.pointer (some ⟨p, 0, none⟩)) ∧ w2.cell? ⟨z, 1, none⟩ = some (.int .i64 f) from ⟨(FF.out _ _ _ t2).c0, (FF.out _ _ _ t2).c1⟩); have d0 := sD.1; have d1 := sD.2; have T2 := Lib.hid t2; clear t2))
            go_wp2
            have d0d : w2.drew.cell? ⟨z, 0, none⟩ = some (.pointer (some ⟨p, 0, none⟩)) ∧ w2.drew.cell? ⟨z, 1, none⟩ = some (.int .i64 f) := ⟨d0, d1⟩
            go_region_held3 (fun w' => w'.cell? ⟨z, 0, none⟩ = some (.pointer (some ⟨p, 0, none⟩)) ∧ w'.cell? ⟨z, 1, none⟩ = some (.int .i64 f)) (first | exact d0d | exact d3 | exact d4) (first | (go_at_call 34; refine (HD.out _).mono ?_; rintro e w3 ⟨rfl, b3⟩; have T3 := Lib.hid ((tog_drew T2.out).on b3); have d3 := (show w3.cell? ⟨z, 0, none⟩ = some (.pointer (some ⟨p, 0, none⟩)) ∧ w3.cell? ⟨z, 1, none⟩ = some (.int .i64 f) from ⟨(FF.out _ _ _ T3.out).c0, (FF.out _ _ _ T3.out).c1⟩); clear b3) | (go_at_call 28; refine (WH.out _ T3.out).mono ?_; rintro e w4 ⟨rfl, t4⟩; have d4 := (show w4.cell? ⟨z, 0, none⟩ = some (.pointer (some ⟨p, 0, none⟩)) ∧ w4.cell? ⟨z, 1, none⟩ = some (.int .i64 f) from ⟨(FF.out _ _ _ t4).c0, (FF.out _ _ _ t4).c1⟩); have T4 := Lib.hid t4; clear t4))
            go_wp2
            go_ret
            exact ⟨rfl, T4.out⟩
        · rw [if_pos q2]
          have n2 : (r2 != 0) = true := by simpa using q2
          clear q1 q2
          go_enter Tryd.func11, Tryd.ntmps11
          have FA := cf3 (FF.out _ _ _ H0.out)
          have a0 := FA.c0
          have a1 := FA.c1
          have ga := GL.out _ _ H0.out
          have ga1 := ga.one
          have ga2 := ga.two
          clear FA ga
          go_wp2
          have sA : w.drew.cell? ⟨z, 0, none⟩ = some (.pointer (some ⟨p, 0, none⟩)) ∧ w.drew.cell? ⟨z, 1, none⟩ = some (.int .i64 f) ∧ w.drew.cell? ⟨0, 1, none⟩ = some (.int .i64 131072) := ⟨a0, a1, ga2⟩
          go_region_held3 (fun w' => w'.cell? ⟨z, 0, none⟩ = some (.pointer (some ⟨p, 0, none⟩)) ∧ w'.cell? ⟨z, 1, none⟩ = some (.int .i64 f) ∧ w'.cell? ⟨0, 1, none⟩ = some (.int .i64 131072)) (first | exact sA | exact sB) (first | (go_at_call 28; refine (WR.out _ (by exact tog_drew H0.out)).mono ?_; rintro e w1 ⟨rfl, t1⟩; have sB := (show w1.cell? ⟨z, 0, none⟩ = some (.pointer (some ⟨p, 0, none⟩)) ∧ w1.cell? ⟨z, 1, none⟩ = some (.int .i64 f) ∧ w1.cell? ⟨0, 1, none⟩ = some (.int .i64 131072) from ⟨(FF.out _ _ _ t1).c0, (FF.out _ _ _ t1).c1, (GL.out _ _ t1).two⟩); have T1 := Lib.hid t1; clear t1))
          go_wp2
          have sC : w1.drew.cell? ⟨z, 0, none⟩ = some (.pointer (some ⟨p, 0, none⟩)) ∧ w1.drew.cell? ⟨z, 1, none⟩ = some (.int .i64 f) := ⟨sB.1, sB.2.1⟩
          go_region_held3 (fun w' => w'.cell? ⟨z, 0, none⟩ = some (.pointer (some ⟨p, 0, none⟩)) ∧ w'.cell? ⟨z, 1, none⟩ = some (.int .i64 f)) (first | exact sC | exact sD) (first | (go_at_call 33; refine (SY.out _ (by exact tog_drew T1.out)).mono ?_; rintro e w2 ⟨rfl, t2⟩; have sD := (show w2.cell? ⟨z, 0, none⟩ = some (.pointer (some ⟨p, 0, none⟩)) ∧ w2.cell? ⟨z, 1, none⟩ = some (.int .i64 f) from ⟨(FF.out _ _ _ t2).c0, (FF.out _ _ _ t2).c1⟩); have d0 := sD.1; have d1 := sD.2; have T2 := Lib.hid t2; clear t2))
          go_wp2
          go_ret
          exact ⟨rfl, T2.out⟩
      · rw [if_pos q1]
        have n1 : (r1 != 0) = true := by simpa using q1
        clear q1
        go_enter Tryd.func11, Tryd.ntmps11
        have FA := cf3 (FF.out _ _ _ H0.out)
        have a0 := FA.c0
        have a1 := FA.c1
        have ga := GL.out _ _ H0.out
        have ga1 := ga.one
        have ga2 := ga.two
        clear FA ga
        go_wp2
        have sA : w.drew.cell? ⟨z, 0, none⟩ = some (.pointer (some ⟨p, 0, none⟩)) ∧ w.drew.cell? ⟨z, 1, none⟩ = some (.int .i64 f) ∧ w.drew.cell? ⟨0, 1, none⟩ = some (.int .i64 131072) := ⟨a0, a1, ga2⟩
        go_region_held3 (fun w' => w'.cell? ⟨z, 0, none⟩ = some (.pointer (some ⟨p, 0, none⟩)) ∧ w'.cell? ⟨z, 1, none⟩ = some (.int .i64 f) ∧ w'.cell? ⟨0, 1, none⟩ = some (.int .i64 131072)) (first | exact sA | exact sB) (first | (go_at_call 28; refine (WR.out _ (by exact tog_drew H0.out)).mono ?_; rintro e w1 ⟨rfl, t1⟩; have sB := (show w1.cell? ⟨z, 0, none⟩ = some (.pointer (some ⟨p, 0, none⟩)) ∧ w1.cell? ⟨z, 1, none⟩ = some (.int .i64 f) ∧ w1.cell? ⟨0, 1, none⟩ = some (.int .i64 131072) from ⟨(FF.out _ _ _ t1).c0, (FF.out _ _ _ t1).c1, (GL.out _ _ t1).two⟩); have T1 := Lib.hid t1; clear t1))
        go_wp2
        go_ret
        exact ⟨rfl, T1.out⟩
    · have eA : slotAt 1 = 64 := rfl
      rw [eA] at WR
      have n0 : ((c.slot : Int) != 0) = true := by simpa using hp
      have nn : ((c.slot : Int) == 1) = false := by rw [beq_eq_false_iff_ne]; omega
      rw [hsu] at y4
      by_cases q1 : r1 = 0
      · rw [if_neg (fun h => h q1)]
        have n1 : (r1 != 0) = false := by simp [q1]
        by_cases q2 : r2 = 0
        · rw [if_neg (fun h => h q2)]
          have n2 : (r2 != 0) = false := by simp [q2]
          by_cases q3 : r3 = 0
          · rw [if_neg (fun h => h q3)]
            have n3 : (r3 != 0) = false := by simp [q3]
            clear q1 q2 q3
            go_enter Tryd.func11, Tryd.ntmps11
            have FA := cf3 (FF.out _ _ _ H0.out)
            have a0 := FA.c0
            have a1 := FA.c1
            have ga := GL.out _ _ H0.out
            have ga1 := ga.one
            have ga2 := ga.two
            clear FA ga
            go_wp2
            have sA : w.drew.cell? ⟨z, 0, none⟩ = some (.pointer (some ⟨p, 0, none⟩)) ∧ w.drew.cell? ⟨z, 1, none⟩ = some (.int .i64 f) ∧ w.drew.cell? ⟨0, 0, none⟩ = some (.int .i64 64) := ⟨a0, a1, ga1⟩
            go_region_held3 (fun w' => w'.cell? ⟨z, 0, none⟩ = some (.pointer (some ⟨p, 0, none⟩)) ∧ w'.cell? ⟨z, 1, none⟩ = some (.int .i64 f) ∧ w'.cell? ⟨0, 0, none⟩ = some (.int .i64 64)) (first | exact sA | exact sB) (first | (go_at_call 28; refine (WR.out _ (by exact tog_drew H0.out)).mono ?_; rintro e w1 ⟨rfl, t1⟩; have sB := (show w1.cell? ⟨z, 0, none⟩ = some (.pointer (some ⟨p, 0, none⟩)) ∧ w1.cell? ⟨z, 1, none⟩ = some (.int .i64 f) ∧ w1.cell? ⟨0, 0, none⟩ = some (.int .i64 64) from ⟨(FF.out _ _ _ t1).c0, (FF.out _ _ _ t1).c1, (GL.out _ _ t1).one⟩); have T1 := Lib.hid t1; clear t1))
            go_wp2
            have sC : w1.drew.cell? ⟨z, 0, none⟩ = some (.pointer (some ⟨p, 0, none⟩)) ∧ w1.drew.cell? ⟨z, 1, none⟩ = some (.int .i64 f) := ⟨sB.1, sB.2.1⟩
            go_region_held3 (fun w' => w'.cell? ⟨z, 0, none⟩ = some (.pointer (some ⟨p, 0, none⟩)) ∧ w'.cell? ⟨z, 1, none⟩ = some (.int .i64 f)) (first | exact sC | exact sD) (first | (go_at_call 33; refine (SY.out _ (by exact tog_drew T1.out)).mono ?_; rintro e w2 ⟨rfl, t2⟩; have sD := (show w2.cell? ⟨z, 0, none⟩ = some (.pointer (some ⟨p, 0, none⟩)) ∧ w2.cell? ⟨z, 1, none⟩ = some (.int .i64 f) from ⟨(FF.out _ _ _ t2).c0, (FF.out _ _ _ t2).c1⟩); have d0 := sD.1; have d1 := sD.2; have T2 := Lib.hid t2; clear t2))
            go_wp2
            have d0d : w2.drew.cell? ⟨z, 0, none⟩ = some (.pointer (some ⟨p, 0, none⟩)) ∧ w2.drew.cell? ⟨z, 1, none⟩ = some (.int .i64 f) := ⟨d0, d1⟩
            go_region_held3 (fun w' => w'.cell? ⟨z, 0, none⟩ = some (.pointer (some ⟨p, 0, none⟩)) ∧ w'.cell? ⟨z, 1, none⟩ = some (.int .i64 f)) (first | exact d0d | exact d3 | exact d4) (first | (go_at_call 34; refine (HD.out _).mono ?_; rintro e w3 ⟨rfl, b3⟩; have T3 := Lib.hid ((tog_drew T2.out).on b3); have d3 := (show w3.cell? ⟨z, 0, none⟩ = some (.pointer (some ⟨p, 0, none⟩)) ∧ w3.cell? ⟨z, 1, none⟩ = some (.int .i64 f) from ⟨(FF.out _ _ _ T3.out).c0, (FF.out _ _ _ T3.out).c1⟩); clear b3) | (go_at_call 28; refine (WH.out _ T3.out).mono ?_; rintro e w4 ⟨rfl, t4⟩; have d4 := (show w4.cell? ⟨z, 0, none⟩ = some (.pointer (some ⟨p, 0, none⟩)) ∧ w4.cell? ⟨z, 1, none⟩ = some (.int .i64 f) from ⟨(FF.out _ _ _ t4).c0, (FF.out _ _ _ t4).c1⟩); have T4 := Lib.hid t4; clear t4))
            obtain ⟨F4, S4⟩ := S3.out _ T4.out
            have e2 := F4.c2
            have e3 := F4.c3
            have e4 := F4.c4
            have z2 := F4.fz 2
            have z3 := F4.fz 3
            have z4 := F4.fz 4
            clear F4 S3
            go_wp2_with (go_at_call 32; refine (SE.out _ S4.out).mono ?_; rintro e w5 ⟨rfl, t5⟩; have T5 := Lib.hid t5; clear t5)
            go_ret
            exact ⟨rfl, T5.out⟩
          · rw [if_pos q3]
            have n3 : (r3 != 0) = true := by simpa using q3
            clear q1 q2 q3
            go_enter Tryd.func11, Tryd.ntmps11
            have FA := cf3 (FF.out _ _ _ H0.out)
            have a0 := FA.c0
            have a1 := FA.c1
            have ga := GL.out _ _ H0.out
            have ga1 := ga.one
            have ga2 := ga.two
            clear FA ga
            go_wp2
            have sA : w.drew.cell? ⟨z, 0, none⟩ = some (.pointer (some ⟨p, 0, none⟩)) ∧ w.drew.cell? ⟨z, 1, none⟩ = some (.int .i64 f) ∧ w.drew.cell? ⟨0, 0, none⟩ = some (.int .i64 64) := ⟨a0, a1, ga1⟩
            go_region_held3 (fun w' => w'.cell? ⟨z, 0, none⟩ = some (.pointer (some ⟨p, 0, none⟩)) ∧ w'.cell? ⟨z, 1, none⟩ = some (.int .i64 f) ∧ w'.cell? ⟨0, 0, none⟩ = some (.int .i64 64)) (first | exact sA | exact sB) (first | (go_at_call 28; refine (WR.out _ (by exact tog_drew H0.out)).mono ?_; rintro e w1 ⟨rfl, t1⟩; have sB := (show w1.cell? ⟨z, 0, none⟩ = some (.pointer (some ⟨p, 0, none⟩)) ∧ w1.cell? ⟨z, 1, none⟩ = some (.int .i64 f) ∧ w1.cell? ⟨0, 0, none⟩ = some (.int .i64 64) from ⟨(FF.out _ _ _ t1).c0, (FF.out _ _ _ t1).c1, (GL.out _ _ t1).one⟩); have T1 := Lib.hid t1; clear t1))
            go_wp2
            have sC : w1.drew.cell? ⟨z, 0, none⟩ = some (.pointer (some ⟨p, 0, none⟩)) ∧ w1.drew.cell? ⟨z, 1, none⟩ = some (.int .i64 f) := ⟨sB.1, sB.2.1⟩
            go_region_held3 (fun w' => w'.cell? ⟨z, 0, none⟩ = some (.pointer (some ⟨p, 0, none⟩)) ∧ w'.cell? ⟨z, 1, none⟩ = some (.int .i64 f)) (first | exact sC | exact sD) (first | (go_at_call 33; refine (SY.out _ (by exact tog_drew T1.out)).mono ?_; rintro e w2 ⟨rfl, t2⟩; have sD := (show w2.cell? ⟨z, 0, none⟩ = some (.pointer (some ⟨p, 0, none⟩)) ∧ w2.cell? ⟨z, 1, none⟩ = some (.int .i64 f) from ⟨(FF.out _ _ _ t2).c0, (FF.out _ _ _ t2).c1⟩); have d0 := sD.1; have d1 := sD.2; have T2 := Lib.hid t2; clear t2))
            go_wp2
            have d0d : w2.drew.cell? ⟨z, 0, none⟩ = some (.pointer (some ⟨p, 0, none⟩)) ∧ w2.drew.cell? ⟨z, 1, none⟩ = some (.int .i64 f) := ⟨d0, d1⟩
            go_region_held3 (fun w' => w'.cell? ⟨z, 0, none⟩ = some (.pointer (some ⟨p, 0, none⟩)) ∧ w'.cell? ⟨z, 1, none⟩ = some (.int .i64 f)) (first | exact d0d | exact d3 | exact d4) (first | (go_at_call 34; refine (HD.out _).mono ?_; rintro e w3 ⟨rfl, b3⟩; have T3 := Lib.hid ((tog_drew T2.out).on b3); have d3 := (show w3.cell? ⟨z, 0, none⟩ = some (.pointer (some ⟨p, 0, none⟩)) ∧ w3.cell? ⟨z, 1, none⟩ = some (.int .i64 f) from ⟨(FF.out _ _ _ T3.out).c0, (FF.out _ _ _ T3.out).c1⟩); clear b3) | (go_at_call 28; refine (WH.out _ T3.out).mono ?_; rintro e w4 ⟨rfl, t4⟩; have d4 := (show w4.cell? ⟨z, 0, none⟩ = some (.pointer (some ⟨p, 0, none⟩)) ∧ w4.cell? ⟨z, 1, none⟩ = some (.int .i64 f) from ⟨(FF.out _ _ _ t4).c0, (FF.out _ _ _ t4).c1⟩); have T4 := Lib.hid t4; clear t4))
            go_wp2
            go_ret
            exact ⟨rfl, T4.out⟩
        · rw [if_pos q2]
          have n2 : (r2 != 0) = true := by simpa using q2
          clear q1 q2
          go_enter Tryd.func11, Tryd.ntmps11
          have FA := cf3 (FF.out _ _ _ H0.out)
          have a0 := FA.c0
          have a1 := FA.c1
          have ga := GL.out _ _ H0.out
          have ga1 := ga.one
          have ga2 := ga.two
          clear FA ga
          go_wp2
          have sA : w.drew.cell? ⟨z, 0, none⟩ = some (.pointer (some ⟨p, 0, none⟩)) ∧ w.drew.cell? ⟨z, 1, none⟩ = some (.int .i64 f) ∧ w.drew.cell? ⟨0, 0, none⟩ = some (.int .i64 64) := ⟨a0, a1, ga1⟩
          go_region_held3 (fun w' => w'.cell? ⟨z, 0, none⟩ = some (.pointer (some ⟨p, 0, none⟩)) ∧ w'.cell? ⟨z, 1, none⟩ = some (.int .i64 f) ∧ w'.cell? ⟨0, 0, none⟩ = some (.int .i64 64)) (first | exact sA | exact sB) (first | (go_at_call 28; refine (WR.out _ (by exact tog_drew H0.out)).mono ?_; rintro e w1 ⟨rfl, t1⟩; have sB := (show w1.cell? ⟨z, 0, none⟩ = some (.pointer (some ⟨p, 0, none⟩)) ∧ w1.cell? ⟨z, 1, none⟩ = some (.int .i64 f) ∧ w1.cell? ⟨0, 0, none⟩ = some (.int .i64 64) from ⟨(FF.out _ _ _ t1).c0, (FF.out _ _ _ t1).c1, (GL.out _ _ t1).one⟩); have T1 := Lib.hid t1; clear t1))
          go_wp2
          have sC : w1.drew.cell? ⟨z, 0, none⟩ = some (.pointer (some ⟨p, 0, none⟩)) ∧ w1.drew.cell? ⟨z, 1, none⟩ = some (.int .i64 f) := ⟨sB.1, sB.2.1⟩
          go_region_held3 (fun w' => w'.cell? ⟨z, 0, none⟩ = some (.pointer (some ⟨p, 0, none⟩)) ∧ w'.cell? ⟨z, 1, none⟩ = some (.int .i64 f)) (first | exact sC | exact sD) (first | (go_at_call 33; refine (SY.out _ (by exact tog_drew T1.out)).mono ?_; rintro e w2 ⟨rfl, t2⟩; have sD := (show w2.cell? ⟨z, 0, none⟩ = some (.pointer (some ⟨p, 0, none⟩)) ∧ w2.cell? ⟨z, 1, none⟩ = some (.int .i64 f) from ⟨(FF.out _ _ _ t2).c0, (FF.out _ _ _ t2).c1⟩); have d0 := sD.1; have d1 := sD.2; have T2 := Lib.hid t2; clear t2))
          go_wp2
          go_ret
          exact ⟨rfl, T2.out⟩
      · rw [if_pos q1]
        have n1 : (r1 != 0) = true := by simpa using q1
        clear q1
        go_enter Tryd.func11, Tryd.ntmps11
        have FA := cf3 (FF.out _ _ _ H0.out)
        have a0 := FA.c0
        have a1 := FA.c1
        have ga := GL.out _ _ H0.out
        have ga1 := ga.one
        have ga2 := ga.two
        clear FA ga
        go_wp2
        have sA : w.drew.cell? ⟨z, 0, none⟩ = some (.pointer (some ⟨p, 0, none⟩)) ∧ w.drew.cell? ⟨z, 1, none⟩ = some (.int .i64 f) ∧ w.drew.cell? ⟨0, 0, none⟩ = some (.int .i64 64) := ⟨a0, a1, ga1⟩
        go_region_held3 (fun w' => w'.cell? ⟨z, 0, none⟩ = some (.pointer (some ⟨p, 0, none⟩)) ∧ w'.cell? ⟨z, 1, none⟩ = some (.int .i64 f) ∧ w'.cell? ⟨0, 0, none⟩ = some (.int .i64 64)) (first | exact sA | exact sB) (first | (go_at_call 28; refine (WR.out _ (by exact tog_drew H0.out)).mono ?_; rintro e w1 ⟨rfl, t1⟩; have sB := (show w1.cell? ⟨z, 0, none⟩ = some (.pointer (some ⟨p, 0, none⟩)) ∧ w1.cell? ⟨z, 1, none⟩ = some (.int .i64 f) ∧ w1.cell? ⟨0, 0, none⟩ = some (.int .i64 64) from ⟨(FF.out _ _ _ t1).c0, (FF.out _ _ _ t1).c1, (GL.out _ _ t1).one⟩); have T1 := Lib.hid t1; clear t1))
        go_wp2
        go_ret
        exact ⟨rfl, T1.out⟩
  · rcases hcase with ⟨hc1, rfl⟩ | ⟨hc1, rfl⟩
    · have eA : slotAt 2 = 131072 := rfl
      rw [eA] at WR
      rw [hc1] at y2
      have aS : ({ c0 with sure := true } : CS).slot = 1 := hc1
      rw [hsu] at y4
      by_cases q1 : r1 = 0
      · rw [if_neg (fun h => h q1)]
        have n1 : (r1 != 0) = false := by simp [q1]
        by_cases q2 : r2 = 0
        · rw [if_neg (fun h => h q2)]
          have n2 : (r2 != 0) = false := by simp [q2]
          by_cases q3 : r3 = 0
          · rw [if_neg (fun h => h q3)]
            have n3 : (r3 != 0) = false := by simp [q3]
            clear q1 q2 q3
            go_enter Tryd.func11, Tryd.ntmps11
            go_wp2_with (go_at_call 32; refine SEC.out.mono ?_; rintro e wA ⟨rfl, tA⟩; rw [hsy] at tA ⊢; have FA := cf3 (FF.out _ _ _ tA); have a0 := FA.c0; have a1 := FA.c1; have a2 := (FF.out _ _ _ tA).c2; have ga := GL.out _ _ tA; have ga1 := ga.one; have ga2 := ga.two; have TA := Lib.hid tA; clear tA SEC FA ga)
            have sA : wA.drew.cell? ⟨z, 0, none⟩ = some (.pointer (some ⟨p, 0, none⟩)) ∧ wA.drew.cell? ⟨z, 1, none⟩ = some (.int .i64 f) ∧ wA.drew.cell? ⟨0, 1, none⟩ = some (.int .i64 131072) := ⟨a0, a1, ga2⟩
            go_region_held3 (fun w' => w'.cell? ⟨z, 0, none⟩ = some (.pointer (some ⟨p, 0, none⟩)) ∧ w'.cell? ⟨z, 1, none⟩ = some (.int .i64 f) ∧ w'.cell? ⟨0, 1, none⟩ = some (.int .i64 131072)) (first | exact sA | exact sB) (first | (go_at_call 28; refine (WR.out _ (by exact tog_drew TA.out)).mono ?_; rintro e w1 ⟨rfl, t1⟩; have sB := (show w1.cell? ⟨z, 0, none⟩ = some (.pointer (some ⟨p, 0, none⟩)) ∧ w1.cell? ⟨z, 1, none⟩ = some (.int .i64 f) ∧ w1.cell? ⟨0, 1, none⟩ = some (.int .i64 131072) from ⟨(FF.out _ _ _ t1).c0, (FF.out _ _ _ t1).c1, (GL.out _ _ t1).two⟩); have T1 := Lib.hid t1; clear t1))
            go_wp2
            have sC : w1.drew.cell? ⟨z, 0, none⟩ = some (.pointer (some ⟨p, 0, none⟩)) ∧ w1.drew.cell? ⟨z, 1, none⟩ = some (.int .i64 f) := ⟨sB.1, sB.2.1⟩
            go_region_held3 (fun w' => w'.cell? ⟨z, 0, none⟩ = some (.pointer (some ⟨p, 0, none⟩)) ∧ w'.cell? ⟨z, 1, none⟩ = some (.int .i64 f)) (first | exact sC | exact sD) (first | (go_at_call 33; refine (SY.out _ (by exact tog_drew T1.out)).mono ?_; rintro e w2 ⟨rfl, t2⟩; have sD := (show w2.cell? ⟨z, 0, none⟩ = some (.pointer (some ⟨p, 0, none⟩)) ∧ w2.cell? ⟨z, 1, none⟩ = some (.int .i64 f) from ⟨(FF.out _ _ _ t2).c0, (FF.out _ _ _ t2).c1⟩); have d0 := sD.1; have d1 := sD.2; have T2 := Lib.hid t2; clear t2))
            go_wp2
            have d0d : w2.drew.cell? ⟨z, 0, none⟩ = some (.pointer (some ⟨p, 0, none⟩)) ∧ w2.drew.cell? ⟨z, 1, none⟩ = some (.int .i64 f) := ⟨d0, d1⟩
            go_region_held3 (fun w' => w'.cell? ⟨z, 0, none⟩ = some (.pointer (some ⟨p, 0, none⟩)) ∧ w'.cell? ⟨z, 1, none⟩ = some (.int .i64 f)) (first | exact d0d | exact d3 | exact d4) (first | (go_at_call 34; refine (HD.out _).mono ?_; rintro e w3 ⟨rfl, b3⟩; have T3 := Lib.hid ((tog_drew T2.out).on b3); have d3 := (show w3.cell? ⟨z, 0, none⟩ = some (.pointer (some ⟨p, 0, none⟩)) ∧ w3.cell? ⟨z, 1, none⟩ = some (.int .i64 f) from ⟨(FF.out _ _ _ T3.out).c0, (FF.out _ _ _ T3.out).c1⟩); clear b3) | (go_at_call 28; refine (WH.out _ T3.out).mono ?_; rintro e w4 ⟨rfl, t4⟩; have d4 := (show w4.cell? ⟨z, 0, none⟩ = some (.pointer (some ⟨p, 0, none⟩)) ∧ w4.cell? ⟨z, 1, none⟩ = some (.int .i64 f) from ⟨(FF.out _ _ _ t4).c0, (FF.out _ _ _ t4).c1⟩); have T4 := Lib.hid t4; clear t4))
            obtain ⟨F4, S4⟩ := S3.out _ T4.out
            have e2 := F4.c2
            have e3 := F4.c3
            have e4 := F4.c4
            have z2 := F4.fz 2
            have z3 := F4.fz 3
            have z4 := F4.fz 4
            clear F4 S3
            go_wp2_with (go_at_call 32; refine (SE.out _ S4.out).mono ?_; rintro e w5 ⟨rfl, t5⟩; have T5 := Lib.hid t5; clear t5)
            go_ret
            exact ⟨rfl, T5.out⟩
          · rw [if_pos q3]
            have n3 : (r3 != 0) = true := by simpa using q3
            clear q1 q2 q3
            go_enter Tryd.func11, Tryd.ntmps11
            go_wp2_with (go_at_call 32; refine SEC.out.mono ?_; rintro e wA ⟨rfl, tA⟩; rw [hsy] at tA ⊢; have FA := cf3 (FF.out _ _ _ tA); have a0 := FA.c0; have a1 := FA.c1; have a2 := (FF.out _ _ _ tA).c2; have ga := GL.out _ _ tA; have ga1 := ga.one; have ga2 := ga.two; have TA := Lib.hid tA; clear tA SEC FA ga)
            have sA : wA.drew.cell? ⟨z, 0, none⟩ = some (.pointer (some ⟨p, 0, none⟩)) ∧ wA.drew.cell? ⟨z, 1, none⟩ = some (.int .i64 f) ∧ wA.drew.cell? ⟨0, 1, none⟩ = some (.int .i64 131072) := ⟨a0, a1, ga2⟩
            go_region_held3 (fun w' => w'.cell? ⟨z, 0, none⟩ = some (.pointer (some ⟨p, 0, none⟩)) ∧ w'.cell? ⟨z, 1, none⟩ = some (.int .i64 f) ∧ w'.cell? ⟨0, 1, none⟩ = some (.int .i64 131072)) (first | exact sA | exact sB) (first | (go_at_call 28; refine (WR.out _ (by exact tog_drew TA.out)).mono ?_; rintro e w1 ⟨rfl, t1⟩; have sB := (show w1.cell? ⟨z, 0, none⟩ = some (.pointer (some ⟨p, 0, none⟩)) ∧ w1.cell? ⟨z, 1, none⟩ = some (.int .i64 f) ∧ w1.cell? ⟨0, 1, none⟩ = some (.int .i64 131072) from ⟨(FF.out _ _ _ t1).c0, (FF.out _ _ _ t1).c1, (GL.out _ _ t1).two⟩); have T1 := Lib.hid t1; clear t1))
            go_wp2
            have sC : w1.drew.cell? ⟨z, 0, none⟩ = some (.pointer (some ⟨p, 0, none⟩)) ∧ w1.drew.cell? ⟨z, 1, none⟩ = some (.int .i64 f) := ⟨sB.1, sB.2.1⟩
            go_region_held3 (fun w' => w'.cell? ⟨z, 0, none⟩ = some (.pointer (some ⟨p, 0, none⟩)) ∧ w'.cell? ⟨z, 1, none⟩ = some (.int .i64 f)) (first | exact sC | exact sD) (first | (go_at_call 33; refine (SY.out _ (by exact tog_drew T1.out)).mono ?_; rintro e w2 ⟨rfl, t2⟩; have sD := (show w2.cell? ⟨z, 0, none⟩ = some (.pointer (some ⟨p, 0, none⟩)) ∧ w2.cell? ⟨z, 1, none⟩ = some (.int .i64 f) from ⟨(FF.out _ _ _ t2).c0, (FF.out _ _ _ t2).c1⟩); have d0 := sD.1; have d1 := sD.2; have T2 := Lib.hid t2; clear t2))
            go_wp2
            have d0d : w2.drew.cell? ⟨z, 0, none⟩ = some (.pointer (some ⟨p, 0, none⟩)) ∧ w2.drew.cell? ⟨z, 1, none⟩ = some (.int .i64 f) := ⟨d0, d1⟩
            go_region_held3 (fun w' => w'.cell? ⟨z, 0, none⟩ = some (.pointer (some ⟨p, 0, none⟩)) ∧ w'.cell? ⟨z, 1, none⟩ = some (.int .i64 f)) (first | exact d0d | exact d3 | exact d4) (first | (go_at_call 34; refine (HD.out _).mono ?_; rintro e w3 ⟨rfl, b3⟩; have T3 := Lib.hid ((tog_drew T2.out).on b3); have d3 := (show w3.cell? ⟨z, 0, none⟩ = some (.pointer (some ⟨p, 0, none⟩)) ∧ w3.cell? ⟨z, 1, none⟩ = some (.int .i64 f) from ⟨(FF.out _ _ _ T3.out).c0, (FF.out _ _ _ T3.out).c1⟩); clear b3) | (go_at_call 28; refine (WH.out _ T3.out).mono ?_; rintro e w4 ⟨rfl, t4⟩; have d4 := (show w4.cell? ⟨z, 0, none⟩ = some (.pointer (some ⟨p, 0, none⟩)) ∧ w4.cell? ⟨z, 1, none⟩ = some (.int .i64 f) from ⟨(FF.out _ _ _ t4).c0, (FF.out _ _ _ t4).c1⟩); have T4 := Lib.hid t4; clear t4))
            go_wp2
            go_ret
            exact ⟨rfl, T4.out⟩
        · rw [if_pos q2]
          have n2 : (r2 != 0) = true := by simpa using q2
          clear q1 q2
          go_enter Tryd.func11, Tryd.ntmps11
          go_wp2_with (go_at_call 32; refine SEC.out.mono ?_; rintro e wA ⟨rfl, tA⟩; rw [hsy] at tA ⊢; have FA := cf3 (FF.out _ _ _ tA); have a0 := FA.c0; have a1 := FA.c1; have a2 := (FF.out _ _ _ tA).c2; have ga := GL.out _ _ tA; have ga1 := ga.one; have ga2 := ga.two; have TA := Lib.hid tA; clear tA SEC FA ga)
          have sA : wA.drew.cell? ⟨z, 0, none⟩ = some (.pointer (some ⟨p, 0, none⟩)) ∧ wA.drew.cell? ⟨z, 1, none⟩ = some (.int .i64 f) ∧ wA.drew.cell? ⟨0, 1, none⟩ = some (.int .i64 131072) := ⟨a0, a1, ga2⟩
          go_region_held3 (fun w' => w'.cell? ⟨z, 0, none⟩ = some (.pointer (some ⟨p, 0, none⟩)) ∧ w'.cell? ⟨z, 1, none⟩ = some (.int .i64 f) ∧ w'.cell? ⟨0, 1, none⟩ = some (.int .i64 131072)) (first | exact sA | exact sB) (first | (go_at_call 28; refine (WR.out _ (by exact tog_drew TA.out)).mono ?_; rintro e w1 ⟨rfl, t1⟩; have sB := (show w1.cell? ⟨z, 0, none⟩ = some (.pointer (some ⟨p, 0, none⟩)) ∧ w1.cell? ⟨z, 1, none⟩ = some (.int .i64 f) ∧ w1.cell? ⟨0, 1, none⟩ = some (.int .i64 131072) from ⟨(FF.out _ _ _ t1).c0, (FF.out _ _ _ t1).c1, (GL.out _ _ t1).two⟩); have T1 := Lib.hid t1; clear t1))
          go_wp2
          have sC : w1.drew.cell? ⟨z, 0, none⟩ = some (.pointer (some ⟨p, 0, none⟩)) ∧ w1.drew.cell? ⟨z, 1, none⟩ = some (.int .i64 f) := ⟨sB.1, sB.2.1⟩
          go_region_held3 (fun w' => w'.cell? ⟨z, 0, none⟩ = some (.pointer (some ⟨p, 0, none⟩)) ∧ w'.cell? ⟨z, 1, none⟩ = some (.int .i64 f)) (first | exact sC | exact sD) (first | (go_at_call 33; refine (SY.out _ (by exact tog_drew T1.out)).mono ?_; rintro e w2 ⟨rfl, t2⟩; have sD := (show w2.cell? ⟨z, 0, none⟩ = some (.pointer (some ⟨p, 0, none⟩)) ∧ w2.cell? ⟨z, 1, none⟩ = some (.int .i64 f) from ⟨(FF.out _ _ _ t2).c0, (FF.out _ _ _ t2).c1⟩); have d0 := sD.1; have d1 := sD.2; have T2 := Lib.hid t2; clear t2))
          go_wp2
          go_ret
          exact ⟨rfl, T2.out⟩
      · rw [if_pos q1]
        have n1 : (r1 != 0) = true := by simpa using q1
        clear q1
        go_enter Tryd.func11, Tryd.ntmps11
        go_wp2_with (go_at_call 32; refine SEC.out.mono ?_; rintro e wA ⟨rfl, tA⟩; rw [hsy] at tA ⊢; have FA := cf3 (FF.out _ _ _ tA); have a0 := FA.c0; have a1 := FA.c1; have a2 := (FF.out _ _ _ tA).c2; have ga := GL.out _ _ tA; have ga1 := ga.one; have ga2 := ga.two; have TA := Lib.hid tA; clear tA SEC FA ga)
        have sA : wA.drew.cell? ⟨z, 0, none⟩ = some (.pointer (some ⟨p, 0, none⟩)) ∧ wA.drew.cell? ⟨z, 1, none⟩ = some (.int .i64 f) ∧ wA.drew.cell? ⟨0, 1, none⟩ = some (.int .i64 131072) := ⟨a0, a1, ga2⟩
        go_region_held3 (fun w' => w'.cell? ⟨z, 0, none⟩ = some (.pointer (some ⟨p, 0, none⟩)) ∧ w'.cell? ⟨z, 1, none⟩ = some (.int .i64 f) ∧ w'.cell? ⟨0, 1, none⟩ = some (.int .i64 131072)) (first | exact sA | exact sB) (first | (go_at_call 28; refine (WR.out _ (by exact tog_drew TA.out)).mono ?_; rintro e w1 ⟨rfl, t1⟩; have sB := (show w1.cell? ⟨z, 0, none⟩ = some (.pointer (some ⟨p, 0, none⟩)) ∧ w1.cell? ⟨z, 1, none⟩ = some (.int .i64 f) ∧ w1.cell? ⟨0, 1, none⟩ = some (.int .i64 131072) from ⟨(FF.out _ _ _ t1).c0, (FF.out _ _ _ t1).c1, (GL.out _ _ t1).two⟩); have T1 := Lib.hid t1; clear t1))
        go_wp2
        go_ret
        exact ⟨rfl, T1.out⟩
    · have eA : slotAt 1 = 64 := rfl
      rw [eA] at WR
      have n0 : ((c0.slot : Int) != 0) = true := by simpa using hp
      have nn : ((c0.slot : Int) == 1) = false := by rw [beq_eq_false_iff_ne]; omega
      rw [hsu] at y4
      by_cases q1 : r1 = 0
      · rw [if_neg (fun h => h q1)]
        have n1 : (r1 != 0) = false := by simp [q1]
        by_cases q2 : r2 = 0
        · rw [if_neg (fun h => h q2)]
          have n2 : (r2 != 0) = false := by simp [q2]
          by_cases q3 : r3 = 0
          · rw [if_neg (fun h => h q3)]
            have n3 : (r3 != 0) = false := by simp [q3]
            clear q1 q2 q3
            go_enter Tryd.func11, Tryd.ntmps11
            go_wp2_with (go_at_call 32; refine SEC.out.mono ?_; rintro e wA ⟨rfl, tA⟩; rw [hsy] at tA ⊢; have FA := cf3 (FF.out _ _ _ tA); have a0 := FA.c0; have a1 := FA.c1; have a2 := (FF.out _ _ _ tA).c2; have ga := GL.out _ _ tA; have ga1 := ga.one; have ga2 := ga.two; have TA := Lib.hid tA; clear tA SEC FA ga)
            have sA : wA.drew.cell? ⟨z, 0, none⟩ = some (.pointer (some ⟨p, 0, none⟩)) ∧ wA.drew.cell? ⟨z, 1, none⟩ = some (.int .i64 f) ∧ wA.drew.cell? ⟨0, 0, none⟩ = some (.int .i64 64) := ⟨a0, a1, ga1⟩
            go_region_held3 (fun w' => w'.cell? ⟨z, 0, none⟩ = some (.pointer (some ⟨p, 0, none⟩)) ∧ w'.cell? ⟨z, 1, none⟩ = some (.int .i64 f) ∧ w'.cell? ⟨0, 0, none⟩ = some (.int .i64 64)) (first | exact sA | exact sB) (first | (go_at_call 28; refine (WR.out _ (by exact tog_drew TA.out)).mono ?_; rintro e w1 ⟨rfl, t1⟩; have sB := (show w1.cell? ⟨z, 0, none⟩ = some (.pointer (some ⟨p, 0, none⟩)) ∧ w1.cell? ⟨z, 1, none⟩ = some (.int .i64 f) ∧ w1.cell? ⟨0, 0, none⟩ = some (.int .i64 64) from ⟨(FF.out _ _ _ t1).c0, (FF.out _ _ _ t1).c1, (GL.out _ _ t1).one⟩); have T1 := Lib.hid t1; clear t1))
            go_wp2
            have sC : w1.drew.cell? ⟨z, 0, none⟩ = some (.pointer (some ⟨p, 0, none⟩)) ∧ w1.drew.cell? ⟨z, 1, none⟩ = some (.int .i64 f) := ⟨sB.1, sB.2.1⟩
            go_region_held3 (fun w' => w'.cell? ⟨z, 0, none⟩ = some (.pointer (some ⟨p, 0, none⟩)) ∧ w'.cell? ⟨z, 1, none⟩ = some (.int .i64 f)) (first | exact sC | exact sD) (first | (go_at_call 33; refine (SY.out _ (by exact tog_drew T1.out)).mono ?_; rintro e w2 ⟨rfl, t2⟩; have sD := (show w2.cell? ⟨z, 0, none⟩ = some (.pointer (some ⟨p, 0, none⟩)) ∧ w2.cell? ⟨z, 1, none⟩ = some (.int .i64 f) from ⟨(FF.out _ _ _ t2).c0, (FF.out _ _ _ t2).c1⟩); have d0 := sD.1; have d1 := sD.2; have T2 := Lib.hid t2; clear t2))
            go_wp2
            have d0d : w2.drew.cell? ⟨z, 0, none⟩ = some (.pointer (some ⟨p, 0, none⟩)) ∧ w2.drew.cell? ⟨z, 1, none⟩ = some (.int .i64 f) := ⟨d0, d1⟩
            go_region_held3 (fun w' => w'.cell? ⟨z, 0, none⟩ = some (.pointer (some ⟨p, 0, none⟩)) ∧ w'.cell? ⟨z, 1, none⟩ = some (.int .i64 f)) (first | exact d0d | exact d3 | exact d4) (first | (go_at_call 34; refine (HD.out _).mono ?_; rintro e w3 ⟨rfl, b3⟩; have T3 := Lib.hid ((tog_drew T2.out).on b3); have d3 := (show w3.cell? ⟨z, 0, none⟩ = some (.pointer (some ⟨p, 0, none⟩)) ∧ w3.cell? ⟨z, 1, none⟩ = some (.int .i64 f) from ⟨(FF.out _ _ _ T3.out).c0, (FF.out _ _ _ T3.out).c1⟩); clear b3) | (go_at_call 28; refine (WH.out _ T3.out).mono ?_; rintro e w4 ⟨rfl, t4⟩; have d4 := (show w4.cell? ⟨z, 0, none⟩ = some (.pointer (some ⟨p, 0, none⟩)) ∧ w4.cell? ⟨z, 1, none⟩ = some (.int .i64 f) from ⟨(FF.out _ _ _ t4).c0, (FF.out _ _ _ t4).c1⟩); have T4 := Lib.hid t4; clear t4))
            obtain ⟨F4, S4⟩ := S3.out _ T4.out
            have e2 := F4.c2
            have e3 := F4.c3
            have e4 := F4.c4
            have z2 := F4.fz 2
            have z3 := F4.fz 3
            have z4 := F4.fz 4
            clear F4 S3
            go_wp2_with (go_at_call 32; refine (SE.out _ S4.out).mono ?_; rintro e w5 ⟨rfl, t5⟩; have T5 := Lib.hid t5; clear t5)
            go_ret
            exact ⟨rfl, T5.out⟩
          · rw [if_pos q3]
            have n3 : (r3 != 0) = true := by simpa using q3
            clear q1 q2 q3
            go_enter Tryd.func11, Tryd.ntmps11
            go_wp2_with (go_at_call 32; refine SEC.out.mono ?_; rintro e wA ⟨rfl, tA⟩; rw [hsy] at tA ⊢; have FA := cf3 (FF.out _ _ _ tA); have a0 := FA.c0; have a1 := FA.c1; have a2 := (FF.out _ _ _ tA).c2; have ga := GL.out _ _ tA; have ga1 := ga.one; have ga2 := ga.two; have TA := Lib.hid tA; clear tA SEC FA ga)
            have sA : wA.drew.cell? ⟨z, 0, none⟩ = some (.pointer (some ⟨p, 0, none⟩)) ∧ wA.drew.cell? ⟨z, 1, none⟩ = some (.int .i64 f) ∧ wA.drew.cell? ⟨0, 0, none⟩ = some (.int .i64 64) := ⟨a0, a1, ga1⟩
            go_region_held3 (fun w' => w'.cell? ⟨z, 0, none⟩ = some (.pointer (some ⟨p, 0, none⟩)) ∧ w'.cell? ⟨z, 1, none⟩ = some (.int .i64 f) ∧ w'.cell? ⟨0, 0, none⟩ = some (.int .i64 64)) (first | exact sA | exact sB) (first | (go_at_call 28; refine (WR.out _ (by exact tog_drew TA.out)).mono ?_; rintro e w1 ⟨rfl, t1⟩; have sB := (show w1.cell? ⟨z, 0, none⟩ = some (.pointer (some ⟨p, 0, none⟩)) ∧ w1.cell? ⟨z, 1, none⟩ = some (.int .i64 f) ∧ w1.cell? ⟨0, 0, none⟩ = some (.int .i64 64) from ⟨(FF.out _ _ _ t1).c0, (FF.out _ _ _ t1).c1, (GL.out _ _ t1).one⟩); have T1 := Lib.hid t1; clear t1))
            go_wp2
            have sC : w1.drew.cell? ⟨z, 0, none⟩ = some (.pointer (some ⟨p, 0, none⟩)) ∧ w1.drew.cell? ⟨z, 1, none⟩ = some (.int .i64 f) := ⟨sB.1, sB.2.1⟩
            go_region_held3 (fun w' => w'.cell? ⟨z, 0, none⟩ = some (.pointer (some ⟨p, 0, none⟩)) ∧ w'.cell? ⟨z, 1, none⟩ = some (.int .i64 f)) (first | exact sC | exact sD) (first | (go_at_call 33; refine (SY.out _ (by exact tog_drew T1.out)).mono ?_; rintro e w2 ⟨rfl, t2⟩; have sD := (show w2.cell? ⟨z, 0, none⟩ = some (.pointer (some ⟨p, 0, none⟩)) ∧ w2.cell? ⟨z, 1, none⟩ = some (.int .i64 f) from ⟨(FF.out _ _ _ t2).c0, (FF.out _ _ _ t2).c1⟩); have d0 := sD.1; have d1 := sD.2; have T2 := Lib.hid t2; clear t2))
            go_wp2
            have d0d : w2.drew.cell? ⟨z, 0, none⟩ = some (.pointer (some ⟨p, 0, none⟩)) ∧ w2.drew.cell? ⟨z, 1, none⟩ = some (.int .i64 f) := ⟨d0, d1⟩
            go_region_held3 (fun w' => w'.cell? ⟨z, 0, none⟩ = some (.pointer (some ⟨p, 0, none⟩)) ∧ w'.cell? ⟨z, 1, none⟩ = some (.int .i64 f)) (first | exact d0d | exact d3 | exact d4) (first | (go_at_call 34; refine (HD.out _).mono ?_; rintro e w3 ⟨rfl, b3⟩; have T3 := Lib.hid ((tog_drew T2.out).on b3); have d3 := (show w3.cell? ⟨z, 0, none⟩ = some (.pointer (some ⟨p, 0, none⟩)) ∧ w3.cell? ⟨z, 1, none⟩ = some (.int .i64 f) from ⟨(FF.out _ _ _ T3.out).c0, (FF.out _ _ _ T3.out).c1⟩); clear b3) | (go_at_call 28; refine (WH.out _ T3.out).mono ?_; rintro e w4 ⟨rfl, t4⟩; have d4 := (show w4.cell? ⟨z, 0, none⟩ = some (.pointer (some ⟨p, 0, none⟩)) ∧ w4.cell? ⟨z, 1, none⟩ = some (.int .i64 f) from ⟨(FF.out _ _ _ t4).c0, (FF.out _ _ _ t4).c1⟩); have T4 := Lib.hid t4; clear t4))
            go_wp2
            go_ret
            exact ⟨rfl, T4.out⟩
        · rw [if_pos q2]
          have n2 : (r2 != 0) = true := by simpa using q2
          clear q1 q2
          go_enter Tryd.func11, Tryd.ntmps11
          go_wp2_with (go_at_call 32; refine SEC.out.mono ?_; rintro e wA ⟨rfl, tA⟩; rw [hsy] at tA ⊢; have FA := cf3 (FF.out _ _ _ tA); have a0 := FA.c0; have a1 := FA.c1; have a2 := (FF.out _ _ _ tA).c2; have ga := GL.out _ _ tA; have ga1 := ga.one; have ga2 := ga.two; have TA := Lib.hid tA; clear tA SEC FA ga)
          have sA : wA.drew.cell? ⟨z, 0, none⟩ = some (.pointer (some ⟨p, 0, none⟩)) ∧ wA.drew.cell? ⟨z, 1, none⟩ = some (.int .i64 f) ∧ wA.drew.cell? ⟨0, 0, none⟩ = some (.int .i64 64) := ⟨a0, a1, ga1⟩
          go_region_held3 (fun w' => w'.cell? ⟨z, 0, none⟩ = some (.pointer (some ⟨p, 0, none⟩)) ∧ w'.cell? ⟨z, 1, none⟩ = some (.int .i64 f) ∧ w'.cell? ⟨0, 0, none⟩ = some (.int .i64 64)) (first | exact sA | exact sB) (first | (go_at_call 28; refine (WR.out _ (by exact tog_drew TA.out)).mono ?_; rintro e w1 ⟨rfl, t1⟩; have sB := (show w1.cell? ⟨z, 0, none⟩ = some (.pointer (some ⟨p, 0, none⟩)) ∧ w1.cell? ⟨z, 1, none⟩ = some (.int .i64 f) ∧ w1.cell? ⟨0, 0, none⟩ = some (.int .i64 64) from ⟨(FF.out _ _ _ t1).c0, (FF.out _ _ _ t1).c1, (GL.out _ _ t1).one⟩); have T1 := Lib.hid t1; clear t1))
          go_wp2
          have sC : w1.drew.cell? ⟨z, 0, none⟩ = some (.pointer (some ⟨p, 0, none⟩)) ∧ w1.drew.cell? ⟨z, 1, none⟩ = some (.int .i64 f) := ⟨sB.1, sB.2.1⟩
          go_region_held3 (fun w' => w'.cell? ⟨z, 0, none⟩ = some (.pointer (some ⟨p, 0, none⟩)) ∧ w'.cell? ⟨z, 1, none⟩ = some (.int .i64 f)) (first | exact sC | exact sD) (first | (go_at_call 33; refine (SY.out _ (by exact tog_drew T1.out)).mono ?_; rintro e w2 ⟨rfl, t2⟩; have sD := (show w2.cell? ⟨z, 0, none⟩ = some (.pointer (some ⟨p, 0, none⟩)) ∧ w2.cell? ⟨z, 1, none⟩ = some (.int .i64 f) from ⟨(FF.out _ _ _ t2).c0, (FF.out _ _ _ t2).c1⟩); have d0 := sD.1; have d1 := sD.2; have T2 := Lib.hid t2; clear t2))
          go_wp2
          go_ret
          exact ⟨rfl, T2.out⟩
      · rw [if_pos q1]
        have n1 : (r1 != 0) = true := by simpa using q1
        clear q1
        go_enter Tryd.func11, Tryd.ntmps11
        go_wp2_with (go_at_call 32; refine SEC.out.mono ?_; rintro e wA ⟨rfl, tA⟩; rw [hsy] at tA ⊢; have FA := cf3 (FF.out _ _ _ tA); have a0 := FA.c0; have a1 := FA.c1; have a2 := (FF.out _ _ _ tA).c2; have ga := GL.out _ _ tA; have ga1 := ga.one; have ga2 := ga.two; have TA := Lib.hid tA; clear tA SEC FA ga)
        have sA : wA.drew.cell? ⟨z, 0, none⟩ = some (.pointer (some ⟨p, 0, none⟩)) ∧ wA.drew.cell? ⟨z, 1, none⟩ = some (.int .i64 f) ∧ wA.drew.cell? ⟨0, 0, none⟩ = some (.int .i64 64) := ⟨a0, a1, ga1⟩
        go_region_held3 (fun w' => w'.cell? ⟨z, 0, none⟩ = some (.pointer (some ⟨p, 0, none⟩)) ∧ w'.cell? ⟨z, 1, none⟩ = some (.int .i64 f) ∧ w'.cell? ⟨0, 0, none⟩ = some (.int .i64 64)) (first | exact sA | exact sB) (first | (go_at_call 28; refine (WR.out _ (by exact tog_drew TA.out)).mono ?_; rintro e w1 ⟨rfl, t1⟩; have sB := (show w1.cell? ⟨z, 0, none⟩ = some (.pointer (some ⟨p, 0, none⟩)) ∧ w1.cell? ⟨z, 1, none⟩ = some (.int .i64 f) ∧ w1.cell? ⟨0, 0, none⟩ = some (.int .i64 64) from ⟨(FF.out _ _ _ t1).c0, (FF.out _ _ _ t1).c1, (GL.out _ _ t1).one⟩); have T1 := Lib.hid t1; clear t1))
        go_wp2
        go_ret
        exact ⟨rfl, T1.out⟩
end Go.Proofs.YtdejajpmebgidaaDoor
