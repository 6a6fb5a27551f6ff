/-
  THE REFERENCE'S CELL: begin, Get, Set.
-/
import Derived.Test.YtdejajpmebgidaaDoorKd
import Derived.Test.YtdejajpmebgidaaDoorKf
import Derived.Deep.RegionHeld3
import Derived.Deep.DeepCutAuto
namespace Go.Proofs.YtdejajpmebgidaaDoor
open Go.RowKit Go.Maps WireM DiskM CellM
set_option linter.unusedVariables false
set_option linter.unusedSimpArgs false
set_option maxRecDepth 100000

theorem rbegin_any (k : Nat) (w : World) : Calls Tryd.prog 31 #[.int .i64 (k : Int)] w fun e w' => e = .returned (.int .i64 (slotAt k : Int)) ∧ w = w' := by
  by_cases hk : k = 2
  · subst hk
    go_enter Tryd.func31, Tryd.ntmps31
    go_wp2
    go_ret
    exact ⟨rfl, rfl⟩
  · have e : ((k : Int) == 2) = false := by rw [beq_eq_false_iff_ne]; omega
    have e2 : slotAt k = 64 := by unfold slotAt; rw [if_neg hk]
    rw [e2]
    clear hk e2
    go_enter Tryd.func31, Tryd.ntmps31
    go_wp2
    go_ret
    exact ⟨rfl, rfl⟩
theorem rcget_any {w0 w : World} {l : List Kd} (h : Tog w0 w l) {j z p : Nat} {f : Int} {c : CS} (hj : l[j]? = some (kCell 66 z p f c)) :
    Calls Tryd.prog 21 #[.pointer (some ⟨z, 0, none⟩)] w fun e w' => e = .returned (.tuple #[.string (bs c.val), .bool (decide (c.slot ≠ 0))]) ∧ Tog w0 w' l := by
  have F := h.cellF hj
  have c2 := F.c2
  have c3 := F.c3
  have H := Lib.hid h
  obtain ⟨R, hR⟩ : ∃ R, R = decide (c.slot ≠ 0) := ⟨_, rfl⟩
  rw [← hR]
  have q0 : ((c.slot : Int) != 0) = R := by
    rw [hR]
    by_cases e : c.slot = 0
    · rw [e]; rfl
    · rw [decide_eq_true e]; simpa using e
  clear hR h F
  go_enter Tryd.func21, Tryd.ntmps21
  go_wp2
  go_quiet (fail)
  go_wp2
  go_ret2
  exact ⟨by first | rfl | rw [q0], H.out.on (below_drewN _ _)⟩
/-- The reference's disk and a cell on it, among other things. -/
def RC (T : TypeId) (l : List Kd) (i j p z : Nat) (f : Int) (s : St) (c : CS) : List Kd := (l.set i (kRef p s)).set j (kCell T z p f c)
section
variable {T : TypeId} {l : List Kd} {i j p z : Nat} {f : Int} {s s' : St} {c c' : CS}
theorem RC_i (hij : i ≠ j) (hi : i < l.length) : (RC T l i j p z f s c)[i]? = some (kRef p s) := by
  unfold RC; rw [List.getElem?_set_ne (fun h => hij h.symm), List.getElem?_set_self hi]
theorem RC_j (hj : j < l.length) : (RC T l i j p z f s c)[j]? = some (kCell T z p f c) := by
  unfold RC; rw [List.getElem?_set_self (by rw [List.length_set]; exact hj)]
theorem RC_set_i (hij : i ≠ j) : (RC T l i j p z f s c).set i (kRef p s') = RC T l i j p z f s' c := by
  unfold RC; rw [List.set_comm _ _ (fun h => hij h.symm), List.set_set]
theorem RC_set_j : (RC T l i j p z f s c).set j (kCell T z p f c') = RC T l i j p z f s c' := by
  unfold RC; rw [List.set_set]
end
theorem RC.write {w0 w : World} {T : TypeId} {l : List Kd} {i j p z : Nat} {f : Int} {s : St} {c : CS} (hij : i ≠ j) (hi : i < l.length) (h : Tog w0 w (RC T l i j p z f s c)) (g a : Int) (ha : InI a) (t : List UInt8) (ht : t.length ≤ 1099511627776) :
    Calls Tryd.prog 29 #[.pointer (some ⟨p, 0, none⟩), .int .i64 g, .int .i64 a, .string (bs t)] w fun e w' => e = .returned (.int .i64 (s.write g a t).2) ∧ Tog w0 w' (RC T l i j p z f (s.write g a t).1 c) := by
  have := h.rwrite (RC_i hij hi) g a (bs t) ha (by rw [bs_len]; exact ht)
  rw [RC_set_i hij] at this
  exact this
theorem RC.sync {w0 w : World} {T : TypeId} {l : List Kd} {i j p z : Nat} {f : Int} {s : St} {c : CS} (hij : i ≠ j) (hi : i < l.length) (h : Tog w0 w (RC T l i j p z f s c)) (g : Int) :
    Calls Tryd.prog 35 #[.pointer (some ⟨p, 0, none⟩), .int .i64 g] w fun e w' => e = .returned (.int .i64 (s.sync g).2) ∧ Tog w0 w' (RC T l i j p z f (s.sync g).1 c) := by
  have := h.rsync (RC_i hij hi) g
  rw [RC_set_i hij] at this
  exact this
theorem RC.store {w0 w : World} {T : TypeId} {l : List Kd} {i j p z : Nat} {f : Int} {s : St} {c : CS} (hj : j < l.length) (h : Tog w0 w (RC T l i j p z f s c)) (b : Bool) :
    Tog w0 (w.setCell ⟨z, 4, none⟩ (.bool b)) (RC T l i j p z f s { c with sure := b }) := by
  have h1 := h.cset (RC_j hj) 4 (.bool b) { c with sure := b } rfl
  rw [RC_set_j] at h1
  exact h1
theorem RC.store3 {w0 w : World} {T : TypeId} {l : List Kd} {i j p z : Nat} {f : Int} {s : St} {c : CS} (hj : j < l.length) (h : Tog w0 w (RC T l i j p z f s c)) (k : Nat) (t : List UInt8) :
    Tog w0 (((w.setCell ⟨z, 2, none⟩ (.int .i64 (k : Int))).setCell ⟨z, 3, none⟩ (.string (bs t))).setCell ⟨z, 4, none⟩ (.bool false)) (RC T l i j p z f s ⟨k, t, false⟩) := by
  have h1 := h.cset (RC_j hj) 2 (.int .i64 (k : Int)) { c with slot := k } rfl
  rw [RC_set_j] at h1
  have h2 := h1.cset (RC_j hj) 3 (.string (bs t)) { c with slot := k, val := t } rfl
  rw [RC_set_j] at h2
  have h3 := h2.cset (RC_j hj) 4 (.bool false) { c with slot := k, val := t, sure := false } rfl
  rw [RC_set_j] at h3
  exact h3
/-- The header's bytes, as the reference reckons them. -/
theorem rhdr_run (w : World) (k n : Nat) (hk : k = 1 ∨ k = 2) (hn : n ≤ 65536) (v0 v1 v2 v3 : Int) (e0 : v0 = (k : Int)) (e1 : v1 = (n : Int) % 256) (e2 : v2 = (n : Int) / 256 % 256) (e3 : v3 = (n : Int) / 65536) :
    (convert 70 9 (.slice (some ⟨w.heap.size, 0, none⟩) 5 5)).run Tryd.prog ((w.alloc (.cells #[.int .u8 v0, .int .u8 v1, .int .u8 v2, .int .u8 v3, .int .u8 0] 5)).drew) =
      .ok (.string (bs (hdr k n))) ((w.alloc (.cells #[.int .u8 v0, .int .u8 v1, .int .u8 v2, .int .u8 v3, .int .u8 0] 5)).drew) := by
  subst e0; subst e1; subst e2; subst e3
  have h := run_convert_bytes_back (P := Tryd.prog) ((w.alloc (.cells #[.int .u8 (k : Int), .int .u8 ((n : Int) % 256), .int .u8 ((n : Int) / 256 % 256), .int .u8 ((n : Int) / 65536), .int .u8 0] 5)).drew) 70 9 5 ⟨w.heap.size, 0, none⟩ 5 (hdr k n) Tryd.underlying70 Tryd.underlying5 Tryd.underlying9 ?_
  · exact h
  intro j hj
  have hadd : (⟨w.heap.size, 0, none⟩ : Addr).add j = ⟨w.heap.size, j, none⟩ := by unfold Addr.add; split <;> simp_all
  have hd : ∀ W : World, W.drew.cell? = W.cell? := fun W => rfl
  rw [hadd, hd, Lib.cell_of_heap (heap_alloc_new w _)]
  have hj5 : j < 5 := hj
  have c : j = 0 ∨ j = 1 ∨ j = 2 ∨ j = 3 ∨ j = 4 := by omega
  rcases c with rfl | rfl | rfl | rfl | rfl
  · simp [hdr]; omega
  · simp [hdr]
  · simp [hdr]
  · simp [hdr]; omega
  · simp [hdr]; omega
theorem wrap_u8' (x : Int) : IntKind.u8.wrap x = x % 256 := by
  unfold IntKind.wrap; simp [IntKind.bits, IntKind.signed]
theorem hdr_ints (n : Nat) (h : n ≤ 65536) : IntKind.u8.wrap ((n : Int).tmod 256) = (n : Int) % 256 ∧ IntKind.u8.wrap ((IntKind.i64.wrap ((n : Int) / 256)).tmod 256) = (n : Int) / 256 % 256 ∧ IntKind.u8.wrap (IntKind.i64.wrap ((n : Int) / 65536)) = (n : Int) / 65536 := by
  have h1 : IntKind.i64.wrap ((n : Int) / 256) = (n : Int) / 256 := by rw [IntKind.wrap_i64]; omega
  have h2 : IntKind.i64.wrap ((n : Int) / 65536) = (n : Int) / 65536 := by rw [IntKind.wrap_i64]; omega
  refine ⟨?_, ?_, ?_⟩
  · rw [Int.tmod_eq_emod_of_nonneg (by omega), wrap_u8']; omega
  · rw [h1, Int.tmod_eq_emod_of_nonneg (by omega), wrap_u8']; omega
  · rw [h2, wrap_u8']; omega
structure RPre (s0 s : St) (c0 c : CS) (f : Int) : Prop where
  h : (c0.slot = 0 ∧ s = s0 ∧ c = c0) ∨ (c0.slot ≠ 0 ∧ c0.sure = true ∧ s = s0 ∧ c = c0) ∨ (c0.slot ≠ 0 ∧ c0.sure = false ∧ (s0.sync f).2 = 0 ∧ s = (s0.sync f).1 ∧ c = { c0 with sure := true })
set_option maxHeartbeats 16000000 in
theorem rset2_walk {w0 w : World} {l : List Kd} {i j p z : Nat} {f : Int} {s0 s : St} {c0 c : CS} (hij : i ≠ j) (hi : i < l.length) (hj : j < l.length) (h0 : Tog w0 w (RC 66 l i j p z f s0 c0)) (t : List UInt8) (ht : t.length ≤ 65536) (hpre : RPre s0 s c0 c f) :
    Calls Tryd.prog 12 #[.pointer (some ⟨z, 0, none⟩), .string (bs t)] w fun e w' => e = .returned (.int .i64 (set2 s f c t).2.2) ∧ Tog w0 w' (RC 66 l i j p z f (set2 s f c t).1 (set2 s f c t).2.1) := by
  replace hpre := hpre.h
  have F := h0.cellF (RC_j hj)
  have y2 := F.c2
  have y4 := F.c4
  have hsl : c.slot = c0.slot := by
    rcases hpre with h | h | h
    · rw [h.2.2]
    · rw [h.2.2.2]
    · rw [h.2.2.2.2]
  have hlen : (bs t).size = t.length := rfl
  have g0 : ¬ (65536 : Int) < ((bs t).size : Int) := by rw [hlen]; omega
  obtain ⟨k, hk⟩ : ∃ k, k = other c.slot := ⟨_, rfl⟩
  have hk12 := other_k c.slot
  rw [← hk] at hk12
  have WR := Lib.hid (fun W (hW : Tog w0 W (RC 66 l i j p z f s c)) => RC.write hij hi hW f (slotAt k) (by rcases hk12 with h | h <;> rw [h] <;> (unfold InI slotAt; simp)) t (by omega))
  obtain ⟨s1, hs1⟩ : ∃ s1, s1 = (s.write f (slotAt k) t).1 := ⟨_, rfl⟩
  obtain ⟨r1, hr1⟩ : ∃ r1, r1 = (s.write f (slotAt k) t).2 := ⟨_, rfl⟩
  rw [← hs1, ← hr1] at WR
  have SY := Lib.hid (fun W (hW : Tog w0 W (RC 66 l i j p z f s1 c)) => RC.sync hij hi hW f)
  obtain ⟨s2, hs2⟩ : ∃ s2, s2 = (s1.sync f).1 := ⟨_, rfl⟩
  obtain ⟨r2, hr2⟩ : ∃ r2, r2 = (s1.sync f).2 := ⟨_, rfl⟩
  rw [← hs2, ← hr2] at SY
  have WH := Lib.hid (fun W (hW : Tog w0 W (RC 66 l i j p z f s2 c)) => RC.write hij hi hW f 0 (by unfold InI; omega) (hdr k t.length) (by rw [hdr_len]; decide))
  obtain ⟨s3, hs3⟩ : ∃ s3, s3 = (s2.write f 0 (hdr k t.length)).1 := ⟨_, rfl⟩
  obtain ⟨r3, hr3⟩ : ∃ r3, r3 = (s2.write f 0 (hdr k t.length)).2 := ⟨_, rfl⟩
  rw [← hs3, ← hr3] at WH
  have S3 := Lib.hid (fun W (hW : Tog w0 W (RC 66 l i j p z f s3 c)) => And.intro (hW.cellF (RC_j hj)) (Lib.hid (RC.store3 hj hW k t)))
  have SE := Lib.hid (fun W (hW : Tog w0 W (RC 66 l i j p z f s3 ⟨k, t, false⟩)) => RC.sync hij hi hW f)
  obtain ⟨s4, hs4⟩ : ∃ s4, s4 = (s3.sync f).1 := ⟨_, rfl⟩
  obtain ⟨r4, hr4⟩ : ∃ r4, r4 = (s3.sync f).2 := ⟨_, rfl⟩
  rw [← hs4, ← hr4] at SE
  have S5 := Lib.hid (fun W (hW : Tog w0 W (RC 66 l i j p z f s4 ⟨k, t, false⟩)) => And.intro (hW.cellF (RC_j hj)) (Lib.hid (fun b => RC.store hj hW b)))
  have ST := Lib.hid (fun W s b (hW : Tog w0 W (RC 66 l i j p z f s c0)) => RC.store hj hW b)
  have SY0 := Lib.hid (fun W (hW : Tog w0 W (RC 66 l i j p z f s0 c0)) => RC.sync hij hi hW f)
  have hdec : ((r4 == 0) = decide (r4 = 0) : Prop) := by by_cases e : r4 = 0 <;> simp [e]
  have HDEC := Lib.hid hdec
  have E : set2 s f c t = if r1 ≠ 0 then (s1, c, r1) else if r2 ≠ 0 then (s2, c, r2) else if r3 ≠ 0 then (s3, c, r3) else (s4, ⟨k, t, decide (r4 = 0)⟩, r4) := by
    unfold set2
    rw [← hk, ← hr1, ← hs1, ← hr2, ← hs2, ← hr3, ← hs3, ← hr4, ← hs4]
  obtain ⟨R, hR⟩ : ∃ R, R = set2 s f c t := ⟨_, rfl⟩
  rw [← hR]
  rw [E] at hR
  have ER := Lib.hid hR
  clear hR
  have FF := Lib.hid (fun W s (c : CS) (hW : Tog w0 W (RC 66 l i j p z f s c)) => hW.cellF (RC_j hj))
  have ZL := Lib.hid (fun W s (c : CS) (hW : Tog w0 W (RC 66 l i j p z f s c)) => show z < W.heap.size from by
    have h := (hW.cellF (RC_j hj)).c0
    rcases Nat.lt_or_ge z W.heap.size with h' | h'
    · exact h'
    · simp [World.cell?, Array.getElem?_eq_none h'] at h)
  have H0 := Lib.hid h0
  clear E hs1 hr1 hs2 hr2 hs3 hr3 hs4 hr4 F h0 hij hi hj hdec
  have hn0 : (0 : Int) ≤ ((bs t).size : Int) := by omega
  have BG := Lib.hid (fun W => rbegin_any k W)
  have HR := Lib.hid (fun W => rhdr_run W k (bs t).size hk12 ht _ _ _ _ (show IntKind.u8.wrap (k : Int) = (k : Int) from by rw [wrap_u8']; omega) (hdr_ints (bs t).size ht).1 (hdr_ints (bs t).size ht).2.1 (hdr_ints (bs t).size ht).2.2)
  have KW := Lib.hid (show (0 : Int) ≤ (k : Int) ∧ (k : Int) ≤ 2 from by omega)
  have HT := Lib.hid ht
  have hcase : ((c.slot : Int) == 1) = true ∧ (k : Int) = 2 ∨ ((c.slot : Int) == 1) = false ∧ (k : Int) = 1 := by
    rw [hk]; unfold other
    by_cases e : c.slot = 1
    · exact .inl ⟨by rw [e]; rfl, by rw [if_pos e]; rfl⟩
    · exact .inr ⟨by rw [beq_eq_false_iff_ne]; omega, by rw [if_neg e]; rfl⟩
  obtain ⟨B, hB⟩ : ∃ B : Bool, B = (!c0.sure && ((c0.slot : Int) != 0)) := ⟨_, rfl⟩
  have hpre2 : (B = false ∧ s = s0 ∧ c = c0) ∨ (B = true ∧ c0.sure = false ∧ ((c0.slot : Int) != 0) = true ∧ (s0.sync f).2 = 0 ∧ s = (s0.sync f).1 ∧ c = { c0 with sure := true }) := by
    rcases hpre with ⟨h, e1, e2⟩ | ⟨h, h2, e1, e2⟩ | ⟨h, h2, h3, e1, e2⟩
    · exact .inl ⟨by rw [hB, h]; simp, e1, e2⟩
    · exact .inl ⟨by rw [hB, h2]; rfl, e1, e2⟩
    · have : ((c0.slot : Int) != 0) = true := by simpa using h
      exact .inr ⟨by rw [hB, h2, this]; rfl, h2, this, h3, e1, e2⟩
  have HB := Lib.hid hB
  clear hlen hk hsl hk12 ht hn0 hpre hB
  go_enter Tryd.func12, Tryd.ntmps12
  go_upto_region 3 with fail
  go_cut [23] (fun x wx => x = .bool B ∧ w = wx)
  case first =>
    clear BG HR SY WH S3 SE S5 WR hpre2 hcase SY0 ST
    rcases hsu : c0.sure with _ | _ <;> rw [hsu] at y4 HB
    all_goals
      clear hsu
      go_wp2_with fail
      go_meet
      exact ⟨by rw [HB.out]; rfl, rfl⟩
  case rest =>
    obtain ⟨rfl, rfl⟩ := hcut
    clear HB
    go_upto_if 23 with fail
    go_cut [5] (fun _ wx => Hid (Tog w0 wx (RC 66 l i j p z f s c)))
    case first =>
      clear BG HR SY WH S3 SE S5 WR hcase
      rcases hpre2 with ⟨rfl, rfl, rfl⟩ | ⟨rfl, hsu, n0, hsy, rfl, rfl⟩
      · go_wp2_with fail
        go_meet
        exact H0
      · rw [hsu] at y4
        have FA := cf3 (FF.out _ _ _ H0.out)
        have a0 := FA.c0
        have a1 := FA.c1
        have HSY := Lib.hid hsy
        clear FA hsu hsy
        go_wp2_with fail
        have sS : w.drew.cell? ⟨z, 0, none⟩ = some (.pointer (some ⟨p, 0, none⟩)) ∧ w.drew.cell? ⟨z, 1, none⟩ = some (.int .i64 f) := ⟨a0, a1⟩
        go_region_held3 (fun w' => w'.cell? ⟨z, 0, none⟩ = some (.pointer (some ⟨p, 0, none⟩)) ∧ w'.cell? ⟨z, 1, none⟩ = some (.int .i64 f)) (first | exact sS | exact sT) (first | (go_at_call 35; refine (SY0.out _ (by exact tog_drew H0.out)).mono ?_; rintro e wA ⟨rfl, tA⟩; rw [HSY.out]; have FA := FF.out _ _ _ tA; have sT := (show wA.cell? ⟨z, 0, none⟩ = some (.pointer (some ⟨p, 0, none⟩)) ∧ wA.cell? ⟨z, 1, none⟩ = some (.int .i64 f) from ⟨FA.c0, FA.c1⟩); have a4 := FA.c4; have z4 := FA.fz 4; have TA := Lib.hid (ST.out _ _ true tA); clear tA SY0 FA))
        go_wp2_with fail
        go_meet
        exact TA
    case rest =>
      have TA := hcut
      clear hpre2 SY0 ST H0 y2 y4 hcut
      rename World => wc
      have FA := FF.out _ _ _ TA.out
      have a0 := FA.c0
      have a1 := FA.c1
      have a2 := FA.c2
      clear FA
      go_upto_if 43 with fail
      go_cut [6] (fun x wx => x = .int .i64 (k : Int) ∧ wc = wx)
      case first =>
        clear BG HR SY WH S3 SE S5 WR
        rcases hcase with ⟨h1, h2⟩ | ⟨h1, h2⟩
        all_goals
          have H2 := Lib.hid h2
          clear h2
          go_wp2_with fail
          go_meet
          exact ⟨by rw [H2.out], rfl⟩
      case rest =>
        obtain ⟨rfl, rfl⟩ := hcut
        clear hcase
        by_cases q1 : r1 = 0
        · have n1 : (r1 != 0) = false := by simp [q1]
          by_cases q2 : r2 = 0
          · have n2 : (r2 != 0) = false := by simp [q2]
            have ER2 := Lib.hid (show R = _ from by rw [ER.out, if_neg (fun h => h q1), if_neg (fun h => h q2)])
            clear q1 q2
            go_wp2
            have sA : wc.drew.cell? ⟨z, 0, none⟩ = some (.pointer (some ⟨p, 0, none⟩)) ∧ wc.drew.cell? ⟨z, 1, none⟩ = some (.int .i64 f) := ⟨a0, a1⟩
            go_region_held3 (fun w' => w'.cell? ⟨z, 0, none⟩ = some (.pointer (some ⟨p, 0, none⟩)) ∧ w'.cell? ⟨z, 1, none⟩ = some (.int .i64 f)) (first | exact sA | exact sB) (first | (go_at_call 31; refine (BG.out _).mono ?_; rintro e wb ⟨rfl, rfl⟩) | (go_at_call 29; refine (WR.out _ (by exact tog_drew TA.out)).mono ?_; rintro e w1 ⟨rfl, t1⟩; have sB := (show w1.cell? ⟨z, 0, none⟩ = some (.pointer (some ⟨p, 0, none⟩)) ∧ w1.cell? ⟨z, 1, none⟩ = some (.int .i64 f) from ⟨(FF.out _ _ _ t1).c0, (FF.out _ _ _ t1).c1⟩); have T1 := Lib.hid t1; clear t1))
            go_wp2
            have sC : w1.drew.cell? ⟨z, 0, none⟩ = some (.pointer (some ⟨p, 0, none⟩)) ∧ w1.drew.cell? ⟨z, 1, none⟩ = some (.int .i64 f) := ⟨sB.1, sB.2⟩
            go_region_held3 (fun w' => w'.cell? ⟨z, 0, none⟩ = some (.pointer (some ⟨p, 0, none⟩)) ∧ w'.cell? ⟨z, 1, none⟩ = some (.int .i64 f)) (first | exact sC | exact sD) (first | (go_at_call 35; refine (SY.out _ (by exact tog_drew T1.out)).mono ?_; rintro e w2 ⟨rfl, t2⟩; have sD := (show w2.cell? ⟨z, 0, none⟩ = some (.pointer (some ⟨p, 0, none⟩)) ∧ w2.cell? ⟨z, 1, none⟩ = some (.int .i64 f) from ⟨(FF.out _ _ _ t2).c0, (FF.out _ _ _ t2).c1⟩); have T2 := Lib.hid t2; clear t2))
            go_upto_region 18 with fail
            go_cut [7] (fun x wx => x = .int .i64 r3 ∧ Hid (Tog w0 wx (RC 66 l i j p z f s3 c)))
            case first =>
              clear BG WR SY S3 SE S5 ER HT KW a0 a1 a2 TA T1 sA sB sC
              have d0 := sD.1
              have d1 := sD.2
              clear sD
              have HC := HR.out w2
              have dA0 : ∀ o, (w2.alloc o).drew.cell? ⟨z, 0, none⟩ = some (.pointer (some ⟨p, 0, none⟩)) := fun o => Lib.cell?_alloc_some _ d0
              have dA1 : ∀ o, (w2.alloc o).drew.cell? ⟨z, 1, none⟩ = some (.int .i64 f) := fun o => Lib.cell?_alloc_some _ d1
              go_region_with (first | (go_at_call 29; refine (WH.out _ (by exact tog_drew (T2.out.on ((Below.refl _ _).alloc (Nat.le_refl _) _)))).mono ?_; rintro e w4 ⟨rfl, t4⟩; have T4 := Lib.hid t4; clear t4))
              all_goals
                go_wp2_with fail
                go_meet
                exact ⟨rfl, T4⟩
            case rest =>
              obtain ⟨rfl, T4⟩ := hcut
              rename World => w4
              by_cases q3 : r3 = 0
              · have n3 : (r3 != 0) = false := by simp [q3]
                have E1 := Lib.hid (show R = _ from by rw [ER2.out, if_neg (fun h => h q3)])
                clear q3
                obtain ⟨F4, S4⟩ := S3.out _ T4.out
                have e2 := F4.c2
                have e3 := F4.c3
                have e4 := F4.c4
                have z2 := F4.fz 2
                have z3 := F4.fz 3
                have z4 := F4.fz 4
                clear F4 S3
                go_wp2
                have sF : (((w4.setCell ⟨z, 2, none⟩ (.int .i64 (k : Int))).setCell ⟨z, 3, none⟩ (.string (bs t))).setCell ⟨z, 4, none⟩ (.bool false)).drew.cell? ⟨z, 0, none⟩ = some (.pointer (some ⟨p, 0, none⟩)) ∧ (((w4.setCell ⟨z, 2, none⟩ (.int .i64 (k : Int))).setCell ⟨z, 3, none⟩ (.string (bs t))).setCell ⟨z, 4, none⟩ (.bool false)).drew.cell? ⟨z, 1, none⟩ = some (.int .i64 f) := ⟨(FF.out _ _ _ S4.out).c0, (FF.out _ _ _ S4.out).c1⟩
                go_region_held3 (fun w' => w'.cell? ⟨z, 0, none⟩ = some (.pointer (some ⟨p, 0, none⟩)) ∧ w'.cell? ⟨z, 1, none⟩ = some (.int .i64 f)) (first | exact sF | exact sG) (first | (go_at_call 35; refine (SE.out _ (by exact tog_drew S4.out)).mono ?_; rintro e w5 ⟨rfl, t5⟩; have sG := (show w5.cell? ⟨z, 0, none⟩ = some (.pointer (some ⟨p, 0, none⟩)) ∧ w5.cell? ⟨z, 1, none⟩ = some (.int .i64 f) from ⟨(FF.out _ _ _ t5).c0, (FF.out _ _ _ t5).c1⟩); have T5 := Lib.hid t5; clear t5))
                obtain ⟨F5, N5⟩ := S5.out _ T5.out
                have u4 := F5.c4
                have v4 := F5.fz 4
                clear F5 S5
                go_wp2
                go_ret
                exact ⟨by rw [E1.out]; rfl, by rw [E1.out]; first | exact N5.out _ | (have := N5.out (r4 == 0); rw [HDEC.out] at this; exact this)⟩
              · have E1 := Lib.hid (show R = _ from by rw [ER2.out, if_pos q3])
                have n3 : (r3 != 0) = true := by simpa using q3
                clear q3
                go_wp2
                go_ret
                exact ⟨by rw [E1.out]; rfl, by rw [E1.out]; exact T4.out⟩
          · have E1 := Lib.hid (show R = _ from by rw [ER.out, if_neg (fun h => h q1), if_pos q2])
            have n2 : (r2 != 0) = true := by simpa using q2
            clear q1 q2
            go_wp2
            have sA : wc.drew.cell? ⟨z, 0, none⟩ = some (.pointer (some ⟨p, 0, none⟩)) ∧ wc.drew.cell? ⟨z, 1, none⟩ = some (.int .i64 f) := ⟨a0, a1⟩
            go_region_held3 (fun w' => w'.cell? ⟨z, 0, none⟩ = some (.pointer (some ⟨p, 0, none⟩)) ∧ w'.cell? ⟨z, 1, none⟩ = some (.int .i64 f)) (first | exact sA | exact sB) (first | (go_at_call 31; refine (BG.out _).mono ?_; rintro e wb ⟨rfl, rfl⟩) | (go_at_call 29; refine (WR.out _ (by exact tog_drew TA.out)).mono ?_; rintro e w1 ⟨rfl, t1⟩; have sB := (show w1.cell? ⟨z, 0, none⟩ = some (.pointer (some ⟨p, 0, none⟩)) ∧ w1.cell? ⟨z, 1, none⟩ = some (.int .i64 f) from ⟨(FF.out _ _ _ t1).c0, (FF.out _ _ _ t1).c1⟩); have T1 := Lib.hid t1; clear t1))
            go_wp2
            have sC : w1.drew.cell? ⟨z, 0, none⟩ = some (.pointer (some ⟨p, 0, none⟩)) ∧ w1.drew.cell? ⟨z, 1, none⟩ = some (.int .i64 f) := ⟨sB.1, sB.2⟩
            go_region_held3 (fun w' => w'.cell? ⟨z, 0, none⟩ = some (.pointer (some ⟨p, 0, none⟩)) ∧ w'.cell? ⟨z, 1, none⟩ = some (.int .i64 f)) (first | exact sC | exact sD) (first | (go_at_call 35; refine (SY.out _ (by exact tog_drew T1.out)).mono ?_; rintro e w2 ⟨rfl, t2⟩; have sD := (show w2.cell? ⟨z, 0, none⟩ = some (.pointer (some ⟨p, 0, none⟩)) ∧ w2.cell? ⟨z, 1, none⟩ = some (.int .i64 f) from ⟨(FF.out _ _ _ t2).c0, (FF.out _ _ _ t2).c1⟩); have T2 := Lib.hid t2; clear t2))
            go_wp2
            go_ret
            exact ⟨by rw [E1.out]; rfl, by rw [E1.out]; exact T2.out⟩
        · have E1 := Lib.hid (show R = _ from by rw [ER.out, if_pos q1])
          have n1 : (r1 != 0) = true := by simpa using q1
          clear q1
          go_wp2
          have sA : wc.drew.cell? ⟨z, 0, none⟩ = some (.pointer (some ⟨p, 0, none⟩)) ∧ wc.drew.cell? ⟨z, 1, none⟩ = some (.int .i64 f) := ⟨a0, a1⟩
          go_region_held3 (fun w' => w'.cell? ⟨z, 0, none⟩ = some (.pointer (some ⟨p, 0, none⟩)) ∧ w'.cell? ⟨z, 1, none⟩ = some (.int .i64 f)) (first | exact sA | exact sB) (first | (go_at_call 31; refine (BG.out _).mono ?_; rintro e wb ⟨rfl, rfl⟩) | (go_at_call 29; refine (WR.out _ (by exact tog_drew TA.out)).mono ?_; rintro e w1 ⟨rfl, t1⟩; have sB := (show w1.cell? ⟨z, 0, none⟩ = some (.pointer (some ⟨p, 0, none⟩)) ∧ w1.cell? ⟨z, 1, none⟩ = some (.int .i64 f) from ⟨(FF.out _ _ _ t1).c0, (FF.out _ _ _ t1).c1⟩); have T1 := Lib.hid t1; clear t1))
          go_wp2
          go_ret
          exact ⟨by rw [E1.out]; rfl, by rw [E1.out]; exact T1.out⟩
end Go.Proofs.YtdejajpmebgidaaDoor
