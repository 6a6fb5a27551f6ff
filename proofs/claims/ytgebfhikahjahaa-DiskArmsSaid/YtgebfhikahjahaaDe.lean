/-
  THE LAWS OF LAYER 3: played, after, byteAt.
-/
import Derived.Test.YtgebfhikahjahaaDc
namespace Go.Proofs.Ytgebfhikahjahaa
open Go.RowKit Go.Maps WireM DiskM
set_option linter.unusedVariables false
set_option linter.unusedSimpArgs false

theorem crash_keep (s : St) (k : List Int) : (s.crash k).keep = s.keep ∨ (s.crash k).keep = [] := by
  unfold St.crash; split
  · exact .inl rfl
  · exact .inr rfl
theorem strike_keep (s : St) (e : Int) : (s.strike e).1.keep = s.keep ∨ (s.strike e).1.keep = [] := by
  unfold St.strike; split
  · exact crash_keep s.tick s.keep
  · exact .inl rfl
theorem begin_keep (s : St) (f : Int) : (s.begin f).1.keep = s.keep ∨ (s.begin f).1.keep = [] := by
  unfold St.begin; split
  · exact .inl rfl
  · exact strike_keep s _
theorem act_keep (s : St) (A : ActV) : (actS s A).1.keep = s.keep ∨ (actS s A).1.keep = [] ∨ (actS s A).1.keep = A.keep := by
  have two : ∀ {l : List Int}, (l = s.keep ∨ l = []) → l = s.keep ∨ l = [] ∨ l = A.keep := fun h => h.elim .inl (fun h => .inr (.inl h))
  unfold actS
  split
  · refine two ?_
    unfold St.sync
    split
    · exact begin_keep s _
    · split <;> exact begin_keep s A.f
  split
  · refine two ?_
    unfold St.trunc
    split
    · exact begin_keep s _
    · split <;> exact begin_keep s A.f
  split
  · exact .inl rfl
  split
  · exact .inr (.inr rfl)
  split
  · exact two (crash_keep s _)
  split
  · exact .inl rfl
  · refine two ?_
    unfold St.write
    split
    · exact .inl rfl
    · split
      · exact strike_keep (s.add _ _ _) _
      · exact strike_keep s _
theorem act_keep60 {s : St} {A : ActV} (h : s.keep.length ≤ 60) (hA : A.keep.length ≤ 60) : (actS s A).1.keep.length ≤ 60 := by
  rcases act_keep s A with e | e | e <;> rw [e]
  · exact h
  · simp
  · exact hA
def runActs (s : St) (l : List ActV) : St := l.foldl (fun s A => (actS s A).1) s
theorem runActs_snoc (s : St) (l : List ActV) {j : Nat} {A : ActV} (h : l[j]? = some A) : runActs s (l.take (j + 1)) = (actS (runActs s (l.take j)) A).1 := by
  have hl := (List.getElem?_eq_some_iff.1 h).1
  have hs : l[j] = A := (List.getElem?_eq_some_iff.1 h).2
  unfold runActs
  rw [List.take_succ_eq_append_getElem hl, hs, List.foldl_append]
  rfl
/-- A disk whose blocks lie from B on. -/
def DAt (B : Nat) (w : World) (p : Nat) (s : St) (q : Parts) : Prop := DiskIs w p s q ∧ (∀ b, Mine p q b → B ≤ b) ∧ s.keep.length ≤ 60
theorem DAt.turn {B : Nat} {w w' : World} {p : Nat} {s s' : St} {q : Parts} (h : DAt B w p s q) (hB : B ≤ w.heap.size) (ht : Turn w p q s' w') (hk : s'.keep.length ≤ 60) : (∃ q', DAt B w' p s' q') ∧ Below B w w' := by
  obtain ⟨q', h1, m1, c1⟩ := ht
  refine ⟨⟨q', h1, fun b hb => ?_, hk⟩, c1.below hB (fun k hk hm => by have := h.2.1 k hm; omega)⟩
  rcases m1 b hb with h2 | h2
  · exact h.2.1 b h2
  · omega
set_option maxHeartbeats 4000000 in
set_option maxRecDepth 100000 in
theorem played_any {B : Nat} {w : World} {a : Option Addr} {c : Nat} {l : List ActV} (h : ActsAt B w a l) (hB : B ≤ w.heap.size) (hf : Few l) :
    Calls Try.prog 22 #[.slice a l.length c] w fun e w' => ∃ p q, e = .returned (.pointer (some ⟨p, 0, none⟩)) ∧ DAt w.heap.size w' p (runActs St.new l) q ∧ Below w.heap.size w w' := by
  have H := Lib.hid h
  have HB := Lib.hid hB
  have HF := Lib.hid hf
  have hlen : l.length ≤ 40 := hf.2
  clear h hB hf
  go_enter Try.func22, Try.ntmps22
  go_wp2_with (go_at_call 10; refine (new_any _).mono ?_; rintro e w1 ⟨p, rfl, q1, h1, m1, b1⟩; have ST := Lib.hid (show DAt w.heap.size w1 p St.new q1 ∧ Below w.heap.size w w1 from ⟨⟨h1, m1, by simp [St.new]⟩, b1⟩); clear h1 m1 b1)
  go_loopw [4] (fun i wr => ∃ j : Nat, j ≤ l.length ∧ i = .int .i64 (j : Int) ∧ ∃ q, Hid (DAt w.heap.size wr p (runActs St.new (l.take j)) q ∧ Below w.heap.size w wr)) (fun i _ => l.length - (intOf i).toNat)
  case atStart => exact ⟨0, Nat.zero_le _, rfl, q1, ST⟩
  case round =>
    obtain ⟨j, hj, rfl, q, HR⟩ := hrel
    by_cases hlt : j < l.length
    · obtain ⟨A, hA⟩ : ∃ A, l[j]? = some A := ⟨_, List.getElem?_eq_getElem hlt⟩
      have hbelB : Below B w wr := HR.out.2.mono HB.out
      have hacts := H.out.below hbelB
      rcases hacts.cells with e | ⟨b, o, rfl, hb, hc⟩
      · rw [e] at hlt; simp at hlt
      obtain ⟨c0, c1, c2, c3, c4⟩ := hc j A hA
      have hok := HF.out.1 A (List.mem_of_getElem? hA)
      have hsz := HR.out.2.size
      have DO := Lib.hid (do_any HR.out.1.1 HR.out.1.2.1 hsz A ((hacts.ok A (List.mem_of_getElem? hA)).mono HB.out) (by have := HR.out.1.2.2; omega) (by have := hok.2.1; omega) (by have := hok.1; omega))
      unfold ActV.cells at DO
      have g0 : (0 : Int) ≤ (j : Int) := by omega
      have g1 : (j : Int) < (l.length : Int) := by omega
      have w1' : wrap64 ((j : Int) + 1) = (j : Int) + 1 := by unfold wrap64; omega
      have W1 := Lib.hid w1'
      have NX := Lib.hid (show ∀ w', Turn wr p q (actS (runActs St.new (l.take j)) A).1 w' → ∃ j' : Nat, j' ≤ l.length ∧ Value.int .i64 ((j : Int) + 1) = .int .i64 (j' : Int) ∧ ∃ q, Hid (DAt w.heap.size w' p (runActs St.new (l.take j')) q ∧ Below w.heap.size w w') from fun w' ht => by
        obtain ⟨⟨q', h1⟩, b1⟩ := HR.out.1.turn hsz ht (act_keep60 HR.out.1.2.2 hok.2.1)
        exact ⟨j + 1, hlt, rfl, q', Lib.hid ⟨by rw [runActs_snoc _ _ hA]; exact h1, HR.out.2.trans b1⟩⟩)
      have MEAS := Lib.hid (show l.length - (intOf (.int .i64 ((j : Int) + 1))).toNat < l.length - (intOf (.int .i64 (j : Int))).toNat by simp [intOf]; omega)
      clear hacts hbelB hc hb hok hA hlt hj w1' hsz HR
      go_wp2_with (go_at_call 12; refine DO.out.mono ?_; rintro e w' ⟨rfl, ht⟩; have HX := Lib.hid (NX.out w' ht); clear ht NX DO)
      go_roundw
      case rel => first | exact HX.out | (rw [W1.out]; exact HX.out)
      case measure => first | exact MEAS.out | (rw [W1.out]; exact MEAS.out)
    · have g1 : ¬ (j : Int) < (l.length : Int) := by omega
      have hjk : j = l.length := by omega
      have FIN := Lib.hid (show DAt w.heap.size wr p (runActs St.new l) q ∧ Below w.heap.size w wr from by
        have := HR.out
        rw [hjk, List.take_of_length_le (Nat.le_refl _)] at this
        exact this)
      clear hjk hlt hj HR
      go_wp2
      go_ret
      exact ⟨p, rfl, ⟨q, FIN.out.1⟩, FIN.out.2⟩
set_option maxHeartbeats 4000000 in
theorem after_any {w : World} {p : Nat} {s : St} {q : Parts} (h : DiskIs w p s q) (hk : s.keep.length ≤ 60) (f : Int) (hf : InI f) (v : Value) (l : List Int) (hv : SrcAt w v l.length (intCells l)) (hb : l ≠ [] → ∀ b, v.ownBlock = some b → b < w.heap.size) (hl : l.length ≤ 1099511627776) :
    Calls Try.prog 23 #[.pointer (some ⟨p, 0, none⟩), .int .i64 f, v] w fun e w' => e = .returned (.tuple #[.string (bs ((s.crash l).start.read f 0 16777216).1), .bool ((((s.crash l).start.read f 0 16777216).2) == 0)]) ∧ Below w.heap.size w w' := by
  have CP := Lib.hid (copy_any h (by omega))
  have NX := Lib.hid (show ∀ w1 p', Fresh w p' s w1 → Hid (Calls Try.prog 25 #[.pointer (some ⟨p', 0, none⟩), v] w1 fun e w2 => e = .returned (.tuple #[]) ∧
      Hid (Calls Try.prog 26 #[.pointer (some ⟨p', 0, none⟩)] w2 fun e w3 => e = .returned (.tuple #[]) ∧
        Hid (Calls Try.prog 20 #[.pointer (some ⟨p', 0, none⟩), .int .i64 f, .int .i64 0, .int .i64 16777216] w3 fun e w4 => e = .returned (.tuple #[.string (bs ((s.crash l).start.read f 0 16777216).1), .int .i64 ((s.crash l).start.read f 0 16777216).2]) ∧ w3 = w4 ∧ Below w.heap.size w w3))) from by
    rintro w1 p' ⟨q1, h1, m1, b1⟩
    have hv1 : SrcAt w1 v l.length (intCells l) := srcAt_kept (S := fun _ => False) hv (Chg.of_below b1) (fun _ _ _ h => h)
    refine Lib.hid ((crash_any h1 v l hv1 (fun hne b e => ?_) hl).mono ?_)
    · have hlt := hb hne b e
      exact ⟨Nat.lt_of_lt_of_le hlt b1.size, fun e2 => by have := m1 b (.inr (.inr (.inl e2))); omega, fun f e2 => by have := m1 b (.inr (.inr (.inr (.inr (.inr (.inr (.inr ⟨f, e2⟩))))))); omega⟩
    rintro e w2 ⟨rfl, q2, h2, m2, k2⟩
    refine ⟨rfl, Lib.hid ((start_any h2).mono ?_)⟩
    rintro e w3 ⟨rfl, q3, h3, m3, k3⟩
    refine ⟨rfl, Lib.hid ((read_any h3 f 0 16777216 hf (by unfold InI; omega) (by unfold InI; omega)).mono ?_)⟩
    rintro e w4 ⟨rfl, rfl⟩
    refine ⟨rfl, rfl, b1.trans ((k2.below b1.size (fun k hk hm => by have := m1 k hm; omega)).trans (k3.below (Nat.le_trans b1.size k2.size) (fun k hk hm => ?_)))⟩
    rcases m2 k hm with h5 | h5
    · have := m1 k h5; omega
    · have := b1.size; omega)
  generalize (s.crash l).start.read f 0 16777216 = r at *
  obtain ⟨T, c⟩ := r
  clear h hv hb
  go_enter Try.func23, Try.ntmps23
  go_wp2_with (first
    | (go_at_call 18; refine CP.out.mono ?_; rintro e w1 ⟨p', rfl, hfr⟩; have C1 := NX.out w1 p' hfr; clear hfr NX CP)
    | (go_at_call 25; refine C1.out.mono ?_; rintro e w2 ⟨rfl, C2⟩)
    | (go_at_call 26; refine C2.out.mono ?_; rintro e w3 ⟨rfl, C3⟩)
    | (go_at_call 20; refine C3.out.mono ?_; rintro e w4 ⟨rfl, rfl, hbel⟩; have HBEL := Lib.hid hbel; clear hbel))
  go_ret2
  exact ⟨rfl, HBEL.out⟩
theorem byteAt_any (t : ByteArray) (i : Int) (w : World) (ht : t.size ≤ 4611686018427387904) : Calls Try.prog 24 #[.string t, .int .i64 i] w fun e w' => e = .returned (.int .u8 (if i < 0 then 0 else (at0 t.data.toList i.toNat).toNat)) ∧ w = w' := by
  by_cases h0 : i < 0
  · rw [if_pos h0]
    go_enter Try.func24, Try.ntmps24
    go_wp2
    go_ret
    exact ⟨rfl, rfl⟩
  · rw [if_neg h0]
    obtain ⟨m, rfl⟩ : ∃ m : Nat, i = m := ⟨i.toNat, by omega⟩
    rw [Int.toNat_natCast]
    by_cases h1 : m < t.size
    · have e : at0 t.data.toList m = t[m] := by rw [at0_lt (by simpa using h1)]; rfl
      rw [e]
      have g1 : (m : Int) < (t.size : Int) := by omega
      have g0 : (0 : Int) ≤ (m : Int) := by omega
      go_enter Try.func24, Try.ntmps24
      go_wp2
      go_ret
      exact ⟨rfl, rfl⟩
    · have e : at0 t.data.toList m = 0 := at0_ge (by have : t.data.toList.length = t.size := rfl; omega)
      rw [e]
      have g1 : ¬ (m : Int) < (t.size : Int) := by omega
      have g2 : (t.size : Int) ≤ (m : Int) := by omega
      go_enter Try.func24, Try.ntmps24
      go_wp2
      go_ret
      exact ⟨rfl, rfl⟩
end Go.Proofs.Ytgebfhikahjahaa
