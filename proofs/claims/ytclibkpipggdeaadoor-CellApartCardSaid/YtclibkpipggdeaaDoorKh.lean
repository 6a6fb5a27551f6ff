/-
  CellApart: the walk.
-/
import Derived.Test.YtclibkpipggdeaaDoorKg
namespace Go.Proofs.YtclibkpipggdeaaDoor
open Go.RowKit Go.Maps WireM DiskM CellM
set_option linter.unusedVariables false
set_option linter.unusedSimpArgs false
set_option maxRecDepth 100000

/-- What is read in the end. -/
theorem apart_math {f g : Int} (hf : isF f) (hg : isF g) (hfg : f ≠ g) (S T : List UInt8) (hS : S.length ≤ 400) (hT : T.length ≤ 400) (n : Int) (hn : n ≤ 9223372036854775807) (k : List Int) {s1 s3 : St} {c1 cb : CS} {r1 x : Int}
    (e1 : setS St.new f ⟨0, [], false⟩ S = (s1, c1, r1)) (e3 : setS (s1.arm n k) g ⟨0, [], false⟩ T = (s3, cb, x)) :
    r1 = 0 ∧ ∃ ca' cb', openS (s3.crash k).start f = (some ca', 0) ∧ openS (s3.crash k).start g = (some cb', 0) ∧ ca'.slot ≠ 0 ∧ ca'.val = S ∧ ((cb'.slot ≠ 0 ∧ cb'.val = T) ∨ (cb'.slot = 0 ∧ x ≠ 0)) := by
  have o1 := set_ok (s := St.new) (f := f) (c := ⟨0, [], false⟩) (t := S) rfl hf rfl rfl rfl (by omega)
  rw [e1] at o1
  have G1 := set_good (good_new.2 hf) S
  rw [e1] at G1
  obtain ⟨_, _, _, ga⟩ := G1.1 o1.1
  have gb : CellM.Good s1 g ⟨0, [], false⟩ True [] := by
    have := other_set (good_new.2 hg) hf (fun e => hfg e.symm) ⟨0, [], false⟩ S
    rw [e1] at this; exact this
  have ga2 := good_arm ga hn k
  have gb2 := good_arm gb hn k
  have ga3 : CellM.Good s3 f c1 False [S] := by
    have := other_set ga2 hg hfg ⟨0, [], false⟩ T
    rw [e3] at this; exact this
  have P := set_good gb2 T
  rw [e3] at P
  refine ⟨o1.1, ?_⟩
  obtain ⟨ca', oa, _, ha⟩ := good_again ga3 k
  have ha' : ca'.slot ≠ 0 ∧ ca'.val = S := by
    rcases ha with h | h
    · exact h.2.1.elim
    · exact ⟨h.1, by simpa using h.2.1⟩
  by_cases hx : x = 0
  · obtain ⟨_, _, _, gb3⟩ := P.1 hx
    obtain ⟨cb', ob, _, hb⟩ := good_again gb3 k
    refine ⟨ca', cb', oa, ob, ha'.1, ha'.2, .inl ?_⟩
    rcases hb with h | h
    · exact h.2.1.elim
    · exact ⟨h.1, by simpa using h.2.1⟩
  · have gb3 := P.2 hx
    obtain ⟨cb', ob, _, hb⟩ := good_again gb3 k
    refine ⟨ca', cb', oa, ob, ha'.1, ha'.2, ?_⟩
    rcases hb with h | h
    · exact .inr ⟨h.1, hx⟩
    · exact .inl ⟨h.1, by simpa using h.2.1⟩
theorem bs_data (s : ByteArray) : bs s.data.toList = s := rfl
set_option maxHeartbeats 16000000 in
theorem apart_main {w : World} (hS : Slots w) (s t : ByteArray) (f g n : Int) {a : Option Addr} {c : Nat} {k : List Int} (K : NumsAt w a c k) (hs : s.size ≤ 400) (ht : t.size ≤ 400) (hf : isF f) (hg : isF g) (hfg : f ≠ g) (hk : k.length ≤ 100) (hn : InI n) :
    Calls Tryd.prog 7 #[.string s, .string t, .int .i64 f, .int .i64 g, .int .i64 n, .slice a k.length c] w fun e w' => e = .returned (.bool true) ∧ Below w.heap.size w w' := by
  obtain ⟨s1, c1, r1, e1⟩ : ∃ s1 c1 r1, setS St.new f ⟨0, [], false⟩ s.data.toList = (s1, c1, r1) := ⟨_, _, _, rfl⟩
  obtain ⟨s3, cb, x, e3⟩ : ∃ s3 cb x, setS (s1.arm n k) g ⟨0, [], false⟩ t.data.toList = (s3, cb, x) := ⟨_, _, _, rfl⟩
  obtain ⟨hr1, ca', cb', oa, ob, hca, hva, hcb⟩ := apart_math hf hg hfg s.data.toList t.data.toList (by show s.size ≤ 400; exact hs) (by show t.size ≤ 400; exact ht) n hn.2 k e1 e3
  have hfI : InI f := by have h1 := hf.1; have h2 := hf.2; unfold InI; omega
  have hgI : InI g := by have h1 := hg.1; have h2 := hg.2; unfold InI; omega
  have SM := Lib.hid (csmall_any w hS)
  have NW := Lib.hid (fun W (b : Below w.heap.size w W) => show Calls Tryd.prog 10 #[] W (fun e w' => ∃ p, e = .returned (.pointer (some ⟨p, 0, none⟩)) ∧ Tog w w' [kDisk p St.new]) from ((Tog.nil w).on b).new)
  have OA := Lib.hid (fun W p (hW : Tog w W [kDisk p St.new]) => show Calls Tryd.prog 12 #[.pointer (some ⟨p, 0, none⟩), .int .i64 f] W (fun e w' => ∃ z, e = .returned (.tuple #[.pointer (some ⟨z, 0, none⟩), .int .i64 0]) ∧ Tog w w' [kDisk p St.new, kCell 67 z p f ⟨0, [], false⟩]) from by
    have := open_any hW hS (i := 0) rfl f hfI
    rw [open_new f hf] at this
    exact this)
  have OB := Lib.hid (fun W p z (hW : Tog w W [kDisk p St.new, kCell 67 z p f ⟨0, [], false⟩]) => show Calls Tryd.prog 12 #[.pointer (some ⟨p, 0, none⟩), .int .i64 g] W (fun e w' => ∃ z2, e = .returned (.tuple #[.pointer (some ⟨z2, 0, none⟩), .int .i64 0]) ∧ Tog w w' [kDisk p St.new, kCell 67 z p f ⟨0, [], false⟩, kCell 67 z2 p g ⟨0, [], false⟩]) from by
    have := open_any hW hS (i := 0) rfl g hgI
    rw [open_new g hg] at this
    exact this)
  have SA := Lib.hid (fun W p z z2 (hW : Tog w W [kDisk p St.new, kCell 67 z p f ⟨0, [], false⟩, kCell 67 z2 p g ⟨0, [], false⟩]) => show Calls Tryd.prog 14 #[.pointer (some ⟨z, 0, none⟩), .string s] W (fun e w' => e = .returned (.int .i64 0) ∧ Tog w w' [kDisk p s1, kCell 67 z p f c1, kCell 67 z2 p g ⟨0, [], false⟩]) from by
    have := cset_any (l := [kDisk p St.new, kDisk p St.new, kCell 67 z2 p g ⟨0, [], false⟩]) (i := 0) (j := 1) (by decide) (by simp) (by simp) hW hS s.data.toList
    rw [e1, hr1] at this
    exact this)
  have AR := Lib.hid (fun W p z z2 (hW : Tog w W [kDisk p s1, kCell 67 z p f c1, kCell 67 z2 p g ⟨0, [], false⟩]) => show Calls Tryd.prog 18 #[.pointer (some ⟨p, 0, none⟩), .int .i64 n, .slice a k.length c] W (fun e w' => e = .returned (.tuple #[]) ∧ Tog w w' [kDisk p (s1.arm n k), kCell 67 z p f c1, kCell 67 z2 p g ⟨0, [], false⟩]) from hW.arm (i := 0) rfl K n hn.2)
  have SB := Lib.hid (fun W p z z2 (hW : Tog w W [kDisk p (s1.arm n k), kCell 67 z p f c1, kCell 67 z2 p g ⟨0, [], false⟩]) => show Calls Tryd.prog 14 #[.pointer (some ⟨z2, 0, none⟩), .string t] W (fun e w' => e = .returned (.int .i64 x) ∧ Tog w w' [kDisk p s3, kCell 67 z p f c1, kCell 67 z2 p g cb]) from by
    have := cset_any (l := [kDisk p St.new, kCell 67 z p f c1, kDisk p St.new]) (i := 0) (j := 2) (by decide) (by simp) (by simp) hW hS t.data.toList
    rw [e3] at this
    exact this)
  have CR := Lib.hid (fun W p z z2 (hW : Tog w W [kDisk p s3, kCell 67 z p f c1, kCell 67 z2 p g cb]) => show Calls Tryd.prog 25 #[.pointer (some ⟨p, 0, none⟩), .slice a k.length c] W (fun e w' => e = .returned (.tuple #[]) ∧ Tog w w' [kDisk p (s3.crash k), kCell 67 z p f c1, kCell 67 z2 p g cb]) from hW.crash (i := 0) rfl K)
  have SR := Lib.hid (fun W p z z2 (hW : Tog w W [kDisk p (s3.crash k), kCell 67 z p f c1, kCell 67 z2 p g cb]) => show Calls Tryd.prog 26 #[.pointer (some ⟨p, 0, none⟩)] W (fun e w' => e = .returned (.tuple #[]) ∧ Tog w w' [kDisk p (s3.crash k).start, kCell 67 z p f c1, kCell 67 z2 p g cb]) from hW.start (i := 0) rfl)
  generalize (s3.crash k).start = s5 at *
  have PA := Lib.hid (fun W p z z2 (hW : Tog w W [kDisk p s5, kCell 67 z p f c1, kCell 67 z2 p g cb]) => show Calls Tryd.prog 12 #[.pointer (some ⟨p, 0, none⟩), .int .i64 f] W (fun e w' => ∃ z3, e = .returned (.tuple #[.pointer (some ⟨z3, 0, none⟩), .int .i64 0]) ∧ Tog w w' [kDisk p s5, kCell 67 z p f c1, kCell 67 z2 p g cb, kCell 67 z3 p f ca']) from by
    have := open_any hW hS (i := 0) rfl f hfI
    rw [oa] at this
    exact this)
  have PB := Lib.hid (fun W p z z2 z3 (hW : Tog w W [kDisk p s5, kCell 67 z p f c1, kCell 67 z2 p g cb, kCell 67 z3 p f ca']) => show Calls Tryd.prog 12 #[.pointer (some ⟨p, 0, none⟩), .int .i64 g] W (fun e w' => ∃ z4, e = .returned (.tuple #[.pointer (some ⟨z4, 0, none⟩), .int .i64 0]) ∧ Tog w w' [kDisk p s5, kCell 67 z p f c1, kCell 67 z2 p g cb, kCell 67 z3 p f ca', kCell 67 z4 p g cb']) from by
    have := open_any hW hS (i := 0) rfl g hgI
    rw [ob] at this
    exact this)
  have GA := Lib.hid (fun W p z z2 z3 z4 (hW : Tog w W [kDisk p s5, kCell 67 z p f c1, kCell 67 z2 p g cb, kCell 67 z3 p f ca', kCell 67 z4 p g cb']) => show Calls Tryd.prog 23 #[.pointer (some ⟨z3, 0, none⟩)] W (fun e w' => e = .returned (.tuple #[.string s, .bool true]) ∧ Tog w w' [kDisk p s5, kCell 67 z p f c1, kCell 67 z2 p g cb, kCell 67 z3 p f ca', kCell 67 z4 p g cb']) from by
    have := cget_any hW (j := 3) rfl
    rw [hva, decide_eq_true hca] at this
    exact this)
  obtain ⟨v, hv⟩ : ∃ v, v = bs cb'.val := ⟨_, rfl⟩
  obtain ⟨d, hd⟩ : ∃ d, d = decide (cb'.slot ≠ 0) := ⟨_, rfl⟩
  have GB := Lib.hid (fun W p z z2 z3 z4 (hW : Tog w W [kDisk p s5, kCell 67 z p f c1, kCell 67 z2 p g cb, kCell 67 z3 p f ca', kCell 67 z4 p g cb']) => show Calls Tryd.prog 23 #[.pointer (some ⟨z4, 0, none⟩)] W (fun e w' => e = .returned (.tuple #[.string v, .bool d]) ∧ Tog w w' [kDisk p s5, kCell 67 z p f c1, kCell 67 z2 p g cb, kCell 67 z3 p f ca', kCell 67 z4 p g cb']) from by
    have := cget_any hW (j := 4) rfl
    rw [← hv, ← hd] at this
    exact this)
  have hcase : (d = true ∧ v = t) ∨ (d = false ∧ (x != 0) = true) := by
    rcases hcb with ⟨h1, h2⟩ | ⟨h1, h2⟩
    · exact .inl ⟨by rw [hd, decide_eq_true h1], by rw [hv, h2]; rfl⟩
    · exact .inr ⟨by rw [hd]; simp [h1], by simpa using h2⟩
  have i1 : ¬ (400 : Int) < (s.size : Int) := by omega
  have i2 : ¬ (400 : Int) < (t.size : Int) := by omega
  have i3 : ¬ f < 0 := by have := hf.1; omega
  have i4 : ¬ 15 < f := by have := hf.2; omega
  have i5 : ¬ g < 0 := by have := hg.1; omega
  have i6 : ¬ 15 < g := by have := hg.2; omega
  have i7 : (f == g) = false := by simpa using hfg
  have i8 : ¬ (100 : Int) < (k.length : Int) := by omega
  clear e1 e3 oa ob hca hva hcb hv hd hr1 hfI hgI hS K hs ht hf hg hfg hk hn
  rcases hcase with ⟨rfl, rfl⟩ | ⟨rfl, hx⟩
  all_goals
    go_enter Tryd.func7, Tryd.ntmps7
    go_wp2_with (first
      | (go_at_call 8; refine SM.out.mono ?_; rintro e w1 ⟨rfl, b1⟩; have B1 := Lib.hid b1; clear b1 SM)
      | (go_at_call 10; refine (NW.out _ B1.out).mono ?_; rintro e w2 ⟨p, rfl, t2⟩; have T2 := Lib.hid t2; clear t2 NW)
      | (go_at_call 12; refine (OA.out _ _ T2.out).mono ?_; rintro e w3 ⟨z, rfl, t3⟩; have T3 := Lib.hid t3; clear t3 OA)
      | (go_at_call 12; refine (OB.out _ _ _ T3.out).mono ?_; rintro e w4 ⟨z2, rfl, t4⟩; have T4 := Lib.hid t4; clear t4 OB)
      | (go_at_call 14; refine (SA.out _ _ _ _ T4.out).mono ?_; rintro e w5 ⟨rfl, t5⟩; have T5 := Lib.hid t5; clear t5 SA)
      | (go_at_call 18; refine (AR.out _ _ _ _ T5.out).mono ?_; rintro e w6 ⟨rfl, t6⟩; have T6 := Lib.hid t6; clear t6 AR)
      | (go_at_call 14; refine (SB.out _ _ _ _ T6.out).mono ?_; rintro e w7 ⟨rfl, t7⟩; have T7 := Lib.hid t7; clear t7 SB)
      | (go_at_call 25; refine (CR.out _ _ _ _ T7.out).mono ?_; rintro e w8 ⟨rfl, t8⟩; have T8 := Lib.hid t8; clear t8 CR)
      | (go_at_call 26; refine (SR.out _ _ _ _ T8.out).mono ?_; rintro e w9 ⟨rfl, t9⟩; have T9 := Lib.hid t9; clear t9 SR)
      | (go_at_call 12; refine (PA.out _ _ _ _ T9.out).mono ?_; rintro e w10 ⟨z3, rfl, t10⟩; have T10 := Lib.hid t10; clear t10 PA)
      | (go_at_call 12; refine (PB.out _ _ _ _ _ T10.out).mono ?_; rintro e w11 ⟨z4, rfl, t11⟩; have T11 := Lib.hid t11; clear t11 PB)
      | (go_at_call 23; refine (GA.out _ _ _ _ _ _ T11.out).mono ?_; rintro e w12 ⟨rfl, t12⟩; have T12 := Lib.hid t12; clear t12 GA)
      | (go_at_call 23; refine (GB.out _ _ _ _ _ _ T12.out).mono ?_; rintro e w13 ⟨rfl, t13⟩; have T13 := Lib.hid t13; clear t13 GB))
    all_goals
      go_ret
      exact ⟨by first | rfl | simp_all, T13.out.bel⟩
set_option maxHeartbeats 4000000 in
theorem apart_few {w : World} (hS : Slots w) (s t : ByteArray) (f g n : Int) {a : Option Addr} {c : Nat} {m : Nat} (hs : s.size ≤ maxLen) (ht : t.size ≤ maxLen) (hg : ¬ (s.size ≤ 400 ∧ t.size ≤ 400 ∧ isF f ∧ isF g ∧ f ≠ g ∧ m ≤ 100)) :
    Calls Tryd.prog 7 #[.string s, .string t, .int .i64 f, .int .i64 g, .int .i64 n, .slice a m c] w fun e w' => e = .returned (.bool true) ∧ Below w.heap.size w w' := by
  have SM := Lib.hid (csmall_any w hS)
  by_cases hfg : f = g
  · subst hfg
    clear hg hS
    go_enter Tryd.func7, Tryd.ntmps7
    go_wp2_with (first
      | (go_at_call 8; refine SM.out.mono ?_; rintro e w1 ⟨rfl, b1⟩; have B1 := Lib.hid b1; clear b1 SM)
      | (exfalso; omega))
    all_goals (go_ret; exact ⟨rfl, B1.out⟩)
  · have i7 : (f == g) = false := by simpa using hfg
    have hg' : ¬ ((s.size : Int) ≤ 400 ∧ (t.size : Int) ≤ 400 ∧ 0 ≤ f ∧ f ≤ 15 ∧ 0 ≤ g ∧ g ≤ 15 ∧ (m : Int) ≤ 100) := fun h => hg ⟨by omega, by omega, ⟨h.2.2.1, by omega⟩, ⟨h.2.2.2.2.1, by omega⟩, hfg, by omega⟩
    clear hg hfg hS
    go_enter Tryd.func7, Tryd.ntmps7
    go_wp2_with (first
      | (go_at_call 8; refine SM.out.mono ?_; rintro e w1 ⟨rfl, b1⟩; have B1 := Lib.hid b1; clear b1 SM)
      | (exfalso; omega))
    all_goals first
      | (go_ret; exact ⟨rfl, B1.out⟩)
      | (exfalso; omega)
theorem apart_any {w : World} (hS : Slots w) (s t : ByteArray) (f g n : Int) {a : Option Addr} {c : Nat} {k : List Int} (src : SrcAt w (.slice a k.length c) k.length (intCells k)) (low : k ≠ [] → ∀ b, (Value.slice a k.length c).ownBlock = some b → b < w.heap.size) (hs : s.size ≤ maxLen) (ht : t.size ≤ maxLen) (hn : InI n) :
    Calls Tryd.prog 7 #[.string s, .string t, .int .i64 f, .int .i64 g, .int .i64 n, .slice a k.length c] w fun e w' => e = .returned (.bool true) ∧ Below w.heap.size w w' := by
  by_cases hg : s.size ≤ 400 ∧ t.size ≤ 400 ∧ isF f ∧ isF g ∧ f ≠ g ∧ k.length ≤ 100
  · obtain ⟨g1, g2, g3, g4, g5, g6⟩ := hg
    exact apart_main hS s t f g n ⟨src, low, by omega⟩ g1 g2 g3 g4 g5 g6 hn
  · exact apart_few hS s t f g n hs ht hg
end Go.Proofs.YtclibkpipggdeaaDoor
