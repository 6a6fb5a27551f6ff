/-
  DiskArms: the walk.
-/
import Derived.Test.YtgebfhikahjahaaEo
import Derived.Test.YtgebfhikahjahaaEp
namespace Go.Proofs.Ytgebfhikahjahaa
open Go.RowKit Go.Maps WireM DiskM
set_option linter.unusedVariables false
set_option linter.unusedSimpArgs false

set_option maxHeartbeats 4000000 in
set_option maxRecDepth 100000 in
theorem arms_few {w : World} {a ka : Option Addr} {c kc : Nat} {l : List ActV} {k : List Int} (h : ActsAt w.heap.size w a l) (n : Int) (hk : k.length ≤ maxLen) (hg : ¬ (Few l ∧ k.length ≤ 60 ∧ 1 ≤ n ∧ n ≤ 60)) :
    Calls Try.prog 6 #[.slice a l.length c, .int .i64 n, .slice ka k.length kc] w fun e w' => e = .returned (.bool true) ∧ Below w.heap.size w w' := by
  have H := Lib.hid h
  have D0 := Lib.hid (Below.refl w.heap.size w)
  clear h
  unfold maxLen at hk
  by_cases hf : Few l
  · have FD := Lib.hid (decide_eq_true hf)
    have hg' : ¬ ((k.length : Int) ≤ 60 ∧ 1 ≤ n ∧ n ≤ 60) := fun h => hg ⟨hf, by omega, h.2⟩
    clear hg hf
    go_enter Try.func6, Try.ntmps6
    go_wp2_with (first
      | (go_at_call 8; refine (small_at D0.out).mono ?_; rintro e w1 ⟨rfl, b1⟩; have D1 := Lib.hid b1; clear b1 D0)
      | (go_at_call 9; refine (few_at H.out D1.out FD.out).mono ?_; rintro e w1 ⟨rfl, rfl⟩; clear FD)
      | (exfalso; omega))
    all_goals (go_ret; exact ⟨rfl, D1.out⟩)
  · have FD := Lib.hid (decide_eq_false hf)
    clear hg hf
    go_enter Try.func6, Try.ntmps6
    go_wp2_with (first
      | (go_at_call 8; refine (small_at D0.out).mono ?_; rintro e w1 ⟨rfl, b1⟩; have D1 := Lib.hid b1; clear b1 D0)
      | (go_at_call 9; refine (few_at H.out D1.out FD.out).mono ?_; rintro e w1 ⟨rfl, rfl⟩; clear FD))
    all_goals (go_ret; exact ⟨rfl, D1.out⟩)
set_option maxHeartbeats 4000000 in
set_option maxRecDepth 100000 in
theorem arms_main {w : World} {a ka : Option Addr} {c kc : Nat} {l : List ActV} {k : List Int} (h : ActsAt w.heap.size w a l) (n : Int) (hf : Few l) (K : ListAt w ka kc k) (n0 : 1 ≤ n) (n1 : n ≤ 60) :
    Calls Try.prog 6 #[.slice a l.length c, .int .i64 n, .slice ka k.length kc] w fun e w' => e = .returned (.bool true) ∧ Below w.heap.size w w' := by
  have H := Lib.hid h
  have HF := Lib.hid hf
  have HK := Lib.hid K
  have D0 := Lib.hid (Below.refl w.heap.size w)
  have FD := Lib.hid (decide_eq_true hf)
  have hk' : (k.length : Int) ≤ 60 := by have := K.len; omega
  have hl : l.length ≤ 40 := hf.2
  clear h hf K
  go_enter Try.func6, Try.ntmps6
  go_wp2_with (first
    | (go_at_call 8; refine (small_at D0.out).mono ?_; rintro e w1 ⟨rfl, b1⟩; have D1 := Lib.hid b1; clear b1 D0)
    | (go_at_call 9; refine (few_at H.out D1.out FD.out).mono ?_; rintro e w1 ⟨rfl, rfl⟩; clear FD)
    | (go_at_call 10; refine (new_any _).mono ?_; rintro e w2 ⟨p, rfl, hs⟩; have D2 := Lib.hid (S1.made hs D1.out (by simp [St.new])); clear hs D1)
    | (go_at_call 10; refine (new_any _).mono ?_; rintro e w3 ⟨p', rfl, hs⟩; have D3 := Lib.hid (S2.made D2.out hs (by simp [St.new])); clear hs D2)
    | (go_at_call 27; refine (D3.out.arm HK.out n (by omega)).mono ?_; rintro e w4 ⟨rfl, hs⟩; have D4 := Lib.hid hs; clear hs D3))
  have ST := Lib.hid (show ∃ d c, S2 w w4 p d p' c ∧ (Before n k ((0 : Nat) : Int) d c ∨ Behind n ((0 : Nat) : Int) d c) from ⟨_, _, D4.out, .inl ⟨by omega, rfl, rfl, by rw [show n - ((0 : Nat) : Int) = n by omega]⟩⟩)
  clear D4
  go_loopw [11, 10] (fun i x wr => ∃ j cnt : Nat, j ≤ l.length ∧ cnt ≤ j ∧ i = .int .i64 (j : Int) ∧ x = .int .i64 (cnt : Int) ∧ Hid (∃ d c, S2 w wr p d p' c ∧ (Before n k (cnt : Int) d c ∨ Behind n (cnt : Int) d c))) (fun i _ _ => l.length - (intOf i).toNat)
  case atStart => exact ⟨0, 0, Nat.zero_le _, Nat.le_refl _, rfl, rfl, ST⟩
  case round =>
    obtain ⟨j, cnt, hj, hcj, rfl, rfl, HR⟩ := hrel
    by_cases hlt : j < l.length
    · obtain ⟨d, c', hs2, hph⟩ := HR.out
      obtain ⟨A, hA⟩ : ∃ A, l[j]? = some A := ⟨_, List.getElem?_eq_getElem hlt⟩
      have hacts := H.out.below hs2.fst.bel
      rcases hacts.cells with e | ⟨b, o, rfl, hb, hc⟩
      · rw [e] at hlt; simp at hlt
      obtain ⟨c0, c1, c2, c3, c4⟩ := hc j A hA
      have HOK := Lib.hid (HF.out.1 A (List.mem_of_getElem? hA))
      have HOKA := Lib.hid (H.out.ok A (List.mem_of_getElem? hA))
      have g0 : (0 : Int) ≤ (j : Int) := by omega
      have g1 : (j : Int) < (l.length : Int) := by omega
      have w1' : wrap64 ((j : Int) + 1) = (j : Int) + 1 := by unfold wrap64; omega
      have W1 := Lib.hid w1'
      have w2' : wrap64 ((cnt : Int) + 1) = (cnt : Int) + 1 := by unfold wrap64; omega
      have NX0 := Lib.hid (show ∀ w' d' c'', S2 w w' p d' p' c'' → (Before n k (cnt : Int) d' c'' ∨ Behind n (cnt : Int) d' c'') → ∃ j' cnt' : Nat, j' ≤ l.length ∧ cnt' ≤ j' ∧ Value.int .i64 ((j : Int) + 1) = .int .i64 (j' : Int) ∧ Value.int .i64 (cnt : Int) = .int .i64 (cnt' : Int) ∧ Hid (∃ d c, S2 w w' p d p' c ∧ (Before n k (cnt' : Int) d c ∨ Behind n (cnt' : Int) d c)) from fun w' d' c'' h1 h2 => ⟨j + 1, cnt, hlt, by omega, rfl, rfl, Lib.hid ⟨d', c'', h1, h2⟩⟩)
      have NX1 := Lib.hid (show ∀ w' d' c'', S2 w w' p d' p' c'' → (Before n k ((cnt : Int) + 1) d' c'' ∨ Behind n ((cnt : Int) + 1) d' c'') → ∃ j' cnt' : Nat, j' ≤ l.length ∧ cnt' ≤ j' ∧ Value.int .i64 ((j : Int) + 1) = .int .i64 (j' : Int) ∧ Value.int .i64 ((cnt : Int) + 1) = .int .i64 (cnt' : Int) ∧ Hid (∃ d c, S2 w w' p d p' c ∧ (Before n k (cnt' : Int) d c ∨ Behind n (cnt' : Int) d c)) from fun w' d' c'' h1 h2 => ⟨j + 1, cnt + 1, hlt, by omega, rfl, rfl, Lib.hid ⟨d', c'', h1, h2⟩⟩)
      have MEAS := Lib.hid (show l.length - (intOf (.int .i64 ((j : Int) + 1))).toNat < l.length - (intOf (.int .i64 (j : Int))).toNat by simp [intOf]; omega)
      have DA := Lib.hid (show Calls Try.prog 12 #[.pointer (some ⟨p, 0, none⟩), .agg A.cells] wr fun e w' => e = .returned (.int .i64 (actS d A).2) ∧ S2 w w' p (actS d A).1 p' c' from hs2.do A HOKA.out HOK.out)
      have DB := Lib.hid (show ∀ w' (s s' : St), S2 w w' p s p' s' → Calls Try.prog 12 #[.pointer (some ⟨p', 0, none⟩), .agg A.cells] w' fun e w'' => e = .returned (.int .i64 (actS s' A).2) ∧ S2 w w'' p s p' (actS s' A).1 from fun w' s s' h => (h.swap.do A HOKA.out HOK.out).mono (fun _ _ hh => ⟨hh.1, hh.2.swap⟩))
      have CB := Lib.hid (show ∀ w' (s s' : St), S2 w w' p s p' s' → Calls Try.prog 25 #[.pointer (some ⟨p', 0, none⟩), .slice ka k.length kc] w' fun e w'' => e = .returned (.tuple #[]) ∧ S2 w w'' p s p' (s'.crash k) from fun w' s s' h => (h.swap.crash HK.out).mono (fun _ _ hh => ⟨hh.1, hh.2.swap⟩))
      have KA := Lib.hid (show ∀ w', Below w.heap.size w w' → w'.cell? ⟨b, o + j * 5, none⟩ = some (.int .i64 A.d) ∧ w'.cell? ⟨b, o + j * 5 + 1, none⟩ = some (.int .i64 A.f) ∧ w'.cell? ⟨b, o + j * 5 + 2, none⟩ = some (.int .i64 A.n) ∧ w'.cell? ⟨b, o + j * 5 + 3, none⟩ = some (.string A.s) ∧ w'.cell? ⟨b, o + j * 5 + 4, none⟩ = some (.slice A.ka A.keep.length A.kc) from fun w' hbel => by
        have hcells := (H.out.below hbel).cells
        rcases hcells with e | ⟨b', o', e, hb', hc'⟩
        · rw [e] at hlt; simp at hlt
        · simp only [Option.some.injEq, Addr.mk.injEq] at e
          obtain ⟨rfl, rfl, _⟩ := e
          obtain ⟨x0, x1, x2, x3, x4⟩ := hc' j A hA
          exact ⟨x0, x1, x2, x3, x4⟩)
      unfold ActV.cells at DA DB
      have hbits : bits .and .i64 A.d 7 = A.d % 8 := and7 _
      have k0 : 0 ≤ A.d % 8 ∧ A.d % 8 < 8 := by omega
      have BEL := Lib.hid hs2.fst.bel
      have HS2 := Lib.hid hs2
      clear hacts hc hA w1' hb HR
      by_cases hk4 : 4 < A.d % 8
      · have D9 := BEL
        generalize A.d % 8 = kk at *
        clear hph DA DB CB KA NX0 NX1
        go_wp2
        go_ret
        exact ⟨rfl, D9.out⟩
      have hk5 : ¬ 4 < A.d % 8 := hk4
      rcases hph with hph | hph
      · obtain ⟨hcn, h0, hd, rfl⟩ := hph
        by_cases hq : A.d % 8 = 4
        · have a1 := act_lose (c'.arm (n - (cnt : Int)) k) hq
          have a2 := act_lose c' hq
          rw [a1] at DA
          have EX := Lib.hid (show Before n k (cnt : Int) ((c'.arm (n - (cnt : Int)) k).lose (A.n % 4)) (c'.lose (A.n % 4)) from ⟨hcn, h0, hd, rfl⟩)
          have A2 := Lib.hid a2
          rw [hq] at hbits
          clear a1 a2 k0 hk4 hk5 hq h0 hd hs2
          go_wp2_with (first
            | (go_at_call 12; refine (DA.out).mono ?_; rintro e w5 ⟨rfl, hs⟩; have E1 := Lib.hid hs; obtain ⟨x0, x1, x2, x3, x4⟩ := KA.out _ hs.fst.bel; clear hs DA)
            | (go_at_call 12; refine (DB.out _ _ _ E1.out).mono ?_; rintro e w6 ⟨rfl, hs⟩; rw [A2.out] at hs; rw [A2.out]; have E2 := Lib.hid hs; have FIN := Lib.hid (NX0.out _ _ _ E2.out (.inl EX.out)); clear hs E1 DB))
          go_roundw
          case rel => first | exact FIN.out | (rw [W1.out]; exact FIN.out)
          case measure => first | exact MEAS.out | (rw [W1.out]; exact MEAS.out)
        have hq4 : A.d % 8 < 4 := by omega
        by_cases hcn1 : (cnt : Int) + 1 < n
        · obtain ⟨a1, a2, a3⟩ := act_before (k := k) h0 hd hq4 (show 2 ≤ n - (cnt : Int) by omega)
          rw [a1] at DA
          have EX := Lib.hid (show Before n k ((cnt : Int) + 1) ((actS c' A).1.arm (n - (cnt : Int) - 1) k) (actS c' A).1 from ⟨hcn1, a2, a3, by rw [show n - (cnt : Int) - 1 = n - ((cnt : Int) + 1) by omega]⟩)
          generalize A.d % 8 = kk at *
          clear a1 a2 a3 k0 hk4 hk5 hq h0 hd hs2
          generalize hr : actS c' A = r at *
          obtain ⟨c2', z⟩ := r
          have HR2 := Lib.hid hr
          have hzz : (z != z) = false := by simp
          clear hr
          go_wp2_with (first
            | (go_at_call 12; refine (DA.out).mono ?_; rintro e w5 ⟨rfl, hs⟩; have E1 := Lib.hid hs; obtain ⟨x0, x1, x2, x3, x4⟩ := KA.out _ hs.fst.bel; clear hs DA)
            | (go_at_call 12; refine (DB.out _ _ _ E1.out).mono ?_; rintro e w6 ⟨rfl, hs⟩; rw [HR2.out] at hs; rw [HR2.out]; have E2 := Lib.hid hs; have FIN := Lib.hid (NX1.out _ _ _ E2.out (.inl EX.out)); clear hs E1 DB))
          go_roundw
          case rel => first | exact FIN.out | (rw [W1.out]; exact FIN.out)
          case measure => first | exact MEAS.out | (rw [W1.out]; exact MEAS.out)
        have hcn2 : n - (cnt : Int) = 1 := by omega
        have hcn3 : n = (cnt : Int) + 1 := by omega
        rw [hcn2] at DA
        by_cases hq2 : A.d % 8 < 2
        · obtain ⟨a1, a2, a3, a4⟩ := act_write (k := k) h0 hd hq2
          have EX := Lib.hid (show Behind n ((cnt : Int) + 1) (actS (c'.arm 1 k) A).1 ((actS c' A).1.crash k) from ⟨by omega, a2, a3, a4⟩)
          have DN := Lib.hid a2
          rw [a1] at DA
          have j1 : ¬ (cnt : Int) + 1 < n := hcn1
          have j2 : ((cnt : Int) + 1 == n) = true := by simp [hcn3]
          have j3 : (A.d % 8 == 4) = false := by simp; omega
          generalize A.d % 8 = kk at *
          clear a1 a2 a3 a4 k0 hk4 h0 hd hs2 hcn2 hcn3 hcn1 hcn
          go_wp2_with (first
            | (go_at_call 12; refine (DA.out).mono ?_; rintro e w5 ⟨rfl, hs⟩; have E1 := Lib.hid hs; obtain ⟨x0, x1, x2, x3, x4⟩ := KA.out _ hs.fst.bel; clear hs DA)
            | (go_at_call 12; refine (DB.out _ _ _ E1.out).mono ?_; rintro e w6 ⟨rfl, hs⟩; have E2 := Lib.hid hs; clear hs E1 DB)
            | (go_at_call 25; refine (CB.out _ _ _ E2.out).mono ?_; rintro e w7 ⟨rfl, hs⟩; have E3 := Lib.hid hs; clear hs E2 CB)
            | (go_at_call 14; refine (E3.out.fst.isDown).mono ?_; rintro e w8 ⟨rfl, rfl⟩; rw [DN.out]; have FIN := Lib.hid (NX1.out _ _ _ E3.out (.inr EX.out)); clear E3))
          go_roundw
          case rel => first | exact FIN.out | (rw [W1.out]; exact FIN.out)
          case measure => first | exact MEAS.out | (rw [W1.out]; exact MEAS.out)
        · obtain ⟨a1, a2, a3, a4⟩ := act_other (k := k) hd (A := A) (by omega)
          have EX := Lib.hid (show Behind n ((cnt : Int) + 1) (actS (c'.arm 1 k) A).1 (c'.crash k) from ⟨by omega, a2, a3, a4⟩)
          have DN := Lib.hid a2
          rw [a1] at DA
          have j1 : ¬ (cnt : Int) + 1 < n := hcn1
          have j2 : ((cnt : Int) + 1 == n) = true := by simp [hcn3]
          have j3 : (A.d % 8 == 4) = false := by simp; omega
          generalize A.d % 8 = kk at *
          clear a1 a2 a3 a4 k0 hk4 h0 hd hs2 hcn2 hcn3 hcn1 hcn
          go_wp2_with (first
            | (go_at_call 12; refine (DA.out).mono ?_; rintro e w5 ⟨rfl, hs⟩; have E2 := Lib.hid hs; obtain ⟨x0, x1, x2, x3, x4⟩ := KA.out _ hs.fst.bel; clear hs DA)
            | (go_at_call 25; refine (CB.out _ _ _ E2.out).mono ?_; rintro e w7 ⟨rfl, hs⟩; have E3 := Lib.hid hs; clear hs E2 CB)
            | (go_at_call 14; refine (E3.out.fst.isDown).mono ?_; rintro e w8 ⟨rfl, rfl⟩; rw [DN.out]; have FIN := Lib.hid (NX1.out _ _ _ E3.out (.inr EX.out)); clear E3))
          go_roundw
          case rel => first | exact FIN.out | (rw [W1.out]; exact FIN.out)
          case measure => first | exact MEAS.out | (rw [W1.out]; exact MEAS.out)
      · obtain ⟨hcn, hd, hdc, hnow⟩ := hph
        have DN := Lib.hid hd
        by_cases hq : A.d % 8 = 4
        · have a1 := act_lose d hq
          rw [a1] at DA
          have EX := Lib.hid (show Behind n (cnt : Int) (d.lose (A.n % 4)) c' from ⟨hcn, hd, hdc, hnow⟩)
          have j1 : ¬ (cnt : Int) < n := by omega
          rw [hq] at hbits
          have DN2 := Lib.hid (show (d.lose (A.n % 4)).down = true from hd)
          clear a1 k0 hk4 hk5 hq hd hdc hnow hs2 hcn DN
          by_cases hj : (cnt : Int) = n
          · have j2 : ((cnt : Int) == n) = true := by simp [hj]
            clear hj
            go_wp2_with (first
              | (go_at_call 12; refine (DA.out).mono ?_; rintro e w5 ⟨rfl, hs⟩; have E1 := Lib.hid hs; obtain ⟨x0, x1, x2, x3, x4⟩ := KA.out _ hs.fst.bel; clear hs DA)
              | (go_at_call 14; refine (E1.out.fst.isDown).mono ?_; rintro e w8 ⟨rfl, rfl⟩; rw [DN2.out]; have E2 := E1; clear E1)
              | (go_at_call 14; refine (E2.out.fst.isDown).mono ?_; rintro e w9 ⟨rfl, rfl⟩; rw [DN2.out]; have FIN := Lib.hid (NX0.out _ _ _ E2.out (.inr EX.out)); clear E2))
            go_roundw
            case rel => first | exact FIN.out | (rw [W1.out]; exact FIN.out)
            case measure => first | exact MEAS.out | (rw [W1.out]; exact MEAS.out)
          · have j2 : ((cnt : Int) == n) = false := by simp [hj]
            clear hj
            go_wp2_with (first
              | (go_at_call 12; refine (DA.out).mono ?_; rintro e w5 ⟨rfl, hs⟩; have E1 := Lib.hid hs; obtain ⟨x0, x1, x2, x3, x4⟩ := KA.out _ hs.fst.bel; clear hs DA)
              | (go_at_call 14; refine (E1.out.fst.isDown).mono ?_; rintro e w8 ⟨rfl, rfl⟩; rw [DN2.out]; have FIN := Lib.hid (NX0.out _ _ _ E1.out (.inr EX.out)); clear E1))
            go_roundw
            case rel => first | exact FIN.out | (rw [W1.out]; exact FIN.out)
            case measure => first | exact MEAS.out | (rw [W1.out]; exact MEAS.out)
        · have hq4 : A.d % 8 < 4 := by omega
          have a1 := act_behind hd hq4
          rw [a1] at DA
          have EX := Lib.hid (show Behind n ((cnt : Int) + 1) d c' from ⟨by omega, hd, hdc, hnow⟩)
          have j1 : ¬ (cnt : Int) + 1 < n := by omega
          have j2 : ((cnt : Int) + 1 == n) = false := by simp; omega
          generalize A.d % 8 = kk at *
          clear a1 k0 hk4 hd hdc hnow hs2 hcn
          go_wp2_with (first
            | (go_at_call 12; refine (DA.out).mono ?_; rintro e w5 ⟨rfl, hs⟩; have E1 := Lib.hid hs; obtain ⟨x0, x1, x2, x3, x4⟩ := KA.out _ hs.fst.bel; clear hs DA)
            | (go_at_call 14; refine (E1.out.fst.isDown).mono ?_; rintro e w8 ⟨rfl, rfl⟩; rw [DN.out]; have FIN := Lib.hid (NX1.out _ _ _ E1.out (.inr EX.out)); clear E1))
          go_roundw
          case rel => first | exact FIN.out | (rw [W1.out]; exact FIN.out)
          case measure => first | exact MEAS.out | (rw [W1.out]; exact MEAS.out)
    · have g1 : ¬ (j : Int) < (l.length : Int) := by omega
      obtain ⟨d, c', hs2, hph⟩ := HR.out
      have D5 := Lib.hid hs2
      have hdd : d.down = c'.down ∧ d.now = c'.now := by
        rcases hph with ⟨_, _, _, rfl⟩ | ⟨_, e1, e2, e3⟩
        · exact ⟨rfl, rfl⟩
        · exact ⟨e1.trans e2.symm, e3⟩
      have HD := Lib.hid hdd.1
      have HN := Lib.hid hdd.2
      clear hlt hj hcj HR hs2 hph hdd
      go_wp2_with (first
        | (go_at_call 28; refine (same_any D5.out H.out (by omega) HD.out HN.out).mono ?_; rintro e w6 ⟨rfl, hs⟩; have D6 := Lib.hid hs; clear hs D5)
        | (go_at_call 26; refine (D6.out.start).mono ?_; rintro e w7 ⟨rfl, hs⟩; have D7 := Lib.hid hs.swap; clear hs D6)
        | (go_at_call 26; refine (D7.out.start).mono ?_; rintro e w8 ⟨rfl, hs⟩; have D8 := Lib.hid hs.swap; clear hs D7)
        | (go_at_call 28; refine (same_any D8.out H.out (by omega) rfl HN.out).mono ?_; rintro e w9 ⟨rfl, hs⟩; have D9 := Lib.hid hs.fst.bel; clear hs D8))
      go_ret
      exact ⟨rfl, D9.out⟩
theorem arms_any {w : World} {a ka : Option Addr} {c kc : Nat} {l : List ActV} {k : List Int} (h : ActsAt w.heap.size w a l) (n : Int) (hk : k.length ≤ maxLen) (hs : SrcAt w (.slice ka k.length kc) k.length (intCells k)) (hl : k ≠ [] → ∀ b, (Value.slice ka k.length kc).ownBlock = some b → b < w.heap.size) :
    Calls Try.prog 6 #[.slice a l.length c, .int .i64 n, .slice ka k.length kc] w fun e w' => e = .returned (.bool true) ∧ Below w.heap.size w w' := by
  by_cases hg : Few l ∧ k.length ≤ 60 ∧ 1 ≤ n ∧ n ≤ 60
  · exact arms_main h n hg.1 ⟨hs, hl, hg.2.1⟩ hg.2.2.1 hg.2.2.2
  · exact arms_few h n hk hg
end Go.Proofs.Ytgebfhikahjahaa
