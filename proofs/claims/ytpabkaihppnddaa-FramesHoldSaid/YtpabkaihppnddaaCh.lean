/-
  THE REFERENCE: New, Has, Free, Used, Page, Byte.
-/
import Derived.Test.YtpabkaihppnddaaCg
namespace Go.Proofs.Ytpabkaihppnddaa
open Go.RowKit
set_option linter.unusedVariables false
set_option linter.unusedSimpArgs false
set_option maxRecDepth 100000
theorem bs_nonempty {q : List UInt8} (h : q.length = 64) : (bs q).toList.isEmpty = false := by
  unfold bs
  rw [ByteArray.toList_mk]
  cases q with | nil => simp at h | cons a r => rfl
theorem bs_size (q : List UInt8) : (bs q).size = q.length := rfl
section
variable {w0 w : World} {S : Nat → Prop} {l : List Kd}
theorem Tog.refAt (h : Tog w0 S w l) {i p : Nat} {L : Fm} (hi : l[i]? = some (kRef p L)) : ∃ a c, w.cell? ⟨p, 0, none⟩ = some (.slice a L.length c) ∧
    (∀ (m : Nat) (o : Option (List UInt8)), L[m]? = some o → ∃ g, a = some ⟨g, 0, none⟩ ∧ w.cell? ⟨g, m, none⟩ = some (.string (bs (o.getD []))) ∧ w.frozen? ⟨g, m, none⟩ = false ∧
      ∀ o', (FrOk (L.set m o')) → Tog w0 S (w.setCell ⟨g, m, none⟩ (.string (bs (o'.getD [])))) (l.set i (kRef p (L.set m o')))) := by
  obtain ⟨M, h1, CL⟩ := h.inner hi
  obtain ⟨ok, ⟨a, c⟩, h2⟩ := h1.openRef
  refine ⟨a, c, h2.cellAt (j := 0) rfl 0 rfl, fun m o ho => ?_⟩
  have hl := (List.getElem?_eq_some_iff.1 ho).1
  obtain ⟨g, c2, e, _⟩ := row_pos (h2.rowAt (j := 1) rfl) (by omega)
  obtain ⟨rfl, rfl⟩ : a = some ⟨g, 0, none⟩ ∧ c = c2 := by simpa [Sl.val] using e
  refine ⟨g, rfl, h2.rowCell (i := 1) rfl (strCells_at ho), h2.rowFz (i := 1) rfl m, fun o' ok' => ?_⟩
  have h3 := h2.setOne (i := 1) rfl m (.string (bs (o'.getD [])))
  rw [strCells_set] at h3
  have := CL _ _ [] (Tog.shutRef (x := (some ⟨g, 0, none⟩, c)) (L := L.set m o') (n := L.length) h3 (by simp) ok')
  rwa [List.append_nil] at this
set_option maxHeartbeats 1000000 in
theorem Tog.rnew (h : Tog w0 S w l) (n : Int) (hn : InI n) : Calls Try.prog 10 #[.int .i64 n] w fun e w' => ∃ p, e = .returned (.pointer (some ⟨p, 0, none⟩)) ∧ Tog w0 S w' (l ++ [kRef p (Fm.new n)]) := by
  obtain ⟨m, hm⟩ : ∃ m : Nat, (min (max n 0) 4096).toNat = m := ⟨_, rfl⟩
  have e0 : (if n < 0 then 0 else n) = max n 0 := by split <;> omega
  have e1 : (if 4096 < max n 0 then 4096 else max n 0) = (m : Int) := by split <;> omega
  have hm4 : m ≤ 4096 := by omega
  have g0 : (0 : Int) ≤ (m : Int) := by omega
  have k1 := fun W => elStr.make m (by unfold maxLen; omega) (by omega) W
  have FL : Fm.new n = List.replicate m none := by unfold Fm.new; rw [hm]
  have F1 := Lib.hid (show ∀ X : Value, ∃ p, X = X ∧ p = w.heap.size + 1 ∧ Tog w0 S ((w.alloc (Obj.cells (madeCells #[Value.string .empty] m) 9)).alloc (Obj.cells #[Value.slice (some ⟨w.heap.size, 0, none⟩) m m] 41)) (l ++ [kRef p (Fm.new n)]) from fun X => ⟨_, rfl, rfl, by
    have t1 := (Tog.nil w (fun _ => False)).made 9 1 m (madeCells #[Value.string .empty] m) (by rw [size_madeCells]; omega) (by unfold maxLen; omega)
    have t3 := t1.block (Obj.cells #[Value.slice (some ⟨w.heap.size, 0, none⟩) m m] 41)
    rw [show (w.alloc (Obj.cells (madeCells #[Value.string .empty] m) 9)).heap.size = w.heap.size + 1 by simp, show (madeCells #[Value.string .empty] m).toList = strCells (List.replicate m none) from by have := made_strs m; rwa [Nat.mul_one] at this] at t3
    have t4 := (t3.pick [1, 0] (l' := [_, _]) (by decide) rfl)
    have t5 := Tog.shutRef (x := (some ⟨w.heap.size, 0, none⟩, m)) (L := List.replicate m none) t4 (by simp) (by rw [← FL]; exact FrOk.new n)
    rw [FL]
    exact h.addNew t5⟩)
  clear h hm hn FL
  go_enter Try.func10, Try.ntmps10
  go_wp2
  go_ret
  obtain ⟨_, _, rfl, T⟩ := F1.out undef; exact ⟨_, rfl, T⟩
theorem Tog.rhas (h : Tog w0 S w l) {i p : Nat} {L : Fm} (hi : l[i]? = some (kRef p L)) (f : Int) (hf : InI f) : Calls Try.prog 16 #[.pointer (some ⟨p, 0, none⟩), .int .i64 f] w fun e w' => e = .returned (.bool (L.has f)) ∧ w' = w := by
  obtain ⟨a, c, c0, H⟩ := h.refAt hi
  have ok := h.okRef hi
  have hle := ok.len
  clear h hi
  by_cases h0 : 0 ≤ f
  · by_cases h1 : f < L.length
    · obtain ⟨m, rfl⟩ : ∃ m : Nat, f = m := ⟨f.toNat, by omega⟩
      obtain ⟨o, ho⟩ : ∃ o, L[m]? = some o := ⟨_, List.getElem?_eq_getElem (by omega)⟩
      obtain ⟨g, rfl, hb, _, _⟩ := H m o ho
      have E : L.has (m : Int) = o.isSome := by unfold Fm.has; rw [Fm.pg_at, ho]; rfl
      rw [E]
      cases o with
      | none =>
        have hb' : w.cell? ⟨g, m, none⟩ = some (.string ⟨#[]⟩) := hb
        simp only [Option.isSome_none]
        clear H E ho ok hb
        go_enter Try.func16, Try.ntmps16
        go_wp2
        go_ret
        exact ⟨rfl, rfl⟩
      | some q =>
        have hb' : w.cell? ⟨g, m, none⟩ = some (.string (bs q)) := hb
        have hq := bs_nonempty (ok.sz m q ho)
        simp only [Option.isSome_some]
        clear H E ho ok hb
        go_enter Try.func16, Try.ntmps16
        go_wp2
        go_ret
        exact ⟨rfl, rfl⟩
    · have E : L.has f = false := by unfold Fm.has; rw [Fm.pg_big L (by omega)]; rfl
      rw [E]
      clear H E
      go_enter Try.func16, Try.ntmps16
      go_wp2
      go_ret
      exact ⟨rfl, rfl⟩
  · have E : L.has f = false := by unfold Fm.has; rw [Fm.pg_neg L (by omega)]; rfl
    rw [E]
    clear H E
    go_enter Try.func16, Try.ntmps16
    go_wp2
    go_ret
    exact ⟨rfl, rfl⟩
theorem Tog.rfree (h : Tog w0 S w l) {i p : Nat} {L : Fm} (hi : l[i]? = some (kRef p L)) (f : Int) (hf : InI f) : Calls Try.prog 31 #[.pointer (some ⟨p, 0, none⟩), .int .i64 f] w fun e w' => e = .returned (.int .i64 (L.free f).2) ∧ Tog w0 S w' (l.set i (kRef p (L.free f).1)) := by
  have HAS := Lib.hid (h.rhas hi f hf)
  by_cases g : L.has f = true
  · obtain ⟨q, hp⟩ : ∃ q, L.pg f = some q := Option.isSome_iff_exists.1 g
    obtain ⟨m, rfl, hm, hq⟩ := Fm.pg_some hp
    have E : L.free (m : Int) = (L.set m none, 0) := by unfold Fm.free; rw [if_pos g, Int.toNat_natCast]
    have ok2 := (h.okRef hi).free (m : Int)
    have hle := (h.okRef hi).len
    rw [E] at ok2 ⊢
    obtain ⟨a, c, c0, H⟩ := h.refAt hi
    obtain ⟨g', rfl, cb, fb, ST⟩ := H m _ hq
    have FIN := Lib.hid (ST none ok2)
    have g0 : (0 : Int) ≤ (m : Int) := by omega
    have g1 : (m : Int) < (L.length : Int) := by omega
    rw [g] at HAS
    clear h hi H hp hq E g ok2 ST
    go_enter Try.func31, Try.ntmps31
    go_wp2_with (go_at_call 16; refine HAS.out.mono ?_; rintro e w' ⟨rfl, rfl⟩)
    go_ret
    exact ⟨rfl, FIN.out⟩
  · have E : L.free f = (L, 4) := by unfold Fm.free; rw [if_neg g]
    have FIN := Lib.hid (show Tog w0 S w (l.set i (kRef p L)) by rw [Tog.sameAt hi]; exact h)
    rw [E]
    rw [Bool.not_eq_true] at g
    rw [g] at HAS
    clear h hi E g
    go_enter Try.func31, Try.ntmps31
    go_wp2_with (go_at_call 16; refine HAS.out.mono ?_; rintro e w' ⟨rfl, rfl⟩)
    go_ret
    exact ⟨rfl, FIN.out⟩
theorem Tog.rused (h : Tog w0 S w l) {i p : Nat} {L : Fm} (hi : l[i]? = some (kRef p L)) : Calls Try.prog 14 #[.pointer (some ⟨p, 0, none⟩)] w fun e w' => e = .returned (.int .i64 L.used) ∧ w' = w := by
  obtain ⟨a', c', c1, H⟩ := h.refAt hi
  have ok := h.okRef hi
  have hle := ok.len
  have CE := Lib.hid (show ∀ (m : Nat) (o : Option (List UInt8)), L[m]? = some o → ∃ g, a' = some ⟨g, 0, none⟩ ∧ w.cell? ⟨g, m, none⟩ = some (.string (bs (o.getD []))) from fun m o ho => by
    obtain ⟨g', e, hb, _⟩ := H m o ho; exact ⟨g', e, hb⟩)
  have OK := Lib.hid ok
  obtain ⟨R, hR⟩ : ∃ R, R = L.used := ⟨_, rfl⟩
  rw [← hR]
  have HR := Lib.hid hR
  clear h hi H hR ok
  go_enter Try.func14, Try.ntmps14
  go_wp2_with fail
  go_loopw [4, 3] (fun i n wr => ∃ j : Nat, j ≤ L.length ∧ i = .int .i64 (j : Int) ∧ n = .int .i64 ((L.take j).countP (fun o => o.isSome)) ∧ wr = w) (fun i _ _ => L.length - (intOf i).toNat)
  case atStart => exact ⟨0, Nat.zero_le _, rfl, rfl, rfl⟩
  case round =>
    obtain ⟨j, hj, rfl, rfl, rfl⟩ := hrel
    have hcl : (L.take j).countP (fun o => o.isSome) ≤ j := Nat.le_trans List.countP_le_length (by rw [List.length_take]; omega)
    by_cases hlt : j < L.length
    · obtain ⟨o, ho⟩ : ∃ o, L[j]? = some o := ⟨_, List.getElem?_eq_getElem hlt⟩
      obtain ⟨g, rfl, hb⟩ := CE.out j o ho
      have g0 : (0 : Int) ≤ (j : Int) := by omega
      have g1 : (j : Int) < (L.length : Int) := by omega
      have w1 : wrap64 ((j : Int) + 1) = (j : Int) + 1 := by unfold wrap64; omega
      have W1 := Lib.hid w1
      have MEAS := Lib.hid (show L.length - (intOf (.int .i64 ((j : Int) + 1))).toNat < L.length - (intOf (.int .i64 (j : Int))).toNat by simp [intOf]; omega)
      have ts : L.take (j + 1) = L.take j ++ [o] := by rw [List.take_succ_eq_append_getElem hlt, (List.getElem?_eq_some_iff.1 ho).2]
      generalize hk : (L.take j).countP (fun o => o.isSome) = k at *
      cases o with
      | none =>
        have G := Lib.hid (show ∃ j' : Nat, j' ≤ L.length ∧ Value.int .i64 ((j : Int) + 1) = .int .i64 (j' : Int) ∧ Value.int .i64 (k : Int) = .int .i64 ((L.take j').countP (fun o => o.isSome)) ∧ True from ⟨j + 1, hlt, rfl, by rw [ts, List.countP_append, hk]; simp, trivial⟩)
        have hb' : wr.cell? ⟨g, j, none⟩ = some (.string ⟨#[]⟩) := hb
        clear ho hlt hj w1 ts hk hb
        go_wp2
        go_roundw
        case rel => first | exact G.out | (rw [W1.out]; exact G.out)
        case measure => first | exact MEAS.out | (rw [W1.out]; exact MEAS.out)
      | some q =>
        have w2 : wrap64 ((k : Int) + 1) = (k : Int) + 1 := by unfold wrap64; omega
        have W2 := Lib.hid w2
        have G := Lib.hid (show ∃ j' : Nat, j' ≤ L.length ∧ Value.int .i64 ((j : Int) + 1) = .int .i64 (j' : Int) ∧ Value.int .i64 ((k : Int) + 1) = .int .i64 ((L.take j').countP (fun o => o.isSome)) ∧ True from ⟨j + 1, hlt, rfl, by rw [ts, List.countP_append, hk]; simp, trivial⟩)
        have hb' : wr.cell? ⟨g, j, none⟩ = some (.string (bs q)) := hb
        have hq := bs_nonempty (OK.out.sz j q ho)
        clear ho hlt hj w1 w2 ts hk hb
        go_wp2
        go_roundw
        case rel => first | exact G.out | (rw [W1.out]; exact G.out) | (rw [W1.out, W2.out]; exact G.out) | (rw [W2.out]; exact G.out)
        case measure => first | exact MEAS.out | (rw [W1.out]; exact MEAS.out)
    · obtain rfl : j = L.length := by omega
      have g1 : ¬ (L.length : Int) < (L.length : Int) := by omega
      have E := Lib.hid (show ((L.take L.length).countP (fun o => o.isSome)) = R by rw [HR.out, List.take_length]; rfl)
      clear hlt hj
      rw [E.out]
      rw [E.out] at hcl
      go_wp2
      go_ret
      exact ⟨rfl, rfl⟩
theorem Tog.rpage (h : Tog w0 S w l) {i p : Nat} {L : Fm} (hi : l[i]? = some (kRef p L)) (f : Int) (hf : InI f) : Calls Try.prog 20 #[.pointer (some ⟨p, 0, none⟩), .int .i64 f] w fun e w' => e = .returned (.string (L.page f)) ∧ w' = w := by
  have HAS := h.rhas hi f hf
  have hle := (h.okRef hi).len
  cases hp : L.pg f with
  | none =>
    have E : L.page f = ⟨#[]⟩ := by unfold Fm.page; rw [hp]; rfl
    have e1 : L.has f = false := by unfold Fm.has; rw [hp]; rfl
    rw [E]
    rw [e1] at HAS
    have C := Lib.hid HAS
    clear h hi E e1 HAS hp
    go_enter Try.func20, Try.ntmps20
    go_wp2_with (go_at_call 16; refine C.out.mono ?_; rintro e w' ⟨rfl, rfl⟩)
    go_ret
    exact ⟨rfl, rfl⟩
  | some q =>
    have e1 : L.has f = true := by unfold Fm.has; rw [hp]; rfl
    obtain ⟨m, rfl, hm, hq⟩ := Fm.pg_some hp
    obtain ⟨a, c, c0, H⟩ := h.refAt hi
    obtain ⟨g', rfl, cb, _, _⟩ := H m _ hq
    have cb' : w.cell? ⟨g', m, none⟩ = some (.string (bs q)) := cb
    rw [e1] at HAS
    have C := Lib.hid HAS
    have E : L.page (m : Int) = bs q := by unfold Fm.page; rw [hp]; rfl
    rw [E]
    have g0 : (0 : Int) ≤ (m : Int) := by omega
    have g1 : (m : Int) < (L.length : Int) := by omega
    clear h hi E e1 HAS hp H hq cb
    go_enter Try.func20, Try.ntmps20
    go_wp2_with (go_at_call 16; refine C.out.mono ?_; rintro e w' ⟨rfl, rfl⟩)
    go_ret
    exact ⟨rfl, rfl⟩
theorem Tog.rbyte (h : Tog w0 S w l) {i p : Nat} {L : Fm} (hi : l[i]? = some (kRef p L)) (f at' : Int) (hf : InI f) : Calls Try.prog 18 #[.pointer (some ⟨p, 0, none⟩), .int .i64 f, .int .i64 at'] w fun e w' => e = .returned (.int .u8 (L.byte f at')) ∧ w' = w := by
  have HAS := h.rhas hi f hf
  have hle := (h.okRef hi).len
  cases hp : L.pg f with
  | none =>
    have E : L.byte f at' = 0 := by unfold Fm.byte; rw [hp]; split <;> simp
    have e1 : L.has f = false := by unfold Fm.has; rw [hp]; rfl
    rw [E]
    rw [e1] at HAS
    have C := Lib.hid HAS
    clear h hi E e1 HAS hp
    go_enter Try.func18, Try.ntmps18
    go_wp2_with (go_at_call 16; refine C.out.mono ?_; rintro e w' ⟨rfl, rfl⟩)
    go_ret
    exact ⟨rfl, rfl⟩
  | some q =>
    have e1 : L.has f = true := by unfold Fm.has; rw [hp]; rfl
    obtain ⟨m, rfl, hm, hq⟩ := Fm.pg_some hp
    obtain ⟨a, c, c0, H⟩ := h.refAt hi
    obtain ⟨g', rfl, cb, _, _⟩ := H m _ hq
    have cb' : w.cell? ⟨g', m, none⟩ = some (.string (bs q)) := cb
    have hql := (h.okRef hi).sz m q hq
    have hsz : (bs q).size = 64 := hql
    rw [e1] at HAS
    have C := Lib.hid HAS
    by_cases h0 : 0 ≤ at'
    · by_cases h1 : at' < 64
      · obtain ⟨k, rfl⟩ : ∃ k : Nat, at' = k := ⟨at'.toNat, by omega⟩
        obtain ⟨b, hb⟩ : ∃ b, q[k]? = some b := ⟨_, List.getElem?_eq_getElem (by omega)⟩
        have E : L.byte (m : Int) (k : Int) = b.toNat := by unfold Fm.byte; rw [if_pos ⟨h0, h1⟩, hp, Int.toNat_natCast, Option.getD_some, hb]; rfl
        rw [E]
        have g0 : (0 : Int) ≤ (m : Int) := by omega
        have g1 : (m : Int) < (L.length : Int) := by omega
        have hkl : k < (bs q).size := by omega
        have hge : (bs q)[k] = b := by
          have := (List.getElem?_eq_some_iff.1 hb).2
          exact this
        generalize bs q = s at *
        clear h hi E e1 HAS hp H hq hb cb
        go_enter Try.func18, Try.ntmps18
        go_wp2_with (go_at_call 16; refine C.out.mono ?_; rintro e w' ⟨rfl, rfl⟩)
        go_ret
        exact ⟨rfl, rfl⟩
      · have E : L.byte (m : Int) at' = 0 := by unfold Fm.byte; rw [if_neg (fun e => h1 e.2)]
        rw [E]
        clear h hi E e1 HAS hp H hq
        go_enter Try.func18, Try.ntmps18
        go_wp2_with (go_at_call 16; refine C.out.mono ?_; rintro e w' ⟨rfl, rfl⟩)
        go_ret
        exact ⟨rfl, rfl⟩
    · have E : L.byte (m : Int) at' = 0 := by unfold Fm.byte; rw [if_neg (fun e => h0 e.1)]
      rw [E]
      clear h hi E e1 HAS hp H hq
      go_enter Try.func18, Try.ntmps18
      go_wp2_with (go_at_call 16; refine C.out.mono ?_; rintro e w' ⟨rfl, rfl⟩)
      go_ret
      exact ⟨rfl, rfl⟩
end
end Go.Proofs.Ytpabkaihppnddaa
