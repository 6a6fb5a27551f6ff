/-
  PACKAGE text: split, Plain, Magic.
-/
import Derived.Test.YteccccpjhpbebaaGreatDoorTb
import Derived.Test.YteccccpjhpbebaaGreatDoorTz
import Derived.Lib.LastIndexByte
namespace Go.Proofs.YteccccpjhpbebaaGreatDoor
open Go.RowKit WireM
set_option linter.unusedVariables false
set_option linter.unusedSimpArgs false

theorem slice_at (s : ByteArray) (i j : Nat) (J : Int) (hJ : J = j) (hij : i ≤ j) (hj : j ≤ s.size) (W : World) : (Instr.slice 9 (.string s) (some (.int .i64 (i : Int))) (some (.int .i64 J)) none).run Tryz.prog W = .ok (.string (s.extract i j)) W := by
  subst hJ
  rw [run_slice_string W 9 s .i64 .i64 (i : Int) (j : Int) Tryz.underlying9 (by omega) (by omega) (by omega)]; rfl
def cellsS (L : List (List UInt8)) : List Value := L.map fun l => Value.string (bs l)
theorem cellsS_len (L : List (List UInt8)) : (cellsS L).length = L.length := by simp [cellsS]
/-- A slice of strings that the call itself has made. -/
def RowAt (w : World) (L : List (List UInt8)) (v : Value) (wr : World) : Prop :=
  wr.ownsRow w.heap.size 9 1 v L.length (cellsS L) ∧ Below w.heap.size w wr
theorem row_nil {w wr : World} (h : Below w.heap.size w wr) : RowAt w [] (.slice none 0 0) wr := ⟨World.ownsRow_nil _ _ _ _, h⟩
theorem RowAt.le {w wr : World} {L : List (List UInt8)} {v : Value} (h : RowAt w L v wr) : w.heap.size ≤ wr.heap.size := h.2.size
theorem RowAt.step {w wr w2 : World} {L : List (List UInt8)} {v : Value} (h : RowAt w L v wr) (hb : Below wr.heap.size wr w2) : RowAt w L v w2 :=
  ⟨(StrKept.below hb).row h.1, below_step h.2 hb⟩
theorem append_row {ops : Array Oper} {rest : List Oper} {o : Oper} {a : Act} {Q : Exit → Act → World → Prop} (hgd : o.guard = none) (s x : Operand)
    (ho : o.op = .call { callee := .builtin .append, args := #[s, x], argTypes := #[ 22, 22 ] })
    {w wr : World} {L : List (List UInt8)} (m : ByteArray) {v : Value} (h : RowAt w L v wr) (hs : a.eval s = v) (hx : a.eval x = .slice (some ⟨wr.heap.size, 0, none⟩) 1 1)
    (hlen : L.length + 1 ≤ 1000000000000)
    (hK : ∀ v' w3, RowAt w (L ++ [m.data.toList]) v' w3 → wpList Tryz.prog ops Q rest (a.put o.dst v') w3) : wpList Tryz.prog ops Q (o :: rest) a (wr.alloc (.cells #[.string m] 9)) := by
  obtain ⟨i0, hi, hz0, hz1, hz2⟩ := info_parts infoString
  have hle := h.le
  refine wpList_append_own _ hgd s x 22 ho w.heap.size 9 i0 (.string .empty) 1 16 Tryz.underlying22 hi hz0 hz1 hz2 rfl (by decide) v L.length (cellsS L) hs (h.1.alloc _) ⟨wr.heap.size, 0, none⟩ 1 1 [.string m] hx rfl ?_ ?_ ?_ ?_ ?_ ?_
  · intro j u hj
    match j, hj with
    | 0, hj => simp at hj; subst hj; simp [Addr.add]
  · intro u hu; simp at hu; subst hu; rfl
  · unfold maxLen; omega
  · omega
  · simp; omega
  · intro v' w3 h1 h2 _
    refine hK v' w3 ⟨?_, (h.2.alloc hle _).grown h2 (by simp; omega) (fun k hk => (h.1.lt k hk).1)⟩
    have e : cellsS (L ++ [m.data.toList]) = cellsS L ++ [.string m] := by simp [cellsS]; rfl
    rw [e, List.length_append]; exact h1
/-- What the last ] tells. -/
def LastIs (s : ByteArray) (last : Int) : Prop := last < s.size ∧ -1 ≤ last ∧ ∀ k : Nat, ((k : Int) ≤ last ↔ 0 ≤ i93 (s.data.toList.drop k))
theorem last_is (s : ByteArray) : LastIs s (Lib.lastIndexByte s 93) := by
  have at_ : ∀ j, j < s.size → (((s.data[j]!).toNat : Int) = 93 ↔ s.data.toList[j]? = some 93) := by
    intro j hj
    have e : s.data[j]! = s[j] := by simp [getElem!_def, hj]; rfl
    rw [e]
    have e2 : s.data.toList[j]? = some s[j] := by
      have := drop_at s j hj
      have h2 : (s.data.toList.drop j)[0]? = s.data.toList[j]? := by rw [List.getElem?_drop]; rfl
      rw [← h2, this]; rfl
    rw [e2]
    constructor
    · intro h; congr 1; exact UInt8.toNat_inj.1 (by show _ = 93; omega)
    · intro h; rw [Option.some.inj h]; rfl
  have none_ : ∀ k : Nat, (∀ j, k ≤ j → j < s.size → ((s.data[j]!).toNat : Int) ≠ 93) → ¬ 0 ≤ i93 (s.data.toList.drop k) := by
    intro k h h0
    obtain ⟨o, ho⟩ : ∃ o : Nat, Lib.indexByte (s.data.toList.drop k) 93 = o := ⟨(i93 (s.data.toList.drop k)).toNat, by unfold i93 at *; omega⟩
    have h1 := (Lib.indexByte_some ho).1
    rw [List.getElem?_drop] at h1
    have hlt : k + o < s.size := by
      rcases Nat.lt_or_ge (k + o) s.data.toList.length with h' | h'
      · simpa using h'
      · rw [List.getElem?_eq_none h'] at h1; cases h1
    exact h (k + o) (by omega) hlt ((at_ _ hlt).2 h1)
  rcases Lib.lastIndexByte_spec s 93 with ⟨e, hn⟩ | ⟨i, hi, e, hc, hn⟩
  · rw [e]
    refine ⟨by omega, by omega, fun k => ⟨fun h => by omega, fun h => absurd h (none_ k fun j _ hj => hn j hj)⟩⟩
  · rw [e]
    refine ⟨by omega, by omega, fun k => ⟨fun h => ?_, fun h => ?_⟩⟩
    · rcases Int.lt_or_le (i93 (s.data.toList.drop k)) 0 with h' | h'
      · exfalso
        have hge := Lib.indexByte_ge (s.data.toList.drop k) 93
        have := Lib.indexByte_none (l := s.data.toList.drop k) (c := 93) (by unfold i93 at h'; omega) (i - k)
        rw [List.getElem?_drop, show k + (i - k) = i by omega] at this
        exact this ((at_ i hi).1 hc)
      · exact h'
    · rcases Int.lt_or_le (i : Int) k with h' | h'
      · exact absurd h (none_ k fun j hj hj' => hn j (by omega) hj')
      · exact h'
theorem lastIndex_any (s : ByteArray) (hs : s.size ≤ 1000000000) (w : World) : Calls Tryz.prog 49 #[.string s, .int .u8 93] w fun e w' => ∃ last, e = .returned (.int .i64 last) ∧ LastIs s last ∧ w = w' := by
  refine (Tryz.strings_LastIndexByte s 93 (by omega) w).mono ?_
  rintro e w' ⟨rfl, rfl⟩
  exact ⟨_, rfl, last_is s, rfl⟩
/-- What the loop of split holds. -/
def SpAt (s : ByteArray) (w : World) (k : Nat) (v : Value) (wr : World) : Prop :=
  ∃ L, parts s.data.toList = L ++ parts (s.data.toList.drop k) ∧ L.length ≤ k ∧ RowAt w L v wr
theorem sp_next {s : ByteArray} {k n : Nat} {L : List (List UInt8)} (h : parts s.data.toList = L ++ parts (s.data.toList.drop k)) (hk : k < s.size) (hn : partLen (s.data.toList.drop k) = n) :
    parts s.data.toList = (L ++ [(s.extract k (k + n)).data.toList]) ++ parts (s.data.toList.drop (k + n)) := by
  have e := drop_at s k hk
  have hx : (s.extract k (k + n)).data.toList = (s.data.toList.drop k).take n := by
    rw [Lib.extract_data, show k + n - k = n by omega]
  rw [h, hx, List.append_assoc]
  congr 1
  rw [e] at hn ⊢
  rw [parts_cons, hn, ← e, List.drop_drop]; rfl
/-- The length of the part at place k, in the walk's words. -/
theorem part_two {s : ByteArray} {k : Nat} (hk : k + 1 < s.size) (h : (s[k]'(by omega)).toNat = 92) : partLen (s.data.toList.drop k) = 2 := by
  have hne : s.data.toList.drop (k + 1) ≠ [] := by rw [drop_at s (k + 1) hk]; exact List.cons_ne_nil _ _
  rw [drop_at s k (by omega), partLen, if_pos ⟨h, hne⟩]
theorem part_class {s : ByteArray} {k : Nat} (hk : k < s.size) (h : s[k].toNat = 91) (h0 : 0 ≤ i93 (s.data.toList.drop (k + 2))) : partLen (s.data.toList.drop k) = clsLen (s.data.toList.drop k) := by
  rw [drop_at s k hk, partLen, if_neg (by omega), if_pos ⟨h, by rw [List.drop_drop]; exact h0⟩]
theorem part_one {s : ByteArray} {k : Nat} (hk : k < s.size) (h1 : ¬ (s[k].toNat = 92 ∧ k + 1 < s.size)) (h2 : ¬ (s[k].toNat = 91 ∧ 0 ≤ i93 (s.data.toList.drop (k + 2)))) : partLen (s.data.toList.drop k) = 1 := by
  rw [drop_at s k hk, partLen, if_neg, if_neg]
  · rintro ⟨a, b⟩; exact h2 ⟨a, by rw [List.drop_drop] at b; exact b⟩
  · rintro ⟨a, b⟩
    refine h1 ⟨a, ?_⟩
    rcases Nat.lt_or_ge (k + 1) s.size with h' | h'
    · exact h'
    · exact absurd (List.drop_of_length_le (by simpa using h')) b
theorem part_le {s : ByteArray} {k : Nat} (hk : k < s.size) : 1 ≤ partLen (s.data.toList.drop k) ∧ k + partLen (s.data.toList.drop k) ≤ s.size := by
  have h := partLen_pos s[k] (s.data.toList.drop (k + 1))
  rw [← drop_at s k hk, List.length_drop] at h
  have e : s.data.toList.length = s.size := by simp
  omega

set_option maxHeartbeats 2000000 in
set_option maxRecDepth 100000 in
theorem split_any (s : ByteArray) (hs : s.size ≤ 1000000000) (w : World) :
    Calls Tryz.prog 37 #[.string s] w fun e w' => ∃ v, e = .returned v ∧ RowAt w (parts s.data.toList) v w' := by
  go_enter Tryz.func37, Tryz.ntmps37
  go_wp2_with fail
  go_at_call 49
  refine (lastIndex_any s hs _).mono ?_
  rintro e w1 ⟨last, rfl, hlast, rfl⟩
  obtain ⟨hl1, hl2, hl3⟩ := hlast
  have HL := Lib.hid hl3
  clear hl3
  go_wp2_with fail
  go_loopw [5, 3] (fun i v wr => ∃ k : Nat, k ≤ s.size ∧ i = .int .i64 k ∧ SpAt s w k v wr) (fun i _ _ => s.size - (intOf i).toNat)
  case atStart => exact ⟨0, Nat.zero_le _, rfl, [], rfl, Nat.zero_le _, row_nil (Below.refl _ _)⟩
  case round =>
    obtain ⟨k, hk, rfl, L, hL, hLk, hrow⟩ := hrel
    have HP := Lib.hid hL
    clear hL
    by_cases hlt : k < s.size
    · obtain ⟨p1, p2⟩ := part_le hlt
      have HN := Lib.hid (fun n hn => sp_next HP.out hlt (n := n) hn)
      have hx : s[k].toNat < 256 := s[k].toNat_lt
      have HA : ∀ h : k + 1 < s.size, s[k].toNat = 92 → partLen (s.data.toList.drop k) = 2 := fun h e => part_two h e
      have HB : s[k].toNat = 91 → 0 ≤ i93 (s.data.toList.drop (k + 2)) → partLen (s.data.toList.drop k) = clsLen (s.data.toList.drop k) := fun h e => part_class hlt h e
      have HC : ¬ (s[k].toNat = 92 ∧ k + 1 < s.size) → ¬ (s[k].toNat = 91 ∧ 0 ≤ i93 (s.data.toList.drop (k + 2))) → partLen (s.data.toList.drop k) = 1 := fun h e => part_one hlt h e
      generalize hc : s[k] = c at *
      by_cases hA : c.toNat = 92 ∧ k + 1 < s.size
      · have hn := HA hA.2 hA.1
        have f1 : ((c.toNat : Int) == 92) = true := by rw [beq_iff_eq]; omega
        have f2 : (k : Int) + 1 < s.size := by omega
        have HQ := Lib.hid (HN.out 2 hn)
        have q2 : k + 2 ≤ s.size := by omega
        have hsl := fun W => slice_at s k (k + 2) ((k : Int) + 2) (by omega) (by omega) q2 W
        clear HA HB HC hA hn p1 p2
        go_wp2_with (at_builtin; refine append_row rfl _ _ rfl _ hrow rfl rfl (by omega) ?_; intro v' w3 hb3)
        have hsp : SpAt s w (k + 2) v' w3 := ⟨_, HQ.out, by rw [List.length_append, List.length_singleton]; omega, hb3⟩
        clear hb3 hsl
        go_wp2_with fail
        go_roundw
        case rel => exact ⟨k + 2, by omega, by go_num, hsp⟩
        case measure => simp [intOf]; omega
      · by_cases hB : c.toNat = 91 ∧ 0 ≤ i93 (s.data.toList.drop (k + 2))
        · have hn := HB hB.1 hB.2
          have hcl := hB.2
          have f1 : ((c.toNat : Int) == 92) = false := by rw [beq_eq_false_iff_ne]; omega
          have f3 : ((c.toNat : Int) == 91) = true := by rw [beq_iff_eq]; omega
          have f4 : (k : Int) + 2 ≤ last := (HL.out (k + 2)).2 hcl
          obtain ⟨n, hn'⟩ : ∃ n, partLen (s.data.toList.drop k) = n := ⟨_, rfl⟩
          have HQ := Lib.hid (HN.out n hn')
          have HM := Lib.hid (show (clsLen (s.data.toList.drop k) : Int) = n by rw [← hn, hn'])
          have q1 : 1 ≤ n := by omega
          have q2 : k + n ≤ s.size := by omega
          have hsl := fun W => slice_at s k (k + n) ((k : Int) + n) (by omega) (by omega) q2 W
          have hk2 : (k : Int) ≤ s.size := by omega
          clear HA HB HC hA hB hn hn' p1 p2
          go_wp2_with fail
          go_at_call 50
          rw [tail_bs]
          refine (classSize_any (bs (s.data.toList.drop k)) (by rw [bs_data, List.drop_drop]; exact hcl) (by rw [bs_size]; simp; omega) _).mono ?_
          rintro e w2 ⟨rfl, rfl⟩
          rw [bs_data, HM.out]
          clear hcl
          go_wp2_with (at_builtin; refine append_row rfl _ _ rfl _ hrow rfl rfl (by omega) ?_; intro v' w3 hb3)
          have hsp : SpAt s w (k + n) v' w3 := ⟨_, HQ.out, by rw [List.length_append, List.length_singleton]; omega, hb3⟩
          clear hb3 hsl
          go_wp2_with fail
          go_roundw
          case rel => exact ⟨k + n, by omega, by go_num, hsp⟩
          case measure => simp [intOf]; omega
        · have hn := HC hA hB
          have HQ := Lib.hid (HN.out 1 hn)
          have q2 : k + 1 ≤ s.size := by omega
          have hsl := fun W => slice_at s k (k + 1) ((k : Int) + 1) (by omega) (by omega) q2 W
          by_cases e92 : c.toNat = 92
          · have f1 : ((c.toNat : Int) == 92) = true := by rw [beq_iff_eq]; omega
            have f2 : ¬ (k : Int) + 1 < s.size := by omega
            have f3 : ((c.toNat : Int) == 91) = false := by rw [beq_eq_false_iff_ne]; omega
            clear HA HB HC hA hB hn p1 p2 e92
            go_wp2_with (at_builtin; refine append_row rfl _ _ rfl _ hrow rfl rfl (by omega) ?_; intro v' w3 hb3)
            have hsp : SpAt s w (k + 1) v' w3 := ⟨_, HQ.out, by rw [List.length_append, List.length_singleton]; omega, hb3⟩
            clear hb3 hsl
            go_wp2_with fail
            go_roundw
            case rel => exact ⟨k + 1, by omega, by go_num, hsp⟩
            case measure => simp [intOf]; omega
          · have f1 : ((c.toNat : Int) == 92) = false := by rw [beq_eq_false_iff_ne]; omega
            by_cases e91 : c.toNat = 91
            · have f3 : ((c.toNat : Int) == 91) = true := by rw [beq_iff_eq]; omega
              have f4 : ¬ (k : Int) + 2 ≤ last := fun h => hB ⟨e91, (HL.out (k + 2)).1 h⟩
              clear HA HB HC hA hB hn p1 p2 e92 e91
              go_wp2_with (at_builtin; refine append_row rfl _ _ rfl _ hrow rfl rfl (by omega) ?_; intro v' w3 hb3)
              have hsp : SpAt s w (k + 1) v' w3 := ⟨_, HQ.out, by rw [List.length_append, List.length_singleton]; omega, hb3⟩
              clear hb3 hsl
              go_wp2_with fail
              go_roundw
              case rel => exact ⟨k + 1, by omega, by go_num, hsp⟩
              case measure => simp [intOf]; omega
            · have f3 : ((c.toNat : Int) == 91) = false := by rw [beq_eq_false_iff_ne]; omega
              clear HA HB HC hA hB hn p1 p2 e92 e91
              go_wp2_with (at_builtin; refine append_row rfl _ _ rfl _ hrow rfl rfl (by omega) ?_; intro v' w3 hb3)
              have hsp : SpAt s w (k + 1) v' w3 := ⟨_, HQ.out, by rw [List.length_append, List.length_singleton]; omega, hb3⟩
              clear hb3 hsl
              go_wp2_with fail
              go_roundw
              case rel => exact ⟨k + 1, by omega, by go_num, hsp⟩
              case measure => simp [intOf]; omega
    · obtain rfl : k = s.size := by omega
      go_wp2_with fail
      go_ret
      refine ⟨_, rfl, ?_⟩
      have e : parts s.data.toList = L := by
        rw [HP.out, List.drop_of_length_le (by simp), parts_nil, List.append_nil]
      rw [e]; exact hrow
end Go.Proofs.YteccccpjhpbebaaGreatDoor
