/-
  strconv.unquote: what it holds on its way (the mathematics of the walk).
-/
import Derived.Test.YteccccpjhpbebaaGreatDoorTo
import Derived.Test.YteccccpjhpbebaaGreatDoorShv
import Derived.Lib.RuneBytes
import Derived.Laws.MakeOwn
namespace Go.Proofs.YteccccpjhpbebaaGreatDoor
open Go.RowKit WireM
set_option linter.unusedVariables false
set_option linter.unusedSimpArgs false

def sLen : Value → Nat
  | .string t => t.size
  | _ => 0
def ErrV (v : Value) : Prop := v = .nilIface ∨ ∃ tp p, v = .iface tp p
/-- What unquote returns. -/
def UqPost (s : ByteArray) (w : World) (e : Ending) (w' : World) : Prop :=
  ∃ out rem ev, e = .returned (.tuple #[.string out, .string rem, ev]) ∧ ErrV ev ∧ out.size ≤ 4 * s.size ∧ rem.size ≤ s.size ∧ (∀ t, quote t = s.data.toList → out.data.toList = t ∧ rem.size = 0 ∧ ev = .nilIface) ∧ Below w.heap.size w w'
/-- No string is quoted so. -/
def NoQ (s : ByteArray) : Prop := ∀ t, quote t ≠ s.data.toList
theorem uq_no {s rem : ByteArray} {w w' : World} {tp : TypeId} {p : Value} (h : NoQ s) (hr : rem.size ≤ s.size) (hb : Below w.heap.size w w') : UqPost s w (.returned (.tuple #[.string ⟨#[]⟩, .string rem, .iface tp p])) w' :=
  ⟨_, _, _, rfl, .inr ⟨_, _, rfl⟩, Nat.zero_le _, hr, fun t ht => absurd ht (h t), hb⟩
theorem uq_yes {s out rem : ByteArray} {w w' : World} (h : ∀ t, quote t = s.data.toList → out.data.toList = t ∧ rem.size = 0) (ho : out.size ≤ 4 * s.size) (hr : rem.size ≤ s.size) (hb : Below w.heap.size w w') : UqPost s w (.returned (.tuple #[.string out, .string rem, .nilIface])) w' :=
  ⟨_, _, _, rfl, .inl rfl, ho, hr, fun t ht => ⟨(h t ht).1, (h t ht).2, rfl⟩, hb⟩
theorem noq_short {s : ByteArray} (h : s.size < 2) : NoQ s := fun t e => by
  have h1 := congrArg List.length e
  have h2 := quote_len t
  simp at h1; omega
theorem quote_first {s : ByteArray} {t : List UInt8} (h : quote t = s.data.toList) (h0 : 0 < s.size) : s[0].toNat = 34 ∧ s.data.toList.drop 1 = qs t ++ [34] := by
  rw [list_of0 s h0] at h
  unfold quote at h
  injection h with h1 h2
  exact ⟨by rw [← h1]; rfl, h2.symm⟩
theorem noq_other {s : ByteArray} (h0 : 0 < s.size) (h : s[0].toNat ≠ 34) : NoQ s := fun t e => h (quote_first e h0).1
theorem noq_open {s : ByteArray} {q : UInt8} (h0 : 0 < s.size) (hq : s[0] = q) (h : ix (s.data.toList.drop 1) q = -1) : NoQ s := fun t e => by
  obtain ⟨h1, h2⟩ := quote_first e h0
  have hn := Lib.indexByte_none (l := s.data.toList.drop 1) (c := q) h (qs t).length
  rw [h2] at hn
  apply hn
  have : q = 34 := by rw [← hq]; exact UInt8.toNat_inj.1 h1
  rw [this]; simp
/-- Where nothing is escaped, what stands between the quotation marks is the string. -/
theorem plain_quoted : ∀ (t : List UInt8) (i : Nat), (qs t ++ [34])[i]? = some 34 → (∀ j, j < i → (qs t ++ [34])[j]? ≠ some 34) → (∀ j, j ≤ i → (qs t ++ [34])[j]? ≠ some 92) → qs t = t ∧ i = t.length
  | [], i, h1, h2, h3 => by
    refine ⟨rfl, ?_⟩
    cases i with
    | zero => rfl
    | succ i => exact absurd rfl (h2 0 (by omega))
  | c :: t, i, h1, h2, h3 => by
    rcases qb_cases c with ⟨_, e⟩ | ⟨_, e⟩ | ⟨_, _, e⟩ | ⟨n1, n2, _, _, e⟩
    · exact absurd (by rw [qs_cons, e]; rfl) (h3 0 (Nat.zero_le _))
    · exact absurd (by rw [qs_cons, e]; rfl) (h3 0 (Nat.zero_le _))
    · exact absurd (by rw [qs_cons, e]; rfl) (h3 0 (Nat.zero_le _))
    · have e2 : qs (c :: t) ++ [34] = c :: (qs t ++ [34]) := by rw [qs_cons, e]; rfl
      rw [e2] at h1 h2 h3
      cases i with
      | zero =>
        simp at h1
        exact absurd (by rw [h1]; rfl) n1
      | succ i =>
        obtain ⟨r1, r2⟩ := plain_quoted t i (by simpa using h1) (fun j hj => by simpa using h2 (j + 1) (by omega)) (fun j hj => by simpa using h3 (j + 1) (by omega))
        exact ⟨by rw [qs_cons, e, r1]; rfl, by simp [r2]⟩
theorem fast_ok {s : ByteArray} {i : Nat} (h0 : 0 < s.size) (hi : ix (s.data.toList.drop 1) 34 = i) (hb : hasB (s.data.toList.take (i + 2)) 92 = false) :
    ∀ t, quote t = s.data.toList → (s.data.toList.drop 1).take i = t ∧ s.size = i + 2 := by
  intro t e
  obtain ⟨h1, h2⟩ := quote_first e h0
  obtain ⟨i1, i2, i3⟩ := ix_some hi
  have hno := hasB_no hb
  rw [h2] at i2 i3
  have key := plain_quoted t i i2 i3 (fun j hj hjj => by
    refine hno (j + 1) ?_
    rw [List.getElem?_take, if_pos (by omega)]
    rw [← h2] at hjj
    rw [List.getElem?_drop] at hjj
    rw [← hjj]; congr 1; omega)
  refine ⟨?_, ?_⟩
  · rw [h2, key.1, key.2]; simp
  · have := congrArg List.length e
    have es : s.data.toList.length = s.size := by simp
    unfold quote at this
    rw [key.1, es] at this
    simp at this; omega

/-! THE SLOW WAY -/
/-- What the loop over the characters holds: the rest of the string, and what has been collected. -/
def SlAt (s I : ByteArray) (L : List UInt8) : Prop :=
  L.length + 4 * I.size ≤ 4 * s.size ∧ I.size ≤ s.size ∧ ∀ t, quote t = s.data.toList → ∃ k, k ≤ t.length ∧ L = t.take k ∧ I.data.toList = qs (t.drop k) ++ [34]
theorem sl_start {s : ByteArray} (h0 : 0 < s.size) : SlAt s (s.extract 1 s.size) [] :=
  ⟨by rw [ByteArray.size_extract, List.length_nil]; omega, by rw [ByteArray.size_extract]; omega, fun t e => ⟨0, Nat.zero_le _, rfl, by rw [tail_bs0, bs_data, (quote_first e h0).2]; rfl⟩⟩
theorem sl_empty {s I : ByteArray} {L : List UInt8} (h : SlAt s I L) (h0 : I.size = 0) : NoQ s := fun t e => by
  obtain ⟨k, _, _, h3⟩ := h.2.2 t e
  have := congrArg List.length h3
  rw [List.length_append] at this
  simp at this; omega
theorem sl_end {s I : ByteArray} {L : List UInt8} (h : SlAt s I L) (h0 : 0 < I.size) (h34 : I[0].toNat = 34) : ∀ t, quote t = s.data.toList → L = t ∧ (I.extract 1 I.size).size = 0 := fun t e => by
  obtain ⟨k, h1, h2, h3⟩ := h.2.2 t e
  rw [list_of0 I h0] at h3
  cases hd : t.drop k with
  | nil =>
    have hk : t.length ≤ k := by
      have := congrArg List.length hd
      rw [List.length_drop] at this; simp at this; omega
    rw [hd] at h3
    have h4 : I.data.toList.drop 1 = [] := by
      simp [qs] at h3
      exact (by simpa using h3.2)
    refine ⟨by rw [h2, List.take_of_length_le hk], ?_⟩
    rw [tail_bs0, bs_size, h4]; rfl
  | cons c r =>
    rw [hd, qs_cons, List.append_assoc] at h3
    obtain ⟨a, Y, hy, hne⟩ := qb_head c (qs r ++ [34])
    rw [hy] at h3
    injection h3 with x1 x2
    rw [x1] at h34
    exact absurd h34 hne
theorem sl_head {s I : ByteArray} {L : List UInt8} (h : SlAt s I L) (h0 : 0 < I.size) (h34 : I[0].toNat ≠ 34) : ∀ t, quote t = s.data.toList → ∃ k c r, t.drop k = c :: r ∧ k ≤ t.length ∧ L = t.take k ∧ I.data.toList = qb c ++ (qs r ++ [34]) := fun t e => by
  obtain ⟨k, h1, h2, h3⟩ := h.2.2 t e
  cases hd : t.drop k with
  | nil =>
    rw [hd, list_of0 I h0] at h3
    simp [qs] at h3
    exact absurd (by rw [h3.1]; rfl) h34
  | cons c r =>
    refine ⟨k, c, r, hd, h1, h2, ?_⟩
    rw [h3, hd, qs_cons, List.append_assoc]
theorem sl_lf {s I : ByteArray} {L : List UInt8} (h : SlAt s I L) (h0 : 0 < I.size) (h10 : I[0].toNat = 10) : NoQ s := fun t e => by
  obtain ⟨k, c, r, _, _, _, h4⟩ := sl_head h h0 (by omega) t e
  rcases uc_first h0 h4 with h5 | ⟨h5, _, _, h6, _⟩
  · omega
  · rw [h5] at h10; omega
theorem sl_err {s I : ByteArray} {L : List UInt8} {q : UInt8} (h : SlAt s I L) (h0 : 0 < I.size) (h34 : I[0].toNat ≠ 34) (hq : q.toNat = 34) (hn : UcNo I q) : NoQ s := fun t e => by
  obtain ⟨k, c, r, _, _, _, h4⟩ := sl_head h h0 h34 t e
  exact hn hq c _ h4
theorem sl_step {s I T : ByteArray} {L M : List UInt8} {q : UInt8} {v : Int} {mb : Bool} (h : SlAt s I L) (h0 : 0 < I.size) (h34 : I[0].toNat ≠ 34) (hq : q.toNat = 34) (hu : UcOk I q v mb T) (hM : M.length ≤ 4) (hv : ∀ c : UInt8, v = c.toNat → mb = false → M = [c]) : SlAt s T (L ++ M) := by
  obtain ⟨a1, a2, a3⟩ := h
  obtain ⟨u1, u2, u3, u4⟩ := hu
  refine ⟨by rw [List.length_append]; omega, by omega, fun t e => ?_⟩
  obtain ⟨k, c, r, k1, k2, k3, k4⟩ := sl_head ⟨a1, a2, a3⟩ h0 h34 t e
  obtain ⟨x1, x2, x3⟩ := u4 hq c _ k4
  have hk : k < t.length := by
    rcases Nat.lt_or_ge k t.length with h' | h'
    · exact h'
    · rw [List.drop_of_length_le h'] at k1; cases k1
  have hc : t.take (k + 1) = t.take k ++ [c] := by
    rw [List.take_succ_eq_append_getElem hk]
    rw [List.drop_eq_getElem_cons hk] at k1
    injection k1 with y1 y2
    rw [y1]
  have hr : t.drop (k + 1) = r := by
    rw [List.drop_eq_getElem_cons hk] at k1
    injection k1 with y1 y2
  exact ⟨k + 1, by omega, by rw [hc, k3, hv c x1 x2], by rw [x3, hr]⟩
/-- For another quotation mark nothing is promised of the bytes. -/
theorem sl_vac {s T : ByteArray} {L : List UInt8} (h : NoQ s) (h1 : L.length + 4 * T.size ≤ 4 * s.size) (h2 : T.size ≤ s.size) : SlAt s T L := ⟨h1, h2, fun t e => absurd e (h t)⟩

/-! make, append -/
def mkc (c : Nat) : Array Value := madeCells #[.int .u8 0] c
theorem make_bytes (c : Nat) (X : Int) (hX : X = c) (hc : c ≤ 10000000000) (W : World) : (Instr.makeSlice 42 (.int .i64 0) (.int .i64 X)).run Tryz.prog W = .ok (.slice (some ⟨W.heap.size, 0, none⟩) 0 c) (W.alloc (.cells (mkc c) 5)) := by
  obtain ⟨i0, hi, hz0, hz1, hz2⟩ := info_parts infoByte
  subst hX
  have := run_make (P := Tryz.prog) W 42 5 i0 (.int .u8 0) Tryz.underlying42 hi hz0 .i64 .i64 0 (c : Int) (Int.le_refl _) (by omega) (by rw [hz2]; omega) (by omega)
  rw [this, hz1]
  simp only [Int.toNat_zero, Int.toNat_natCast, Nat.mul_one]
  rfl
theorem made_buf {w W : World} (c : Nat) (hc : c ≤ 10000000000) (hb : Below w.heap.size w W) : BufAt w [] (.slice (some ⟨W.heap.size, 0, none⟩) 0 c) (W.alloc (.cells (mkc c) 5)) :=
  ⟨World.ownsRow_made W (mkc c) c hb.size (by unfold maxLen; omega) (by unfold mkc; rw [size_madeCells]; omega), hb.alloc hb.size _⟩
theorem rune_buf (r : Int) (hr0 : -2147483648 ≤ r) (hr1 : r ≤ 2147483647) {w wr : World} {L : List UInt8} {v : Value} (h : BufAt w L v wr) (hl : L.length ≤ 10000000000) :
    Calls Tryz.prog 64 #[v, .int .i32 r] wr fun e w' => ∃ v', e = .returned v' ∧ BufAt w (L ++ Lib.encodeRune r) v' w' := by
  have hle := h.le
  refine (Tryz.utf8_AppendRune_plain w.heap.size v L.length (Lib.byteCells L) r hr0 hr1 wr h.1 (by omega) hle).mono ?_
  rintro e w' ⟨v', rfl, hown, o, hg⟩
  refine ⟨v', rfl, buf_step h o hown hg (by rw [Lib.runeCells_length]) (Lib.byteCells_encodeRune r).symm⟩
theorem rune_len (r : Int) : (Lib.encodeRune r).length ≤ 4 := by
  have := Lib.runeCells_le r
  rw [Lib.runeCells_length] at this
  exact this.2
theorem slice_to (s : ByteArray) (j : Nat) (J : Int) (hJ : J = j) (hj : j ≤ s.size) (W : World) : (Instr.slice 9 (.string s) none (some (.int .i64 J)) none).run Tryz.prog W = .ok (.string (s.extract 0 j)) W := by
  subst hJ
  rw [run_slice_string_to_if W 9 s .i64 (j : Int) Tryz.underlying9, if_pos ⟨by omega, by omega⟩]; rfl
theorem slice_mid (s : ByteArray) (i j : Nat) (I J : Int) (hI : I = i) (hJ : J = j) (hij : i ≤ j) (hj : j ≤ s.size) (W : World) : (Instr.slice 9 (.string s) (some (.int .i64 I)) (some (.int .i64 J)) none).run Tryz.prog W = .ok (.string (s.extract i j)) W := by
  subst hJ; subst hI
  rw [run_slice_string W 9 s .i64 .i64 (i : Int) (j : Int) Tryz.underlying9 (by omega) (by omega) (by omega)]; rfl
theorem slice_from (s : ByteArray) (i : Nat) (I : Int) (hI : I = i) (hi : i ≤ s.size) (W : World) : (Instr.slice 9 (.string s) (some (.int .i64 I)) none none).run Tryz.prog W = .ok (.string (s.extract i s.size)) W := by
  subst hI
  rw [run_slice_string_from_if W 9 s .i64 (i : Int) Tryz.underlying9, if_pos ⟨by omega, by omega⟩]; rfl
end Go.Proofs.YteccccpjhpbebaaGreatDoor
