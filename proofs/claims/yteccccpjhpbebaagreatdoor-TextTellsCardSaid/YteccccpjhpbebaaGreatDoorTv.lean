/-
  strconv.UnquoteChar: what it returns for any string; exact where a byte is quoted as Quote quotes it.
-/
import Derived.Test.YteccccpjhpbebaaGreatDoorTu
import Derived.Deep.QuietTactic
import Derived.BigQuiet
import Derived.Outline
import Derived.Lib.TrimU
import Derived.Lib.MapLaws
namespace Go.Proofs.YteccccpjhpbebaaGreatDoor
open Go.RowKit WireM
set_option linter.unusedVariables false
set_option linter.unusedSimpArgs false

theorem results_tmp4 {fn : Func} {t u v x : Tmp} (h : fn.results = #[.tmp t, .tmp u, .tmp v, .tmp x]) (tmps : Array Value) (P : Program) (w : World) :
    (results fn tmps).run P w = .ok (.tuple #[tmps.getD t undef, tmps.getD u undef, tmps.getD v undef, tmps.getD x undef]) w := by simp [results, h]
theorem Glob.err {w : World} (h : Glob w) : ∃ tp p, w.cell? ⟨0, 0, none⟩ = some (.iface tp p) := by
  obtain ⟨tp, p, hv⟩ := h.syn
  refine ⟨tp, p, ?_⟩
  rw [World.var?_cell gSyn hv 0]; rfl
theorem list_of0 (t : ByteArray) (h : 0 < t.size) : t.data.toList = t[0] :: t.data.toList.drop 1 := by
  have := drop_at t 0 h
  simpa using this
theorem tail_bs0 (t : ByteArray) (k : Nat) : t.extract k t.size = bs (t.data.toList.drop k) := extract_end t k
def UcOk (s : ByteArray) (q : UInt8) (v : Int) (mb : Bool) (t : ByteArray) : Prop :=
  t.size < s.size ∧ -2147483648 ≤ v ∧ v ≤ 2147483647 ∧ (q.toNat = 34 → ∀ c X, s.data.toList = qb c ++ X → v = c.toNat ∧ mb = false ∧ t.data.toList = X)
def UcNo (s : ByteArray) (q : UInt8) : Prop := q.toNat = 34 → ∀ c X, s.data.toList ≠ qb c ++ X
def UcPost (s : ByteArray) (q : UInt8) (w : World) (e : Ending) (w' : World) : Prop :=
  (∃ v mb t, e = .returned (.tuple #[.int .i32 v, .bool mb, .string t, .nilIface]) ∧ UcOk s q v mb t ∧ Below w.heap.size w w') ∨
  (∃ v mb t tp p, e = .returned (.tuple #[.int .i32 v, .bool mb, .string t, .iface tp p]) ∧ UcNo s q ∧ Below w.heap.size w w')
theorem uc_ok {s : ByteArray} {q : UInt8} {w w' : World} {v : Int} {mb : Bool} {t : ByteArray} (h : UcOk s q v mb t) (hb : Below w.heap.size w w') : UcPost s q w (.returned (.tuple #[.int .i32 v, .bool mb, .string t, .nilIface])) w' :=
  .inl ⟨v, mb, t, rfl, h, hb⟩
theorem uc_no {s : ByteArray} {q : UInt8} {w w' : World} {v : Int} {mb : Bool} {t : ByteArray} {tp : TypeId} {p : Value} (h : UcNo s q) (hb : Below w.heap.size w w') : UcPost s q w (.returned (.tuple #[.int .i32 v, .bool mb, .string t, .iface tp p])) w' :=
  .inr ⟨v, mb, t, tp, p, rfl, h, hb⟩
/-- What a quoted byte looks like. -/
theorem uc_shape {L X : List UInt8} {c : UInt8} (h : L = qb c ++ X) :
    (L = 92 :: c :: X ∧ (c.toNat = 34 ∨ c.toNat = 92)) ∨ (L = 92 :: 110 :: X ∧ c.toNat = 10) ∨ (L = 92 :: 120 :: hexd (c.toNat / 16) :: hexd (c.toNat % 16) :: X) ∨ (L = c :: X ∧ c.toNat ≠ 34 ∧ c.toNat ≠ 92 ∧ 32 ≤ c.toNat ∧ c.toNat ≤ 126) := by
  subst h
  rcases qb_cases c with ⟨h1, e⟩ | ⟨h1, e⟩ | ⟨h1, h2, e⟩ | ⟨h1, h2, h3, h4, e⟩
  · exact .inl ⟨by rw [e]; rfl, h1⟩
  · exact .inr (.inl ⟨by rw [e]; rfl, h1⟩)
  · exact .inr (.inr (.inl (by rw [e]; rfl)))
  · exact .inr (.inr (.inr ⟨by rw [e]; rfl, h1, h2, h3, h4⟩))
theorem nat92 : (92 : UInt8).toNat = 92 := rfl
/-- By the first byte. -/
theorem uc_first {s : ByteArray} {c X} (h0 : 0 < s.size) (h : s.data.toList = qb c ++ X) : s[0].toNat = 92 ∨ (s[0] = c ∧ X = s.data.toList.drop 1 ∧ c.toNat ≠ 34 ∧ 32 ≤ c.toNat ∧ c.toNat ≤ 126) := by
  rw [list_of0 s h0] at h
  rcases uc_shape h with ⟨e, _⟩ | ⟨e, _⟩ | e | ⟨e, h1, h2, h3, h4⟩
  · injection e with e1 e2; exact .inl (by rw [e1]; rfl)
  · injection e with e1 e2; exact .inl (by rw [e1]; rfl)
  · injection e with e1 e2; exact .inl (by rw [e1]; rfl)
  · injection e with e1 e2; exact .inr ⟨e1, e2.symm, h1, h3, h4⟩
/-- By the second byte, where the first one is a backslash. -/
theorem uc_second {s : ByteArray} {c X} (h1 : 1 < s.size) (h0 : (s[0]'(by omega)).toNat = 92) (h : s.data.toList = qb c ++ X) :
    (s[1] = c ∧ (c.toNat = 34 ∨ c.toNat = 92) ∧ X = s.data.toList.drop 2) ∨ (s[1].toNat = 110 ∧ c.toNat = 10 ∧ X = s.data.toList.drop 2) ∨ (s[1].toNat = 120 ∧ s.data.toList.drop 2 = hexd (c.toNat / 16) :: hexd (c.toNat % 16) :: X) := by
  have e0 := list_of0 s (show 0 < s.size by omega)
  have e1 := drop_at s 1 h1
  rw [e1] at e0
  rw [e0] at h
  rcases uc_shape h with ⟨e, h2⟩ | ⟨e, h2⟩ | e | ⟨e, h2, h3, h4, h5⟩
  · injection e with x1 x2; injection x2 with x2 x3; exact .inl ⟨x2, h2, x3.symm⟩
  · injection e with x1 x2; injection x2 with x2 x3; exact .inr (.inl ⟨by rw [x2]; rfl, h2, x3.symm⟩)
  · injection e with x1 x2; injection x2 with x2 x3; exact .inr (.inr ⟨by rw [x2]; rfl, x3⟩)
  · injection e with x1 x2; rw [x1] at h0; exact absurd h0 h3
theorem uc_len {s : ByteArray} {c X} (h0 : 0 < s.size) (h92 : s[0].toNat = 92) (h : s.data.toList = qb c ++ X) : 1 < s.size := by
  have e0 := list_of0 s h0
  rw [e0] at h
  have es : s.data.toList.length = s.size := by simp
  have key : 2 ≤ (s[0] :: s.data.toList.drop 1).length := by
    rcases uc_shape h with ⟨e, h2⟩ | ⟨e, h2⟩ | e | ⟨e, h2, h3, h4, h5⟩
    · rw [e]; simp
    · rw [e]; simp
    · rw [e]; simp
    · injection e with x1 x2; rw [x1] at h92; exact absurd h92 h3
  rw [← e0] at key
  omega
set_option maxHeartbeats 1000000 in
set_option maxRecDepth 100000 in
theorem uc_empty (s : ByteArray) (q : UInt8) (w : World) (ht : Glob w) (h : s.size = 0) :
    Calls Tryz.prog 63 #[.string s, .int .u8 q.toNat] w (UcPost s q w) := by
  obtain ⟨tp, p, herr⟩ := ht.err
  have f0 : ((s.size : Int) == 0) = true := by rw [beq_iff_eq]; omega
  have HN := Lib.hid (show UcNo s q from fun _ c X e => by
    have := congrArg List.length e
    have h2 := qb_len c
    rw [List.length_append] at this
    simp at this; omega)
  clear h
  go_enter Tryz.func63, Tryz.ntmps63
  go_wp2_with fail
  refine bodyPost_ret (results_tmp4 rfl _ _ _) rfl ?_
  exact uc_no HN.out (Below.refl _ _)
set_option maxHeartbeats 1000000 in
set_option maxRecDepth 100000 in
theorem uc_quote (s : ByteArray) (q : UInt8) (w : World) (ht : Glob w) (h0 : 0 < s.size) (hz : s.size ≤ 1000000000) (hq : q.toNat = 34 ∨ q.toNat = 39) (h : s[0] = q) :
    Calls Tryz.prog 63 #[.string s, .int .u8 q.toNat] w (UcPost s q w) := by
  obtain ⟨tp, p, herr⟩ := ht.err
  have f0 : ((s.size : Int) == 0) = false := by rw [beq_eq_false_iff_ne]; omega
  have g0 : (0 : Int) < s.size := by omega
  have HN := Lib.hid (show UcNo s q from fun h34 c X e => by
    rcases uc_first h0 e with h1 | ⟨h1, _, h2, _⟩
    · rw [h] at h1; omega
    · rw [h] at h1; subst h1; exact h2 h34)
  rcases hq with hq | hq
  · have f1 : ((q.toNat : Int) == 39) = false := by rw [beq_eq_false_iff_ne]; omega
    have f2 : ((q.toNat : Int) == 34) = true := by rw [beq_iff_eq]; omega
    clear hq
    go_enter Tryz.func63, Tryz.ntmps63
    go_wp2_with fail
    refine bodyPost_ret (results_tmp4 rfl _ _ _) rfl ?_
    exact uc_no HN.out (Below.refl _ _)
  · have f1 : ((q.toNat : Int) == 39) = true := by rw [beq_iff_eq]; omega
    clear hq
    go_enter Tryz.func63, Tryz.ntmps63
    go_wp2_with fail
    refine bodyPost_ret (results_tmp4 rfl _ _ _) rfl ?_
    exact uc_no HN.out (Below.refl _ _)
theorem byte_ne {a b : UInt8} (h : a ≠ b) : ((a.toNat : Int) == b.toNat) = false := by
  rw [beq_eq_false_iff_ne]
  intro e; exact h (UInt8.toNat_inj.1 (by omega))
set_option maxHeartbeats 1000000 in
set_option maxRecDepth 100000 in
theorem uc_high (s : ByteArray) (q : UInt8) (w : World) (ht : Glob w) (h0 : 0 < s.size) (hz : s.size ≤ 1000000000) (hq : q.toNat = 34 ∨ q.toNat = 39) (h : s[0] ≠ q) (h128 : 128 ≤ s[0].toNat) :
    Calls Tryz.prog 63 #[.string s, .int .u8 q.toNat] w (UcPost s q w) := by
  have f0 : ((s.size : Int) == 0) = false := by rw [beq_eq_false_iff_ne]; omega
  have g0 : (0 : Int) < s.size := by omega
  have f1 := byte_ne h
  have f2 : (128 : Int) ≤ s[0].toNat := by omega
  have hx : s[0].toNat < 256 := s[0].toNat_lt
  have hdec : ∃ r n : Nat, Lib.decodeGo s = (r, n) ∧ 1 ≤ n ∧ n ≤ s.size ∧ r ≤ 1114111 := by
    have e : Lib.decodeGo s = Utf8.decode s 0 := by unfold Lib.decodeGo; rw [if_neg (by omega)]
    refine ⟨(Utf8.decode s 0).1, (Utf8.decode s 0).2, e, Lib.width_pos s 0, ?_, Lib.rune_le s 0⟩
    · rw [← Lib.decodeL_drop, List.drop_zero]
      have := Lib.decodeL_le s.data.toList (List.ne_nil_of_length_pos (by simpa using h0))
      simpa using this
  obtain ⟨r, n, hd, hn1, hn2, hr⟩ := hdec
  have HO := Lib.hid (show UcOk s q r true (s.extract n s.size) from ⟨by rw [ByteArray.size_extract]; omega, by omega, by omega, fun _ c X e => by
    rcases uc_first h0 e with h1 | ⟨h1, _, _, _, h5⟩
    · omega
    · rw [h1] at h128; omega⟩)
  have hdc := Tryz.utf8_DecodeRuneInString s w ht.utf
  rw [hd] at hdc
  have gn : (n : Int) ≤ s.size := by omega
  clear hd h h128
  go_enter Tryz.func63, Tryz.ntmps63
  go_wp2_with fail
  go_at_call 62
  refine hdc.mono ?_
  rintro e w1 ⟨rfl, b1⟩
  go_wp2_with fail
  go_quiet (fail)
  go_wp2_with fail
  refine bodyPost_ret (results_tmp4 rfl _ _ _) rfl ?_
  exact uc_ok HO.out (Go.below_drewN b1 _)
set_option maxHeartbeats 1000000 in
set_option maxRecDepth 100000 in
theorem uc_plain (s : ByteArray) (q : UInt8) (w : World) (ht : Glob w) (h0 : 0 < s.size) (hz : s.size ≤ 1000000000) (hq : q.toNat = 34 ∨ q.toNat = 39) (h : s[0] ≠ q) (h128 : s[0].toNat < 128) (h92 : s[0].toNat ≠ 92) :
    Calls Tryz.prog 63 #[.string s, .int .u8 q.toNat] w (UcPost s q w) := by
  have f0 : ((s.size : Int) == 0) = false := by rw [beq_eq_false_iff_ne]; omega
  have g0 : (0 : Int) < s.size := by omega
  have g1 : (1 : Int) ≤ s.size := by omega
  have f1 := byte_ne h
  have f2 : ¬ (128 : Int) ≤ s[0].toNat := by omega
  have f3 : ((s[0].toNat : Int) == 92) = false := by rw [beq_eq_false_iff_ne]; omega
  have HO := Lib.hid (show UcOk s q s[0].toNat false (s.extract 1 s.size) from ⟨by rw [ByteArray.size_extract]; omega, by omega, by omega, fun _ c X e => by
    rcases uc_first h0 e with h1 | ⟨h1, h2, _⟩
    · omega
    · exact ⟨by rw [h1], rfl, by rw [tail_bs0, bs_data, h2]⟩⟩)
  clear h h128 h92
  go_enter Tryz.func63, Tryz.ntmps63
  go_wp2_with fail
  go_quiet (fail)
  go_wp2_with fail
  refine bodyPost_ret (results_tmp4 rfl _ _ _) rfl ?_
  exact uc_ok HO.out (Go.below_drewN (Below.refl _ _) _)
end Go.Proofs.YteccccpjhpbebaaGreatDoor
