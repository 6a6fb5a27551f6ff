/-
  THE READER OF PACKAGE wire, continued: Num, Int, Text.
-/
import Derived.Test.YtenlbohacgamlaaDoorRd
namespace Go.Proofs.YtenlbohacgamlaaDoor
open Go.RowKit WireM
set_option linter.unusedVariables false
set_option linter.unusedSimpArgs false

/-- What a read leaves: the value and the rest behind it; or the zero value and a reader that has failed. -/
def RdPost {α : Type} (b : Nat) (w : World) (f : Bool) (mk : α → Value) (z : Value) (r : Option (α × List UInt8)) (en : Ending) (w' : World) : Prop :=
  match r with
  | some (v, t) => en = .returned (mk v) ∧ RdOut b w w' (bs t) f
  | none => en = .returned z ∧ RdOut b w w' (bs []) true
theorem rdPost_none {α : Type} {b : Nat} {w w' : World} {f : Bool} {mk : α → Value} {z z' : Value} {r : Option (α × List UInt8)} (h : r = none) (hz : z' = z) (ho : RdOut b w w' (bs []) true) : RdPost b w f mk z r (.returned z') w' := by
  subst h; subst hz; exact ⟨rfl, ho⟩
theorem rdPost_some {α : Type} {b : Nat} {w w' : World} {f : Bool} {mk : α → Value} {z z' : Value} {r : Option (α × List UInt8)} {v : α} {t : List UInt8} {t' : ByteArray} (h : r = some (v, t)) (hz : z' = mk v) (ht : t' = bs t) (ho : RdOut b w w' t' f) : RdPost b w f mk z r (.returned z') w' := by
  subst h; subst hz; subst ht; exact ⟨rfl, ho⟩

theorem dgMax_none (b : Nat) (s : ByteArray) (f : Bool) (e : UInt8) (z : Int) (w : World) (h : Rd w b s f) (hs : s.size ≤ 1099511627776) (hz : (e.toNat : Int) = z) (hd : dgMax e s.data.toList = none) :
    Calls Tryd.prog 48 #[.pointer (some ⟨b, 0, none⟩), .int .u64 9223372036854775807, .int .u8 z] w fun en w' => en = .returned (.int .u64 0) ∧ RdOut b w w' (bs []) true := by
  subst hz
  refine (digits_any b s f 9223372036854775807 e w h (by omega) (by omega) hs).mono fun en w' hp => ?_
  rw [show scan (9223372036854775807 : Int).toNat e false 0 s.data.toList = none from hd] at hp
  exact hp
theorem dgMax_some (b : Nat) (s : ByteArray) (f : Bool) (e : UInt8) (z : Int) (w : World) (h : Rd w b s f) (hs : s.size ≤ 1099511627776) (hz : (e.toNat : Int) = z) (n : Nat) (t : List UInt8) (hd : dgMax e s.data.toList = some (n, t)) :
    Calls Tryd.prog 48 #[.pointer (some ⟨b, 0, none⟩), .int .u64 9223372036854775807, .int .u8 z] w fun en w' => en = .returned (.int .u64 n) ∧ RdOut b w w' (bs t) f := by
  subst hz
  refine (digits_any b s f 9223372036854775807 e w h (by omega) (by omega) hs).mono fun en w' hp => ?_
  rw [show scan (9223372036854775807 : Int).toNat e false 0 s.data.toList = some (n, t) from hd] at hp
  exact hp
theorem dgMin_none (b : Nat) (s : ByteArray) (f : Bool) (w : World) (h : Rd w b s f) (hs : s.size ≤ 1099511627776) (hd : dgMin s.data.toList = none) :
    Calls Tryd.prog 48 #[.pointer (some ⟨b, 0, none⟩), .int .u64 9223372036854775808, .int .u8 59] w fun en w' => en = .returned (.int .u64 0) ∧ RdOut b w w' (bs []) true := by
  refine (digits_any b s f 9223372036854775808 59 w h (by omega) (by omega) hs).mono fun en w' hp => ?_
  rw [show scan (9223372036854775808 : Int).toNat 59 false 0 s.data.toList = none from hd] at hp
  exact hp
theorem dgMin_some (b : Nat) (s : ByteArray) (f : Bool) (w : World) (h : Rd w b s f) (hs : s.size ≤ 1099511627776) (n : Nat) (t : List UInt8) (hd : dgMin s.data.toList = some (n, t)) :
    Calls Tryd.prog 48 #[.pointer (some ⟨b, 0, none⟩), .int .u64 9223372036854775808, .int .u8 59] w fun en w' => en = .returned (.int .u64 n) ∧ RdOut b w w' (bs t) f := by
  refine (digits_any b s f 9223372036854775808 59 w h (by omega) (by omega) hs).mono fun en w' hp => ?_
  rw [show scan (9223372036854775808 : Int).toNat 59 false 0 s.data.toList = some (n, t) from hd] at hp
  exact hp

theorem rNum_any (b : Nat) (s : ByteArray) (f : Bool) (w : World) (h : Rd w b s f) (hs : s.size ≤ 1099511627776) :
    Calls Tryd.prog 24 #[.pointer (some ⟨b, 0, none⟩)] w (RdPost b w f (Value.int .i64) (.int .i64 0) (rdNum s.data.toList)) := by
  rcases hd : dgMax 59 s.data.toList with _ | ⟨n, t⟩
  · have HR := Lib.hid (show rdNum s.data.toList = none by simp [rdNum, hd])
    have HD := Lib.hid hd
    clear hd
    go_enter Tryd.func24, Tryd.ntmps24
    go_wp2_with (go_at_call 48; refine (dgMax_none b s f 59 _ w h hs rfl HD.out).mono ?_; rintro e w' ⟨rfl, ho⟩)
    go_ret
    exact rdPost_none HR.out rfl ho
  · have HR := Lib.hid (show rdNum s.data.toList = some ((n : Int), t) by simp [rdNum, hd])
    have hn := dgMax_le hd
    have HD := Lib.hid hd
    clear hd
    go_enter Tryd.func24, Tryd.ntmps24
    go_wp2_with (go_at_call 48; refine (dgMax_some b s f 59 _ w h hs rfl n t HD.out).mono ?_; rintro e w' ⟨rfl, ho⟩)
    go_ret
    exact rdPost_some HR.out rfl rfl ho

theorem cut_no (s p : ByteArray) (c : UInt8) (w : World) (hp : p.data.toList = [c]) (h : s.data.toList.head? ≠ some c) :
    Calls Tryd.prog 50 #[.string s, .string p] w fun e w' => e = .returned (.tuple #[.string s, .bool false]) ∧ w = w' := by
  refine (Tryd.strings_CutPrefix s p w).mono fun e w' ⟨he, hw⟩ => ⟨?_, hw.symm⟩
  have hf : Lib.hasPrefix s.data.toList p.data.toList = false := by
    rw [hp, Lib.hasPrefix]
    cases hL : s.data.toList with
    | nil => rfl
    | cons a r =>
      rw [hL] at h
      have : c ≠ a := fun e => h (by simp [e])
      simp [List.isPrefixOf, this]
  rw [he, Lib.trimPrefix, hf]
  exact congrArg (fun x => Ending.returned (.tuple #[.string x, .bool false])) (ext rfl)
theorem cut_yes (s p : ByteArray) (c : UInt8) (r : List UInt8) (w : World) (hp : p.data.toList = [c]) (h : s.data.toList = c :: r) :
    Calls Tryd.prog 50 #[.string s, .string p] w fun e w' => e = .returned (.tuple #[.string (bs r), .bool true]) ∧ w = w' := by
  refine (Tryd.strings_CutPrefix s p w).mono fun e w' ⟨he, hw⟩ => ⟨?_, hw.symm⟩
  rw [he, Lib.trimPrefix, hp, h]
  simp [Lib.hasPrefix, List.isPrefixOf, bs]

theorem neg_wrap (n : Nat) (h : n ≤ 9223372036854775808) : Value.int .i64 (wrap64 (-wrap64 (n : Int))) = Value.int .i64 (-(n : Int)) := by
  have e : wrap64 (-wrap64 (n : Int)) = -(n : Int) := by
    rcases Nat.lt_or_ge n 9223372036854775808 with h' | h'
    · rw [IntWalk.wrap64_in (n : Int) (by omega), IntWalk.wrap64_in (-(n : Int)) (by omega)]
    · obtain rfl : n = 9223372036854775808 := by omega
      decide +kernel
  rw [e]

set_option maxHeartbeats 1000000 in
theorem rInt_any (b : Nat) (s : ByteArray) (f : Bool) (w : World) (h : Rd w b s f) (hs : s.size ≤ 1099511627776) :
    Calls Tryd.prog 26 #[.pointer (some ⟨b, 0, none⟩)] w (RdPost b w f (Value.int .i64) (.int .i64 0) (rdInt s.data.toList)) := by
  have c0 := h.c0
  have f0 := h.f0
  have f1 := h.f1
  by_cases hp : s.data.toList.head? = some 45
  · obtain ⟨r, hL⟩ : ∃ r, s.data.toList = 45 :: r := by
      cases hL : s.data.toList with
      | nil => simp [hL] at hp
      | cons a r => simp [hL] at hp; exact ⟨r, by rw [hp]⟩
    have h1 := h.set0 (bs r)
    have hsz : (bs r).size ≤ 1099511627776 := by
      have : s.size = r.length + 1 := by rw [← ByteArray.size_data, ← Array.length_toList, hL]; rfl
      rw [bs_size]; omega
    have HL := Lib.hid hL
    clear hL hp
    rcases hd : dgMin r with _ | ⟨n, t⟩
    · have HR := Lib.hid (show rdInt s.data.toList = none by rw [HL.out]; simp [rdInt, hd])
      have HD := Lib.hid hd
      clear hd
      go_enter Tryd.func26, Tryd.ntmps26
      go_wp2_with fail
      go_at_call 50
      refine (cut_yes s _ 45 r w rfl HL.out).mono ?_
      rintro e w' ⟨rfl, rfl⟩
      go_wp2_with fail
      go_at_call 48
      refine (dgMin_none b (bs r) f _ h1 hsz HD.out).mono ?_
      rintro e w' ⟨rfl, ho⟩
      go_wp2_with fail
      go_at_call 51
      refine (fail_any b _ _ w' ho.1).mono ?_
      rintro e w2 ⟨rfl, ho2⟩
      go_wp2_with fail
      go_ret
      exact rdPost_none HR.out rfl ⟨ho2.1, grownBy_trans (grownBy_trans (grownBy_set _ _ _ _) ho.2) ho2.2⟩
    · by_cases hn : n = 0
      · subst hn
        have HR := Lib.hid (show rdInt s.data.toList = none by rw [HL.out]; simp [rdInt, hd])
        have HD := Lib.hid hd
        clear hd
        go_enter Tryd.func26, Tryd.ntmps26
        go_wp2_with fail
        go_at_call 50
        refine (cut_yes s _ 45 r w rfl HL.out).mono ?_
        rintro e w' ⟨rfl, rfl⟩
        go_wp2_with fail
        go_at_call 48
        refine (dgMin_some b (bs r) f _ h1 hsz 0 t HD.out).mono ?_
        rintro e w' ⟨rfl, ho⟩
        go_wp2_with fail
        go_at_call 51
        refine (fail_any b _ _ w' ho.1).mono ?_
        rintro e w2 ⟨rfl, ho2⟩
        go_wp2_with fail
        go_ret
        exact rdPost_none HR.out rfl ⟨ho2.1, grownBy_trans (grownBy_trans (grownBy_set _ _ _ _) ho.2) ho2.2⟩
      · have HR := Lib.hid (show rdInt s.data.toList = some (-(n : Int), t) by rw [HL.out]; simp [rdInt, hd, hn])
        have hle := dgMin_le hd
        have HD := Lib.hid hd
        have hn0 : ((n : Int) == 0) = false := by simp; omega
        clear hd
        go_enter Tryd.func26, Tryd.ntmps26
        go_wp2_with fail
        go_at_call 50
        refine (cut_yes s _ 45 r w rfl HL.out).mono ?_
        rintro e w' ⟨rfl, rfl⟩
        go_wp2_with fail
        go_at_call 48
        refine (dgMin_some b (bs r) f _ h1 hsz n t HD.out).mono ?_
        rintro e w' ⟨rfl, ho⟩
        go_wp2_with fail
        go_ret
        exact rdPost_some HR.out (neg_wrap n hle) rfl ⟨ho.1, grownBy_trans (grownBy_set _ _ _ _) ho.2⟩
  · have HR := Lib.hid (show rdInt s.data.toList = rdNum s.data.toList by
      cases hL : s.data.toList with
      | nil => rfl
      | cons a r =>
        rw [hL] at hp
        have : a ≠ 45 := fun e => hp (by simp [e])
        simp [rdInt, this])
    have HP := Lib.hid hp
    clear hp
    go_enter Tryd.func26, Tryd.ntmps26
    go_wp2_with fail
    go_at_call 50
    refine (cut_no s _ 45 w rfl HP.out).mono ?_
    rintro e w' ⟨rfl, rfl⟩
    go_wp2_with fail
    go_at_call 24
    refine (rNum_any b s f w h hs).mono ?_
    rintro e w' ho
    rcases hr : rdNum s.data.toList with _ | ⟨v, t⟩
    · rw [hr] at ho HR
      obtain ⟨rfl, ho⟩ := ho
      have HQ := Lib.hid hr
      clear hr
      go_wp2_with fail
      go_ret
      exact rdPost_none HR.out rfl ho
    · rw [hr] at ho HR
      obtain ⟨rfl, ho⟩ := ho
      have HQ := Lib.hid hr
      clear hr
      go_wp2_with fail
      go_ret
      exact rdPost_some HR.out rfl rfl ho

end Go.Proofs.YtenlbohacgamlaaDoor
