/-
  strconv: index, contains, unhex (what UnquoteChar and unquote call).
-/
import Derived.Test.YteccccpjhpbebaaGreatDoorTq
import Derived.Lib.Bytealg
import Derived.Laws.Closers25b
namespace Go.Proofs.YteccccpjhpbebaaGreatDoor
open Go.RowKit WireM
set_option linter.unusedVariables false
set_option linter.unusedSimpArgs false

def ix (l : List UInt8) (c : UInt8) : Int := Lib.indexByte l c
theorem nat_byte (c : UInt8) : ((c.toNat : Int).toNat).toUInt8 = c := by
  rw [Int.toNat_natCast]; exact UInt8.ofNat_toNat
set_option maxRecDepth 100000 in
theorem index_any (s : ByteArray) (c : UInt8) (w : World) :
    Calls Tryz.prog 59 #[.string s, .int .u8 c.toNat] w fun e w' => e = .returned (.int .i64 (ix s.data.toList c)) ∧ w = w' := by
  obtain ⟨y, hy⟩ : ∃ y, ix s.data.toList c = y := ⟨_, rfl⟩
  rw [hy]
  have HY := Lib.hid (show Lib.indexByte s.data.toList c = y from hy)
  clear hy
  go_enter Tryz.func59, Tryz.ntmps59
  go_wp2
  rw [run_callFunc_extern Tryz.func76 (by kernel_rfl) (by kernel_rfl) (by kernel_rfl) (e := Extern.BytealgIndexByte.indexByte) (by kernel_rfl), Lib.run_indexByteString, nat_byte, HY.out]
  simp only [Result.andThen]
  rw [Oper.upon_value]
  go_wp2
  go_ret
  exact ⟨rfl, rfl⟩
def hasB (l : List UInt8) (c : UInt8) : Bool := ix l c != -1
theorem contains_any (s : ByteArray) (c : UInt8) (w : World) :
    Calls Tryz.prog 60 #[.string s, .int .u8 c.toNat] w fun e w' => e = .returned (.bool (hasB s.data.toList c)) ∧ w = w' := by
  obtain ⟨y, hy⟩ : ∃ y, hasB s.data.toList c = y := ⟨_, rfl⟩
  rw [hy]
  have HY := Lib.hid (show (ix s.data.toList c != -1) = y from hy)
  clear hy
  go_enter Tryz.func60, Tryz.ntmps60
  go_wp2_with fail
  go_at_call 59
  refine (index_any s c _).mono ?_
  rintro e w' ⟨rfl, rfl⟩
  generalize ix s.data.toList c = x at *
  go_wp2_with fail
  go_ret
  exact ⟨by rw [← HY.out]; rfl, rfl⟩
theorem ix_ge (l : List UInt8) (c : UInt8) : -1 ≤ ix l c := Lib.indexByte_ge l c
theorem ix_some {l : List UInt8} {c : UInt8} {k : Nat} (h : ix l c = k) : k < l.length ∧ l[k]? = some c ∧ ∀ j, j < k → l[j]? ≠ some c := by
  obtain ⟨h1, h2⟩ := Lib.indexByte_some h
  refine ⟨?_, h1, h2⟩
  rcases Nat.lt_or_ge k l.length with h' | h'
  · exact h'
  · rw [List.getElem?_eq_none h'] at h1; cases h1
theorem hasB_no {l : List UInt8} {c : UInt8} (h : hasB l c = false) (k : Nat) : l[k]? ≠ some c := by
  unfold hasB ix at h
  exact Lib.indexByte_none (by simpa [bne] using h) k
theorem hasB_yes {l : List UInt8} {c : UInt8} (h : hasB l c = true) : ∃ k : Nat, l[k]? = some c := by
  unfold hasB at h
  have h1 : ix l c ≠ -1 := by simpa [bne] using h
  have := ix_ge l c
  obtain ⟨k, hk⟩ : ∃ k : Nat, ix l c = k := ⟨(ix l c).toNat, by omega⟩
  exact ⟨k, (ix_some hk).2.1⟩

/-- unhex: the digit's value; of our digits it is exact. -/
def HexOut (b : UInt8) (v : Int) (ok : Bool) : Prop := 0 ≤ v ∧ v ≤ 15 ∧ ∀ k, k < 16 → b = hexd k → v = k ∧ ok = true
theorem hexd_cases {b : UInt8} {k : Nat} (hk : k < 16) (h : b = hexd k) : (48 ≤ b.toNat ∧ b.toNat ≤ 57 ∧ (k : Int) = b.toNat - 48) ∨ (97 ≤ b.toNat ∧ b.toNat ≤ 102 ∧ (k : Int) = b.toNat - 87) := by
  have := hexd_nat k hk
  rw [← h] at this
  split at this <;> omega
def UnhexPost (b : UInt8) (w : World) (e : Ending) (w' : World) : Prop := ∃ v ok, e = .returned (.tuple #[.int .i32 v, .bool ok]) ∧ HexOut b v ok ∧ w = w'
theorem unhex_any (b : UInt8) (w : World) :
    Calls Tryz.prog 79 #[.int .u8 b.toNat] w (UnhexPost b w) := by
  have hb : b.toNat < 256 := b.toNat_lt
  by_cases h1 : 48 ≤ b.toNat ∧ b.toNat ≤ 57
  · have f1 : (48 : Int) ≤ b.toNat := by omega
    have f2 : (b.toNat : Int) ≤ 57 := by omega
    have HO := Lib.hid (show HexOut b ((b.toNat : Int) - 48) true from ⟨by omega, by omega, fun k hk e => by
      rcases hexd_cases hk e with ⟨_, _, h⟩ | ⟨_, _, h⟩
      · exact ⟨by omega, rfl⟩
      · omega⟩)
    clear h1
    go_enter Tryz.func79, Tryz.ntmps79
    go_wp2_with fail
    go_ret2
    exact ⟨_, _, rfl, HO.out, rfl⟩
  · by_cases h2 : 97 ≤ b.toNat ∧ b.toNat ≤ 102
    · have f1 : (48 : Int) ≤ b.toNat := by omega
      have f2 : ¬ (b.toNat : Int) ≤ 57 := by omega
      have f3 : (97 : Int) ≤ b.toNat := by omega
      have f4 : (b.toNat : Int) ≤ 102 := by omega
      have HO := Lib.hid (show HexOut b ((b.toNat : Int) - 97 + 10) true from ⟨by omega, by omega, fun k hk e => by
        rcases hexd_cases hk e with ⟨_, _, h⟩ | ⟨_, _, h⟩
        · omega
        · exact ⟨by omega, rfl⟩⟩)
      clear h1 h2
      go_enter Tryz.func79, Tryz.ntmps79
      go_wp2_with fail
      go_ret2
      exact ⟨_, _, rfl, HO.out, rfl⟩
    · by_cases h3 : 65 ≤ b.toNat ∧ b.toNat ≤ 70
      · have f1 : (48 : Int) ≤ b.toNat := by omega
        have f2 : ¬ (b.toNat : Int) ≤ 57 := by omega
        have f3 : ¬ (97 : Int) ≤ b.toNat := by omega
        have f5 : (65 : Int) ≤ b.toNat := by omega
        have f6 : (b.toNat : Int) ≤ 70 := by omega
        have HO := Lib.hid (show HexOut b ((b.toNat : Int) - 65 + 10) true from ⟨by omega, by omega, fun k hk e => by
          rcases hexd_cases hk e with ⟨_, _, h⟩ | ⟨_, _, h⟩ <;> omega⟩)
        clear h1 h2 h3
        go_enter Tryz.func79, Tryz.ntmps79
        go_wp2_with fail
        go_ret2
        exact ⟨_, _, rfl, HO.out, rfl⟩
      · have HO := Lib.hid (show HexOut b 0 false from ⟨by omega, by omega, fun k hk e => by
          rcases hexd_cases hk e with ⟨_, _, h⟩ | ⟨_, _, h⟩ <;> omega⟩)
        by_cases f1 : (48 : Int) ≤ b.toNat
        · have f2 : ¬ (b.toNat : Int) ≤ 57 := by omega
          by_cases f3 : (97 : Int) ≤ b.toNat
          · have f4 : ¬ (b.toNat : Int) ≤ 102 := by omega
            have f5 : (65 : Int) ≤ b.toNat := by omega
            have f6 : ¬ (b.toNat : Int) ≤ 70 := by omega
            clear h1 h2 h3
            go_enter Tryz.func79, Tryz.ntmps79
            go_wp2_with fail
            go_ret2
            exact ⟨_, _, rfl, HO.out, rfl⟩
          · by_cases f5 : (65 : Int) ≤ b.toNat
            · have f6 : ¬ (b.toNat : Int) ≤ 70 := by omega
              clear h1 h2 h3
              go_enter Tryz.func79, Tryz.ntmps79
              go_wp2_with fail
              go_ret2
              exact ⟨_, _, rfl, HO.out, rfl⟩
            · clear h1 h2 h3
              go_enter Tryz.func79, Tryz.ntmps79
              go_wp2_with fail
              go_ret2
              exact ⟨_, _, rfl, HO.out, rfl⟩
        · have f3 : ¬ (97 : Int) ≤ b.toNat := by omega
          have f5 : ¬ (65 : Int) ≤ b.toNat := by omega
          clear h1 h2 h3
          go_enter Tryz.func79, Tryz.ntmps79
          go_wp2_with fail
          go_ret2
          exact ⟨_, _, rfl, HO.out, rfl⟩
end Go.Proofs.YteccccpjhpbebaaGreatDoor
