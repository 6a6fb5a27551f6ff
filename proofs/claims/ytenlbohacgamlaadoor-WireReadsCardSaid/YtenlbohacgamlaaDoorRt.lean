/-
  THE READER OF PACKAGE wire, continued: Text.
-/
import Derived.Test.YtenlbohacgamlaaDoorRe
namespace Go.Proofs.YtenlbohacgamlaaDoor
open Go.RowKit WireM
set_option linter.unusedVariables false
set_option linter.unusedSimpArgs false

theorem rdText_miss {L t : List UInt8} {n : Nat} (hd : dgMax 58 L = some (n, t)) (h : (t.drop n).head? ≠ some 44) : rdText L = none := by
  unfold rdText; rw [hd]; exact if_neg h
theorem rdText_hit {L t : List UInt8} {n : Nat} (hd : dgMax 58 L = some (n, t)) (h : (t.drop n).head? = some 44) : rdText L = some (bs (t.take n), t.drop (n + 1)) := by
  unfold rdText; rw [hd]; exact if_pos h
theorem head_at (s : ByteArray) (n : Nat) (h : n < s.size) : (s.data.toList.drop n).head? = some s[n] := by
  rw [drop_at s n h]; rfl
theorem head_past (s : ByteArray) (n : Nat) (h : s.size ≤ n) : (s.data.toList.drop n).head? = none := by
  rw [List.drop_eq_nil_of_le (by simpa using h)]; rfl
theorem extract_to (s : ByteArray) (n : Nat) : s.extract 0 n = bs (s.data.toList.take n) := by
  refine ext ?_
  rw [Lib.extract_data, bs_data]; simp
theorem byte_ne {c : UInt8} (h : ¬ (c.toNat : Int) = 44) : (some c : Option UInt8) ≠ some 44 := fun e => h (by simp at e; subst e; rfl)
theorem byte_eq {c : UInt8} (h : (c.toNat : Int) = 44) : (some c : Option UInt8) = some 44 := by
  congr 1; exact UInt8.toNat_inj.1 (by show c.toNat = 44; omega)

set_option maxHeartbeats 1000000 in
theorem rText_any (b : Nat) (s : ByteArray) (f : Bool) (w : World) (h : Rd w b s f) (hs : s.size ≤ 1099511627776) :
    Calls Tryd.prog 28 #[.pointer (some ⟨b, 0, none⟩)] w (RdPost b w f Value.string (.string (bs [])) (rdText s.data.toList)) := by
  rcases hd : dgMax 58 s.data.toList with _ | ⟨n, t⟩
  · have HR := Lib.hid (show rdText s.data.toList = none by simp [rdText, hd])
    have HD := Lib.hid hd
    clear hd
    go_enter Tryd.func28, Tryd.ntmps28
    go_wp2_with fail
    go_at_call 48
    refine (dgMax_none b s f 58 _ w h hs rfl HD.out).mono ?_
    rintro e w1 ⟨rfl, ho⟩
    have c0 := ho.1.c0
    have hz : (bs []).size = 0 := rfl
    go_wp2_with fail
    go_at_call 51
    refine (fail_any b _ _ w1 ho.1).mono ?_
    rintro e w2 ⟨rfl, ho2⟩
    go_wp2_with fail
    go_ret
    exact rdPost_none HR.out rfl ⟨ho2.1, grownBy_trans ho.2 ho2.2⟩
  · have hn := dgMax_le hd
    have hlen := dgMax_len hd
    obtain ⟨s1, hs1⟩ : ∃ s1, s1 = bs t := ⟨_, rfl⟩
    have hsz : s1.size ≤ 1099511627776 := by
      have : s.size = s.data.toList.length := by simp
      rw [hs1, bs_size]; omega
    have ht : t = s1.data.toList := by rw [hs1]; rfl
    subst ht
    clear hs1 hlen
    have HD := Lib.hid hd
    clear hd
    go_enter Tryd.func28, Tryd.ntmps28
    go_wp2_with fail
    go_at_call 48
    refine (dgMax_some b s f 58 _ w h hs rfl n _ HD.out).mono ?_
    rintro e w1 ⟨rfl, ho⟩
    rw [bs_of] at ho
    have c0 := ho.1.c0
    have f0 := ho.1.f0
    by_cases hlt : n < s1.size
    · by_cases hc : (s1[n].toNat : Int) = 44
      · have HR := Lib.hid (rdText_hit HD.out (by rw [head_at _ _ hlt]; exact byte_eq hc))
        go_wp2_with fail
        go_ret
        exact rdPost_some HR.out (congrArg _ (extract_to s1 n)) (extract_end s1 (n + 1)) ⟨ho.1.set0 _, grownBy_trans ho.2 (grownBy_set _ _ _ _)⟩
      · have HR := Lib.hid (rdText_miss HD.out (by rw [head_at _ _ hlt]; exact byte_ne hc))
        have hb : ((s1[n].toNat : Int) != 44) = true := by rw [bne_iff_ne]; exact hc
        go_wp2_with fail
        go_at_call 51
        refine (fail_any b _ _ w1 ho.1).mono ?_
        rintro e w2 ⟨rfl, ho2⟩
        go_wp2_with fail
        go_ret
        exact rdPost_none HR.out rfl ⟨ho2.1, grownBy_trans ho.2 ho2.2⟩
    · have HR := Lib.hid (rdText_miss HD.out (by rw [head_past _ _ (by omega)]; simp))
      go_wp2_with fail
      go_at_call 51
      refine (fail_any b _ _ w1 ho.1).mono ?_
      rintro e w2 ⟨rfl, ho2⟩
      go_wp2_with fail
      go_ret
      exact rdPost_none HR.out rfl ⟨ho2.1, grownBy_trans ho.2 ho2.2⟩
end Go.Proofs.YtenlbohacgamlaaDoor
