/-
  THE REFERENCE's READER, continued: Text.
-/
import Derived.Test.YtenlbohacgamlaaDoorRb
namespace Go.Proofs.YtenlbohacgamlaaDoor
open Go.RowKit WireM
set_option linter.unusedVariables false
set_option linter.unusedSimpArgs false

theorem drop_bs (s : ByteArray) (n : Nat) : (s.extract n s.size).data.toList = s.data.toList.drop n := by
  rw [extract_end]; rfl

set_option maxHeartbeats 2000000 in
theorem qText_any (b : Nat) (s : ByteArray) (f : Bool) (w : World) (h : Rq w b s f) (hf : f = true → s = bs []) (hs : s.size ≤ 1099511627776) :
    Calls Tryd.prog 29 #[.pointer (some ⟨b, 0, none⟩)] w (RqPost b w f Value.string (.string (bs [])) (rdText s.data.toList)) := by
  rcases hd : dgMax 58 s.data.toList with _ | ⟨n, t⟩
  · have HR := Lib.hid (show rdText s.data.toList = none by simp [rdText, hd])
    have HD := Lib.hid hd
    clear hd
    go_enter Tryd.func29, Tryd.ntmps29
    go_wp2_with fail
    go_at_call 49
    refine (number_none b s f 58 58 w h hs rfl (by decide) (by decide) HD.out).mono ?_
    rintro e w1 ⟨rfl, ho⟩
    have c0 := ho.1.c0
    have c1 := ho.1.c1
    have hz : (bs []).size = 0 := rfl
    go_wp2_with fail
    go_at_call 53
    refine (qfail_any b _ _ w1 ho.1).mono ?_
    rintro e w2 ⟨rfl, ho2⟩
    go_wp2_with fail
    go_ret
    exact rqPost_none HR.out rfl (ho.tr ho2)
  · obtain rfl : f = false := by
      cases f
      · rfl
      · rw [hf rfl] at hd
        exact absurd hd (by simp [dgMax, scan, bs])
    have hn := dgMax_le hd
    have hlen := dgMax_len hd
    obtain ⟨s1, hs1⟩ : ∃ s1, s1 = bs t := ⟨_, rfl⟩
    have hsz : s1.size ≤ 1099511627776 := by
      have : s.size = s.data.toList.length := by simp
      rw [hs1, bs_size]; omega
    have ht : t = s1.data.toList := by rw [hs1]; rfl
    subst ht
    clear hs1 hlen hf
    have HD := Lib.hid hd
    clear hd
    go_enter Tryd.func29, Tryd.ntmps29
    go_wp2_with fail
    go_at_call 49
    refine (number_some b s false 58 58 w h hs rfl (by decide) (by decide) n _ HD.out).mono ?_
    rintro e w1 ⟨rfl, ho⟩
    rw [bs_of] at ho
    have c0 := ho.1.c0
    have c1 := ho.1.c1
    have f0 := ho.1.f0
    by_cases hlt : n < s1.size
    · have hx : (s1.extract n s1.size).size ≤ 1099511627776 := by
        rw [size_list, drop_bs, List.length_drop, ← size_list]; omega
      have r1 := ho.1.set0 (s1.extract n s1.size)
      have g1 := grownBy_set w1 b 0 (.string (s1.extract n s1.size))
      by_cases hc : (s1[n].toNat : Int) = 44
      · have HR := Lib.hid (rdText_hit HD.out (by rw [head_at _ _ hlt]; exact byte_eq hc))
        have HL := Lib.hid (show (s1.extract n s1.size).data.toList = 44 :: s1.data.toList.drop (n + 1) by
          rw [drop_bs, drop_at _ _ hlt]
          have := byte_eq hc
          rw [Option.some.injEq] at this
          rw [this])
        clear hc
        go_wp2_with fail
        go_at_call 54
        refine (qclose_yes b _ _ 44 _ 44 _ r1 rfl hx HL.out).mono ?_
        rintro e2 w2 ⟨rfl, ho2⟩
        go_wp2_with fail
        go_ret
        exact rqPost_some HR.out (congrArg _ (extract_to s1 n)) rfl ⟨ho2.1, grownBy_trans (grownBy_trans ho.2 g1) ho2.2⟩
      · have HR := Lib.hid (rdText_miss HD.out (by rw [head_at _ _ hlt]; exact byte_ne hc))
        have HL := Lib.hid (show (s1.extract n s1.size).data.toList.head? ≠ some 44 by
          rw [drop_bs, head_at _ _ hlt]; exact byte_ne hc)
        clear hc
        go_wp2_with fail
        go_at_call 54
        refine (qclose_no b _ _ 44 44 _ r1 rfl hx HL.out).mono ?_
        rintro e2 w2 ⟨rfl, ho2⟩
        go_wp2_with fail
        go_ret
        exact rqPost_none HR.out rfl ⟨ho2.1, grownBy_trans (grownBy_trans ho.2 g1) ho2.2⟩
    · have HR := Lib.hid (rdText_miss HD.out (by rw [head_past _ _ (by omega)]; simp))
      go_wp2_with fail
      go_at_call 53
      refine (qfail_any b _ _ w1 ho.1).mono ?_
      rintro e w2 ⟨rfl, ho2⟩
      go_wp2_with fail
      go_ret
      exact rqPost_none HR.out rfl ⟨ho2.1, grownBy_trans ho.2 ho2.2⟩
end Go.Proofs.YtenlbohacgamlaaDoor
